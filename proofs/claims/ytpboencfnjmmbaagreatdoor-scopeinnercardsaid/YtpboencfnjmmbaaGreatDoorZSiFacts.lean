/-
 The closed facts of the law's row, each by itself.
 Conditions: none.
-/
import Derived.Test.YtpboencfnjmmbaaGreatDoorCards
import Derived.Test.YtpboencfnjmmbaaGreatDoorTie
import Derived.ProofKit
set_option maxRecDepth 1000000
namespace Go.Proofs.YtpboencfnjmmbaaGreatDoor.scopeInner
open Go.RowKit
theorem and_mk {a b : Bool} (h : a = true) (k : b = true) : (a && b) = true := by rw [h, k]; rfl
theorem k0 : (Rows.scopeInnerRow.wf (OpenSpec.ofChange (OpenSpec.ofChange Rows.scopeInnerSpec).bare)) = true := by kernel_rfl
theorem k1 : (laidOutB Tryz.prog) = true := by kernel_rfl
theorem k2 : (mapsRowed Tryz.prog) = true := by kernel_rfl
theorem k3 : (Tryz.f11.params.all (Tryz.prog.readableRec ·)) = true := by kernel_rfl
theorem k4 : (namedTie Tryz.prog Rows.scopeInnerRow.named (OpenSpec.ofChange Rows.scopeInnerSpec).bare.vars) = true := by kernel_rfl
theorem k5 : ((Rows.scopeInnerRow.stops == [])) = true := by kernel_rfl
theorem k6 : ((Tryz.prog.stops == [])) = true := by kernel_rfl
theorem k7 : ((Rows.scopeInnerRow.knobs == [])) = true := by kernel_rfl
theorem k8 : ((Tryz.prog.stopKnobs == [])) = true := by kernel_rfl
theorem k9 : ((Rows.scopeInnerRow.inPlace == Tryz.prog.inPlace 11)) = true := by kernel_rfl
theorem k10 : ((Rows.scopeInnerRow.unfollowed == Tryz.prog.unfollowed 11)) = true := by kernel_rfl
theorem k11 : ((Rows.scopeInnerRow.recurses == Tryz.prog.recurses 11)) = true := by kernel_rfl
theorem k12 : ((Rows.scopeInnerRow.named == Tryz.prog.varsNamed 11)) = true := by kernel_rfl
theorem k13 : ((Rows.scopeInnerRow.maps == (Tryz.f11.params.toList ++ (OpenSpec.ofChange Rows.scopeInnerSpec).bare.plain.varTypes Tryz.prog).any (Tryz.prog.mapsRec ·))) = true := by kernel_rfl
theorem k14 : ((Rows.scopeInnerRow.ifaces == (Tryz.f11.params.toList ++ (OpenSpec.ofChange Rows.scopeInnerSpec).bare.plain.varTypes Tryz.prog).any (Tryz.prog.ifacesRec ·))) = true := by kernel_rfl
theorem k15 : ((Rows.scopeInnerRow.mapsOut == Tryz.prog.mapsAmong Tryz.f11.resultTypes.toList)) = true := by kernel_rfl
theorem k16 : ((Rows.scopeInnerRow.loops == (Tryz.f11.params.toList ++ (OpenSpec.ofChange Rows.scopeInnerSpec).bare.plain.varTypes Tryz.prog).any (Tryz.prog.loopsFrom ·))) = true := by kernel_rfl
theorem k17 : ((Rows.scopeInnerRow.wideKeys == (Tryz.f11.params.toList ++ (OpenSpec.ofChange Rows.scopeInnerSpec).bare.plain.varTypes Tryz.prog ++ Tryz.f11.resultTypes.toList).any (Tryz.prog.wideKeysFrom ·))) = true := by kernel_rfl
theorem k18 : ((OpenSpec.ofChange Rows.scopeInnerSpec).bare.vars.all (Tryz.prog.varReadable ·)) = true := by kernel_rfl
theorem k19 : (Tryz.f11.resultTypes.all (fun t => Tryz.prog.readableRec t && decide (t < Tryz.prog.types.size))) = true := by kernel_rfl
theorem k20 : ((Rows.scopeInnerRow.ifacesOut == Tryz.f11.resultTypes.toList.any (Tryz.prog.ifacesRec ·))) = true := by kernel_rfl
theorem k21 : ((Rows.scopeInnerRow.loopsOut == Tryz.f11.resultTypes.toList.any (Tryz.prog.loopsFrom ·))) = true := by kernel_rfl
theorem k22 : ((Rows.scopeInnerRow.plainKeys == Tryz.prog.plainKeys)) = true := by kernel_rfl
theorem k23 : (Rows.scopeInnerRow.shortTexts.isNone) = true := by kernel_rfl
theorem k24 : (Tryz.prog.stopsHeard) = true := by kernel_rfl
theorem k25 : (Tryz.prog.mayEnter) = true := by kernel_rfl
theorem k26 : ((Rows.scopeInnerRow.lifted == Tryz.prog.liftsFinal)) = true := by kernel_rfl
theorem k27 : ((Tryz.prog.make == some Rows.scopeInnerRow.make)) = true := by kernel_rfl
theorem k28 : ((Rows.scopeInnerRow.kinds == (if Rows.scopeInnerRow.domain.isEmpty then [] else Tryz.f11.params.toList.map fun t => match Tryz.prog.underlying t with | some (.int k) => some k | _ => none))) = true := by kernel_rfl
theorem k29 : ((Rows.scopeInnerRow.pinned == Rows.scopeInnerRow.pinnedBy)) = true := by kernel_rfl
theorem k30 : ((Rows.scopeInnerRow.veiled == (Tryz.f11.params.toList ++ (OpenSpec.ofChange Rows.scopeInnerSpec).bare.plain.varTypes Tryz.prog ++ Tryz.f11.resultTypes.toList).any (Tryz.prog.veiledRec ·))) = true := by kernel_rfl
theorem k31 : (Rows.scopeInnerRow.veiledFits Tryz.prog Tryz.f11.params.toList (Tryz.f11.params.toList ++ (OpenSpec.ofChange Rows.scopeInnerSpec).bare.plain.varTypes Tryz.prog ++ Tryz.f11.resultTypes.toList)) = true := by kernel_rfl
theorem closed : joinedFacts Tryz.prog 11 Tryz.f11 (OpenSpec.ofChange Rows.scopeInnerSpec).bare Rows.scopeInnerRow = true := by
 unfold joinedFacts
 exact and_mk (and_mk (and_mk (and_mk (and_mk (and_mk (and_mk (and_mk (and_mk (and_mk (and_mk (and_mk (and_mk (and_mk (and_mk (and_mk (and_mk (and_mk (and_mk (and_mk (and_mk (and_mk (and_mk (and_mk (and_mk (and_mk (and_mk (and_mk (and_mk (and_mk (and_mk (k0) k1) k2) k3) k4) k5) k6) k7) k8) k9) k10) k11) k12) k13) k14) k15) k16) k17) k18) k19) k20) k21) k22) k23) k24) k25) k26) k27) k28) k29) k30) k31
end Go.Proofs.YtpboencfnjmmbaaGreatDoor.scopeInner
