/-
 From what the rows of CodeTexts, CodePrints list to what the contracts ask for; and a world in which all nine variables are so laid.
 Conditions: none.
-/
import Derived.Test.YtenfphbhofibjaaGreatDoorRows
import Derived.Test.YtenfphbhofibjaaGreatDoorZCt
import Derived.Deep.DeepWitnessRowRef
import Derived.Stop.LaidErr
import Derived.Lib.LaidIn
import Derived.Lib.LaidU8
import Derived.Deep.Strs
set_option linter.unusedVariables false
namespace Go.Proofs.YtenfphbhofibjaaGreatDoor
open Go.Shelf
open Go.ChangeShapes Go.WideShapes Go.ChangeAt Go.RowKit Go.Lib
theorem own : ownKnob Tryz.prog.godebug = none := by kernel_rfl
def flatCells (d : DataW Unit) : Array Value :=
 match d with
 | .agg ps => (ps.map fun p => match p with | .lit l => l.value | _ => undef).toArray
 | _ => #[]
def rowCells (d : DataW Unit) : Array Value :=
 match d with
 | .slice ps _ => (ps.map fun p => match p with | .lit l => l.value | _ => undef).toArray
 | _ => #[]
def errText (d : DataW Unit) : Array UInt8 :=
 match d with
 | .iface _ (.ptr (.agg [.lit (.string t)])) => t.toArray
 | _ => #[]
def errsMore : Array Obj := #[.cells #[.string ⟨errText Rows.laid_strconv_ErrRange⟩] 276, .cells #[.string ⟨errText Rows.laid_strconv_ErrSyntax⟩] 276, .cells (rowCells Rows.laid_paling_palinglaw09_words) 9]
def putIn (h : Array Obj) (g : Nat) (cs : Array Value) : Array Obj := h.modify g fun
 | .cells _ t frozen => .cells cs t frozen
 | o => o
def laidIn (n : Nat) (w0 : World) : World :=
 let h0 := putIn w0.heap 5 (flatCells Rows.laid_internal_strconv_uint64pow10)
 let h1 := putIn h0 6 (flatCells Rows.laid_math_bits_deBruijn32tab)
 let h2 := putIn h1 7 (flatCells Rows.laid_math_bits_deBruijn64tab)
 let h3 := putIn h2 9 #[.iface 274 (.pointer (some ⟨n, 0, none⟩))]
 let h4 := putIn h3 8 #[.iface 274 (.pointer (some ⟨n + 1, 0, none⟩))]
 let h5 := putIn h4 3 (flatCells Rows.laid_paling_tree_signs)
 let h6 := putIn h5 1 (flatCells Rows.laid_paling_scope_words)
 let h7 := putIn h6 4 (flatCells Rows.laid_paling_code_words)
 let h8 := putIn h7 2 #[.slice (some ⟨n + 2, 0, none⟩) 22 22]
 { w0 with heap := h8 }
def listed : List (String × DataW Unit) := [("math/bits.deBruijn32tab", Rows.laid_math_bits_deBruijn32tab), ("math/bits.deBruijn64tab", Rows.laid_math_bits_deBruijn64tab), ("internal/strconv.uint64pow10", Rows.laid_internal_strconv_uint64pow10), ("strconv.ErrRange", Rows.laid_strconv_ErrRange), ("strconv.ErrSyntax", Rows.laid_strconv_ErrSyntax), ("paling/tree.signs", Rows.laid_paling_tree_signs), ("paling/scope.words", Rows.laid_paling_scope_words), ("paling/code.words", Rows.laid_paling_code_words), ("paling/palinglaw09.words", Rows.laid_paling_palinglaw09_words)]
theorem laid_met (os : Os) (args : Array Value) : laidMet Tryz.prog listed ((laidIn (World.settled Tryz.prog os).heap.size (World.holding Tryz.prog os ⟨errsMore, #[], []⟩)).forCall (fun _ _ => 0) ⟨#[], args, []⟩).memory :=
 laidMet_of_run' 8 (by kernel_rfl) (by kernel_rfl)
theorem star : "*" ++ "errors.errorString" = "*errors.errorString" := by decide
theorem rowErr (u : TypeId) (h : Tryz.prog.typeName? 3 u = some "*errors.errorString") : u = 274 :=
 typeName_ptr_named (nm := "errors.errorString") (by rw [star]; kernel_rfl) (by kernel_rfl) (by decide) u (by rw [star]; exact h)
theorem lv_of {W : World} (hL : laidMet Tryz.prog listed W) : Lv W := by
 have h3 := hL.tail.tail.tail
 have e : Rows.laid_strconv_ErrRange = (.iface "*errors.errorString" (.ptr (.agg [.lit (.string [118, 97, 108, 117, 101, 32, 111, 117, 116, 32, 111, 102, 32, 114, 97, 110, 103, 101])])) : DataW Unit) := rfl
 rw [e] at h3
 obtain ⟨a, s, hv, _⟩ := laid_sentinel (g := 9) (ti := 195) (tp := 274) (te := 276) (ts := 9) h3 (by kernel_rfl) (by kernel_rfl) Tryz.underlying195 rowErr Tryz.underlying274 Tryz.underlying276 rfl rfl Tryz.underlying9 (by kernel_rfl) (by kernel_rfl)
 refine ⟨9, by kernel_rfl, ?_, _, _, hv⟩
 have h0 := World.var?_cell (g := 9) (by kernel_rfl) hv 0
 rcases Nat.lt_or_ge 9 W.heap.size with h1 | h1
 ·exact h1
 ·simp [World.cell?, Array.getElem?_eq_none h1] at h0
theorem tabIs_of_reads {P : Program} {W : World} {name : String} {k : IntKind} {zs : List Int} {g : Nat} {t e : TypeId} {n : Nat}
 (hg : P.globalNamed name = some g) (hty : (P.globals[g]?).map (·.type) = some t) (ht : P.underlying t = some (.array n e)) (he : P.underlying e = some (.int k)) (hce : P.cellsOf e = 1) (hct : P.cellsOf t = n)
 (h : VarReads P W name (tabData k zs)) : TabIs P W name k zs := by
 obtain ⟨g', t', cs, fuel, p, hg', ht', hvar, hd⟩ := h
 obtain rfl := Option.some.inj (hg.symm.trans hg')
 obtain rfl := Option.some.inj (hty.symm.trans ht')
 unfold TabIs
 rw [hvar, ← cells_of_tab ht he hce hct hd]
theorem pow_of {W : World} (hL : laidMet Tryz.prog listed W) : Lib.TabIs Tryz.prog W "internal/strconv.uint64pow10" .u64 Lib.pow10Tab := by
 have e0 : Rows.laid_internal_strconv_uint64pow10 = tabData (H := Unit) .u64 Lib.pow10Tab := by kernel_rfl
 have r0 := Lib.laidMet.reads hL (.tail _ (.tail _ (.head _)))
 rw [e0] at r0
 exact tabIs_of_reads (g := 5) (t := 206) (e := 156) (n := 20) (by kernel_rfl) (by kernel_rfl) Tryz.underlying206 Tryz.underlying156 (by kernel_rfl) (by kernel_rfl) r0
theorem cells_of_strs {H : Type} {enc : TypeId × Value → H} {P : Program} {w : World} {base : Nat} {sp : Nat → Bool} {held : Bool} {fuel : Nat} {t e : TypeId} {n : Nat} {cs : List Value} {ss : List (List UInt8)} {p : List MemPlace}
 (ht : P.underlying t = some (.array n e)) (he : P.underlying e = some .string) (hce : P.cellsOf e = 1) (hct : P.cellsOf t = n)
 (h : DataW.trod enc P w base sp held fuel t cs = some (.agg (ss.map fun s => .lit (.string s)), p)) : ∀ (i : Nat) (s : List UInt8), ss[i]? = some s → cs[i]? = some (Value.string ⟨s.toArray⟩) := by
 cases fuel with
 | zero => simp [DataW.trod] at h
 | succ fuel =>
  simp only [DataW.trod, ht, hce, hct, Nat.mul_one] at h
  split at h
  ·obtain ⟨xs, hm, hx⟩ := Option.map_eq_some_iff.1 h
   have hxs : xs.map (·.1) = ss.map fun s => (DataW.lit (.string s) : DataW H) := by
    have := congrArg Prod.fst hx
    simpa using this
   have hxl : xs.length = n := by simpa using mapM_length hm
   have hsl : ss.length = n := by
    have := congrArg List.length hxs
    simp at this
    omega
   intro i s hs
   have hi : i < n := by rw [← hsl]; exact (List.getElem?_eq_some_iff.1 hs).1
   obtain ⟨b, hb, hf⟩ := mapM_at hm i i (by simp [hi])
   obtain ⟨z, hc, rfl, _⟩ := DataW.trod_string he hf
   have h1 : cs[i]? = some (.string z) := by
    have := congrArg (·[0]?) hc
    simpa [List.getElem?_take, List.getElem?_drop] using this
   have h2 : (xs.map (·.1))[i]? = some (DataW.lit (.string z.data.toList) : DataW H) := by simp [hb]
   rw [hxs] at h2
   simp only [List.getElem?_map, hs, Option.map_some, Option.some.injEq, DataW.lit.injEq, Lit.string.injEq] at h2
   rw [h1, h2]
  ·cases h
theorem lw_of {W : World} (hL : laidMet Tryz.prog listed W) : Lw W := by
 have r0 := Lib.laidMet.reads hL (.tail _ (.tail _ (.tail _ (.tail _ (.tail _ (.head _))))))
 have e0 : Rows.laid_paling_tree_signs = (.agg (((List.range 18).map TM.sign).map fun s => .lit (.string s)) : DataW Unit) := by kernel_rfl
 rw [e0] at r0
 obtain ⟨g, t, cs, fuel, p, hg, ht, hvar, hd⟩ := r0
 obtain rfl := Option.some.inj (hg.symm.trans (show Tryz.prog.globalNamed "paling/tree.signs" = some 3 by kernel_rfl))
 obtain rfl := Option.some.inj (ht.symm.trans (show (Tryz.prog.globals[(3 : Nat)]?).map (·.type) = some 126 by kernel_rfl))
 have hc := cells_of_strs (n := 18) (e := 9) Tryz.underlying126 Tryz.underlying9 (by kernel_rfl) (by kernel_rfl) hd
 have hcell : ∀ i, i < 18 → W.cell? ⟨3, i, none⟩ = some (.string ⟨(TM.sign i).toArray⟩) := fun i hi => by
  rw [World.var?_cell (g := 3) (by kernel_rfl) hvar i]
  have := hc i (TM.sign i) (by simp [hi])
  rwa [Array.getElem?_toList] at this
 refine ⟨lv_of hL, ⟨Lib.tabBelow_of_tabIs (pow_of hL), ?_, hcell⟩⟩
 have h0 := hcell 0 (by decide)
 rcases Nat.lt_or_ge 3 W.heap.size with h1 | h1
 ·exact h1
 ·simp [World.cell?, Array.getElem?_eq_none h1] at h0
theorem rowVar_of {W : World} {name : String} {gv : Nat} {tab : List (List UInt8)} (hg0 : Tryz.prog.globalNamed name = some gv) (ht0 : (Tryz.prog.globals[gv]?).map (·.type) = some 33) (hv0 : ∀ {cs : Array Value}, W.var? Tryz.prog name = some cs → ∀ i, W.cell? ⟨gv, i, none⟩ = cs[i]?) (h0 : 0 < tab.length)
 (q : Lib.VarReads Tryz.prog W name (.slice (tab.map fun s => .lit (.string s)) [])) : RowVar gv (tab.map fun s => ⟨s.toArray⟩) W := by
 obtain ⟨g9, t9, cs, fuel, p, hg, ht, hvar, hd⟩ := q
 obtain rfl : g9 = gv := Option.some.inj (hg.symm.trans hg0)
 obtain rfl : t9 = 33 := Option.some.inj (ht.symm.trans ht0)
 rcases Deep.open_strs Tryz.underlying33 Tryz.underlying9 (by kernel_rfl) hd with ⟨_, hx⟩ | ⟨a, len, cap, m, Sx, hcs, hb, hl, hm, hmm, hx, hcell⟩
 ·simp at hx
 ·simp only [Prod.mk.injEq, DataW.slice.injEq] at hx
  obtain ⟨⟨hx, _⟩, _⟩ := hx
  have hlen : tab.length = len := by have := congrArg List.length hx; simpa using this
  have hel : ∀ (k : Nat) (s : List UInt8), tab[k]? = some s → (Sx k).data.toList = s := fun k s hk => by
   have h1 := congrArg (·[k]?) hx
   have hkl : k < len := by rw [← hlen]; exact (List.getElem?_eq_some_iff.1 hk).1
   simp only [List.getElem?_map, hk, Option.map_some] at h1
   rw [List.getElem?_range hkl] at h1
   simp only [Option.map_some, Option.some.injEq, DataW.lit.injEq, Lit.string.injEq] at h1
   exact h1.symm
  have hlm : len ≤ m := by rw [hmm]; split <;> omega
  obtain ⟨g, o, sp⟩ := a
  have h00 := (hcell 0 (by omega)).1
  obtain rfl : sp = none := cell_spot (o := o) (b := g) (w := W) (by simpa [Addr.add] using h00)
  have hc0 : W.cell? ⟨g9, 0, none⟩ = some (.slice (some ⟨g, o, none⟩) len cap) := by
   rw [hv0 hvar 0, ← Array.getElem?_toList, hcs]; rfl
  have hlt : ∀ {b i : Nat} {v : Value}, W.cell? ⟨b, i, none⟩ = some v → b < W.heap.size := fun {b i v} h => by
   rcases Nat.lt_or_ge b W.heap.size with h1 | h1
   ·exact h1
   ·simp [World.cell?, Array.getElem?_eq_none h1] at h
  refine ⟨hlt hc0, g, o, cap, by rw [List.length_map, hlen]; exact hc0, by rw [List.length_map, hlen]; exact hl, hm, hlt (i := o) (by simpa [Addr.add] using h00), strAt_cells _ _ fun k x hk => ?_⟩
  rw [List.getElem?_map] at hk
  obtain ⟨s, hs, rfl⟩ := Option.map_eq_some_iff.1 hk
  have hkl : k < len := by rw [← hlen]; exact (List.getElem?_eq_some_iff.1 hs).1
  have h1 := (hcell k (by omega)).1
  rw [show (⟨g, o, none⟩ : Addr).add k = ⟨g, o + k, none⟩ from by unfold Addr.add; split <;> simp_all] at h1
  rw [h1]
  have h2 := hel k s hs
  cases hq : Sx k with
  | mk dd => rw [hq] at h2; rw [← h2]
theorem ly_of {W : World} (hL : laidMet Tryz.prog listed W) : Ly W := by
 have q6 := Lib.laidMet.reads hL (.tail _ (.tail _ (.tail _ (.tail _ (.tail _ (.tail _ (.head _)))))))
 have f6 : Rows.laid_paling_scope_words = (.agg (wordT.map fun s => .lit (.string s)) : DataW Unit) := by kernel_rfl
 rw [f6] at q6
 obtain ⟨g6, t6, cs6, fu6, p6, hg6, ht6, hvar6, hd6⟩ := q6
 obtain rfl := Option.some.inj (hg6.symm.trans (show Tryz.prog.globalNamed "paling/scope.words" = some 1 by kernel_rfl))
 obtain rfl := Option.some.inj (ht6.symm.trans (show (Tryz.prog.globals[(1 : Nat)]?).map (·.type) = some 111 by kernel_rfl))
 have hc6 := cells_of_strs (n := 6) (e := 9) Tryz.underlying111 Tryz.underlying9 (by kernel_rfl) (by kernel_rfl) hd6
 have hcell6 : ∀ i, i < 6 → W.cell? ⟨1, i, none⟩ = some (.string ⟨(wordT.getD i []).toArray⟩) := fun i hi => by
  rw [World.var?_cell (g := 1) (by kernel_rfl) hvar6 i]
  have := hc6 i (wordT.getD i []) (by rw [List.getD_eq_getElem?_getD, List.getElem?_eq_getElem (by exact hi)]; rfl)
  rwa [Array.getElem?_toList] at this
 have hlt6 : 1 < W.heap.size := by
  have h0 := hcell6 0 (by decide)
  rcases Nat.lt_or_ge 1 W.heap.size with h1 | h1
  ·exact h1
  ·simp [World.cell?, Array.getElem?_eq_none h1] at h0
 exact ⟨lw_of hL, hlt6, hcell6⟩
theorem lz_of {W : World} (hL : laidMet Tryz.prog listed W) : Lz W := by
 have q7 := Lib.laidMet.reads hL (.tail _ (.tail _ (.tail _ (.tail _ (.tail _ (.tail _ (.tail _ (.head _))))))))
 have f7 : Rows.laid_paling_code_words = (.agg (opT.map fun s => .lit (.string s)) : DataW Unit) := by kernel_rfl
 rw [f7] at q7
 obtain ⟨g7, t7, cs7, fu7, p7, hg7, ht7, hvar7, hd7⟩ := q7
 obtain rfl := Option.some.inj (hg7.symm.trans (show Tryz.prog.globalNamed "paling/code.words" = some 4 by kernel_rfl))
 obtain rfl := Option.some.inj (ht7.symm.trans (show (Tryz.prog.globals[(4 : Nat)]?).map (·.type) = some 140 by kernel_rfl))
 have hc7 := cells_of_strs (n := 22) (e := 9) Tryz.underlying140 Tryz.underlying9 (by kernel_rfl) (by kernel_rfl) hd7
 have hcell7 : ∀ i, i < 22 → W.cell? ⟨4, i, none⟩ = some (.string (opB i)) := fun i hi => by
  rw [World.var?_cell (g := 4) (by kernel_rfl) hvar7 i]
  have := hc7 i (opT.getD i []) (by rw [List.getD_eq_getElem?_getD, List.getElem?_eq_getElem (by exact hi)]; rfl)
  rwa [Array.getElem?_toList] at this
 have hlt7 : 4 < W.heap.size := by
  have h0 := hcell7 0 (by decide)
  rcases Nat.lt_or_ge 4 W.heap.size with h1 | h1
  ·exact h1
  ·simp [World.cell?, Array.getElem?_eq_none h1] at h0
 exact ⟨ly_of hL, ⟨(lw_of hL).g.tab, hlt7, hcell7⟩⟩
theorem lt_of {W : World} (hL : laidMet Tryz.prog listed W) : Lt W := by
 have q8 := Lib.laidMet.reads hL (.tail _ (.tail _ (.tail _ (.tail _ (.tail _ (.tail _ (.tail _ (.tail _ (.head _)))))))))
 have f8 : Rows.laid_paling_palinglaw09_words = (.slice (opT.map fun s => .lit (.string s)) [] : DataW Unit) := by kernel_rfl
 rw [f8] at q8
 have r8 := rowVar_of (gv := 2) (tab := opT) (by kernel_rfl) (by kernel_rfl) (fun {cs} hv i => World.var?_cell (g := 2) (by kernel_rfl) hv i) (by decide) q8
 exact ⟨lz_of hL, r8⟩
end Go.Proofs.YtenfphbhofibjaaGreatDoor
