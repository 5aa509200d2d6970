/-
 What the rows of this layer list, and a world in which it is so laid; the listed tables as Ex wants them.
 Conditions: none.
-/
import Derived.Test.YtpboencfnjmmbaaGreatDoorRows
import Derived.Test.YtpboencfnjmmbaaGreatDoorZEzGs
import Derived.Deep.DeepWitnessRowRef
import Derived.Stop.LaidErr
import Derived.Lib.LaidIn
import Derived.Lib.LaidU8
import Derived.Deep.Strs
set_option linter.unusedVariables false
namespace Go.Proofs.YtpboencfnjmmbaaGreatDoor
open Go.Shelf
open Go.Ex Go.ChangeShapes Go.WideShapes Go.ChangeAt Go.RowKit Go.Lib
theorem own : ownKnob Tryz.prog.godebug = none := by kernel_rfl
def flatCells (d : DataW Unit) : Array Value :=
 match d with
 | .agg ps => (ps.map fun p => match p with | .lit l => l.value | _ => undef).toArray
 | _ => #[]
def errText (d : DataW Unit) : Array UInt8 :=
 match d with
 | .iface _ (.ptr (.agg [.lit (.string t)])) => t.toArray
 | _ => #[]
def errsMore : Array Obj := #[.cells #[.string ⟨errText Rows.laid_strconv_ErrRange⟩] 323, .cells #[.string ⟨errText Rows.laid_strconv_ErrSyntax⟩] 323]
def putIn (h : Array Obj) (g : Nat) (cs : Array Value) : Array Obj := h.modify g fun
 | .cells _ t frozen => .cells cs t frozen
 | o => o
def laidIn (n : Nat) (w0 : World) : World :=
 let h0 := putIn w0.heap 8 #[.iface 321 (.pointer (some ⟨n, 0, none⟩))]
 let h1 := putIn h0 7 #[.iface 321 (.pointer (some ⟨n + 1, 0, none⟩))]
 let h2 := putIn h1 5 (flatCells Rows.laid_math_bits_deBruijn32tab)
 let h3 := putIn h2 6 (flatCells Rows.laid_math_bits_deBruijn64tab)
 let h4 := putIn h3 3 (flatCells Rows.laid_internal_strconv_uint64pow10)
 let h5 := putIn h4 0 (flatCells Rows.laid_paling_tree_signs)
 let h6 := putIn h5 1 (flatCells Rows.laid_paling_scope_words)
 { w0 with heap := h6 }
def listed : List (String × DataW Unit) := [("math/bits.deBruijn32tab", Rows.laid_math_bits_deBruijn32tab), ("math/bits.deBruijn64tab", Rows.laid_math_bits_deBruijn64tab), ("internal/strconv.uint64pow10", Rows.laid_internal_strconv_uint64pow10), ("strconv.ErrRange", Rows.laid_strconv_ErrRange), ("strconv.ErrSyntax", Rows.laid_strconv_ErrSyntax), ("paling/tree.signs", Rows.laid_paling_tree_signs), ("paling/scope.words", Rows.laid_paling_scope_words)]
theorem laid_met (os : Os) (args : Array Value) : laidMet Tryz.prog listed ((laidIn (World.settled Tryz.prog os).heap.size (World.holding Tryz.prog os ⟨errsMore, #[], []⟩)).forCall (fun _ _ => 0) ⟨#[], args, []⟩).memory :=
 laidMet_of_run' 8 (by kernel_rfl) (by kernel_rfl)
theorem tabIs_of_reads {P : Program} {W : World} {name : String} {k : IntKind} {zs : List Int} {g : Nat} {t e : TypeId} {n : Nat}
 (hg : P.globalNamed name = some g) (hty : (P.globals[g]?).map (·.type) = some t) (ht : P.underlying t = some (.array n e)) (he : P.underlying e = some (.int k)) (hce : P.cellsOf e = 1) (hct : P.cellsOf t = n)
 (h : VarReads P W name (tabData k zs)) : TabIs P W name k zs := by
 obtain ⟨g', t', cs, fuel, p, hg', ht', hvar, hd⟩ := h
 obtain rfl := Option.some.inj (hg.symm.trans hg')
 obtain rfl := Option.some.inj (hty.symm.trans ht')
 unfold TabIs
 rw [hvar, ← cells_of_tab ht he hce hct hd]
theorem cells_of_strs {H : Type} {enc : TypeId × Value → H} {P : Program} {w : World} {base : Nat} {sp : Nat → Bool} {held : Bool} {fuel : Nat} {t e : TypeId} {n : Nat} {cs : List Value} {ss : List (List UInt8)} {p : List MemPlace}
 (ht : P.underlying t = some (.array n e)) (he : P.underlying e = some .string) (hce : P.cellsOf e = 1) (hct : P.cellsOf t = n)
 (h : DataW.trod enc P w base sp held fuel t cs = some (.agg (ss.map fun s => .lit (.string s)), p)) : ∀ (i : Nat) (s : List UInt8), ss[i]? = some s → cs[i]? = some (Value.string ⟨s.toArray⟩) := by
 cases fuel with
 | zero => simp [DataW.trod] at h
 | succ fuel =>
  simp only [DataW.trod, ht, hce, hct, Nat.mul_one] at h
  split at h
  ·obtain ⟨xs, hm, hx⟩ := Option.map_eq_some_iff.1 h
   have hxs : xs.map (·.1) = ss.map fun s => (DataW.lit (.string s) : DataW H) := by
    have := congrArg Prod.fst hx
    simpa using this
   have hxl : xs.length = n := by simpa using mapM_length hm
   have hsl : ss.length = n := by
    have := congrArg List.length hxs
    simp at this
    omega
   intro i s hs
   have hi : i < n := by rw [← hsl]; exact (List.getElem?_eq_some_iff.1 hs).1
   obtain ⟨b, hb, hf⟩ := mapM_at hm i i (by simp [hi])
   obtain ⟨z, hc, rfl, _⟩ := DataW.trod_string he hf
   have h1 : cs[i]? = some (.string z) := by
    have := congrArg (·[0]?) hc
    simpa [List.getElem?_take, List.getElem?_drop] using this
   have h2 : (xs.map (·.1))[i]? = some (DataW.lit (.string z.data.toList) : DataW H) := by simp [hb]
   rw [hxs] at h2
   simp only [List.getElem?_map, hs, Option.map_some, Option.some.injEq, DataW.lit.injEq, Lit.string.injEq] at h2
   rw [h1, h2]
  ·cases h
theorem heap_of_var {W : World} {name : String} {g : Nat} {cs : Array Value} (hg : Tryz.prog.globalNamed name = some g) (hv : W.var? Tryz.prog name = some cs) : ∃ e fr, W.heap[g]? = some (.cells cs e fr) := by
 unfold World.var? at hv
 rw [hg] at hv
 simp only [Option.bind_some] at hv
 split at hv
 ·rename_i c e fr h; cases hv; exact ⟨e, fr, h⟩
 ·cases hv
def HeldAt (W : World) (g : Nat) (x : Array Value) : Prop := ∃ c e fr, W.heap[g]? = some (.cells c e fr) ∧ x.size ≤ c.size ∧ ∀ (i : Nat) (v : Value), x[i]? = some v → c[i]? = some v
theorem held_tab {W : World} {name : String} {k : IntKind} {zs : List Int} {g : Nat} (hg : Tryz.prog.globalNamed name = some g) (h : TabIs Tryz.prog W name k zs) : HeldAt W g (zs.map fun z => Value.int k z).toArray := by
 obtain ⟨e, fr, h1⟩ := heap_of_var hg h
 exact ⟨_, e, fr, h1, Nat.le_refl _, fun _ _ h => h⟩
theorem held_strs {W : World} {name : String} {ss : List (List UInt8)} {g : Nat} {t e : TypeId} (hg : Tryz.prog.globalNamed name = some g) (hty : (Tryz.prog.globals[g]?).map (·.type) = some t) (ht : Tryz.prog.underlying t = some (.array ss.length e)) (he : Tryz.prog.underlying e = some .string) (hce : Tryz.prog.cellsOf e = 1) (hct : Tryz.prog.cellsOf t = ss.length)
 (h : VarReads Tryz.prog W name (.agg (ss.map fun s => .lit (.string s)))) : HeldAt W g (ss.map fun s => Value.string ⟨s.toArray⟩).toArray := by
 obtain ⟨g', t', cs, fuel, p, hg', ht', hvar, hd⟩ := h
 obtain rfl := Option.some.inj (hg.symm.trans hg')
 obtain rfl := Option.some.inj (hty.symm.trans ht')
 obtain ⟨e2, fr, h1⟩ := heap_of_var hg hvar
 have hc := cells_of_strs ht he hce hct hd
 have key : ∀ (i : Nat) (v : Value), (ss.map fun s => Value.string ⟨s.toArray⟩).toArray[i]? = some v → cs[i]? = some v := by
  intro i v hv
  simp only [List.getElem?_toArray, List.getElem?_map, Option.map_eq_some_iff] at hv
  obtain ⟨s, h2, rfl⟩ := hv
  have := hc i s h2
  rwa [Array.getElem?_toList] at this
 refine ⟨cs, e2, fr, h1, ?_, key⟩
 rcases Nat.eq_zero_or_pos ss.length with h0 | h0
 ·simp [h0]
 ·have h2 := key (ss.length - 1) (.string ⟨(ss[ss.length - 1]'(by omega)).toArray⟩) (by simp)
  have := (Array.getElem?_eq_some_iff.1 h2).1
  simp only [List.size_toArray, List.length_map]
  omega
theorem held_internal_strconv_uint64pow10 {W : World} (hL : laidMet Tryz.prog listed W) : HeldAt W 3 (([1, 10, 100, 1000, 10000, 100000, 1000000, 10000000, 100000000, 1000000000, 10000000000, 100000000000, 1000000000000, 10000000000000, 100000000000000, 1000000000000000, 10000000000000000, 100000000000000000, 1000000000000000000, 10000000000000000000] : List Int).map fun z => Value.int .u64 z).toArray := by
 have r0 := Lib.laidMet.reads hL (.tail _ (.tail _ (.head _)))
 have e0 : Rows.laid_internal_strconv_uint64pow10 = tabData (H := Unit) .u64 [1, 10, 100, 1000, 10000, 100000, 1000000, 10000000, 100000000, 1000000000, 10000000000, 100000000000, 1000000000000, 10000000000000, 100000000000000, 1000000000000000, 10000000000000000, 100000000000000000, 1000000000000000000, 10000000000000000000] := by kernel_rfl
 rw [e0] at r0
 exact held_tab (by kernel_rfl) (tabIs_of_reads (g := 3) (t := 274) (e := 186) (n := 20) (by kernel_rfl) (by kernel_rfl) (by kernel_rfl) (by kernel_rfl) (by kernel_rfl) (by kernel_rfl) r0)
theorem held_math_bits_deBruijn32tab {W : World} (hL : laidMet Tryz.prog listed W) : HeldAt W 5 (([0, 1, 28, 2, 29, 14, 24, 3, 30, 22, 20, 15, 25, 17, 4, 8, 31, 27, 13, 23, 21, 19, 16, 7, 26, 12, 18, 6, 11, 5, 10, 9] : List Int).map fun z => Value.int .u8 z).toArray := by
 have r0 := Lib.laidMet.reads hL (.head _)
 have e0 : Rows.laid_math_bits_deBruijn32tab = tabData (H := Unit) .u8 [0, 1, 28, 2, 29, 14, 24, 3, 30, 22, 20, 15, 25, 17, 4, 8, 31, 27, 13, 23, 21, 19, 16, 7, 26, 12, 18, 6, 11, 5, 10, 9] := by kernel_rfl
 rw [e0] at r0
 exact held_tab (by kernel_rfl) (tabIs_of_reads (g := 5) (t := 307) (e := 5) (n := 32) (by kernel_rfl) (by kernel_rfl) (by kernel_rfl) (by kernel_rfl) (by kernel_rfl) (by kernel_rfl) r0)
theorem held_math_bits_deBruijn64tab {W : World} (hL : laidMet Tryz.prog listed W) : HeldAt W 6 (([0, 1, 56, 2, 57, 49, 28, 3, 61, 58, 42, 50, 38, 29, 17, 4, 62, 47, 59, 36, 45, 43, 51, 22, 53, 39, 33, 30, 24, 18, 12, 5, 63, 55, 48, 27, 60, 41, 37, 16, 46, 35, 44, 21, 52, 32, 23, 11, 54, 26, 40, 15, 34, 20, 31, 10, 25, 14, 19, 9, 13, 8, 7, 6] : List Int).map fun z => Value.int .u8 z).toArray := by
 have r0 := Lib.laidMet.reads hL (.tail _ (.head _))
 have e0 : Rows.laid_math_bits_deBruijn64tab = tabData (H := Unit) .u8 [0, 1, 56, 2, 57, 49, 28, 3, 61, 58, 42, 50, 38, 29, 17, 4, 62, 47, 59, 36, 45, 43, 51, 22, 53, 39, 33, 30, 24, 18, 12, 5, 63, 55, 48, 27, 60, 41, 37, 16, 46, 35, 44, 21, 52, 32, 23, 11, 54, 26, 40, 15, 34, 20, 31, 10, 25, 14, 19, 9, 13, 8, 7, 6] := by kernel_rfl
 rw [e0] at r0
 exact held_tab (by kernel_rfl) (tabIs_of_reads (g := 6) (t := 308) (e := 5) (n := 64) (by kernel_rfl) (by kernel_rfl) (by kernel_rfl) (by kernel_rfl) (by kernel_rfl) (by kernel_rfl) r0)
theorem held_paling_tree_signs {W : World} (hL : laidMet Tryz.prog listed W) : HeldAt W 0 (([[], [], [], [], [], [], [], [], [43], [45], [42], [61, 61], [33, 61], [60], [], [], [], []] : List (List UInt8)).map fun s => Value.string ⟨s.toArray⟩).toArray := by
 have r0 := Lib.laidMet.reads hL (.tail _ (.tail _ (.tail _ (.tail _ (.tail _ (.head _))))))
 have e0 : Rows.laid_paling_tree_signs = (.agg (([[], [], [], [], [], [], [], [], [43], [45], [42], [61, 61], [33, 61], [60], [], [], [], []] : List (List UInt8)).map fun s => .lit (.string s)) : DataW Unit) := by kernel_rfl
 rw [e0] at r0
 exact held_strs (g := 0) (t := 150) (e := 9) (by kernel_rfl) (by kernel_rfl) (by kernel_rfl) (by kernel_rfl) (by kernel_rfl) (by kernel_rfl) r0
theorem held_paling_scope_words {W : World} (hL : laidMet Tryz.prog listed W) : HeldAt W 1 (([[108, 101, 110], [102, 114, 101, 101, 122, 101], [102, 114, 111, 122, 101, 110], [98, 114, 97, 110, 100], [107, 105, 110, 100], [116, 101, 120, 116]] : List (List UInt8)).map fun s => Value.string ⟨s.toArray⟩).toArray := by
 have r0 := Lib.laidMet.reads hL (.tail _ (.tail _ (.tail _ (.tail _ (.tail _ (.tail _ (.head _)))))))
 have e0 : Rows.laid_paling_scope_words = (.agg (([[108, 101, 110], [102, 114, 101, 101, 122, 101], [102, 114, 111, 122, 101, 110], [98, 114, 97, 110, 100], [107, 105, 110, 100], [116, 101, 120, 116]] : List (List UInt8)).map fun s => .lit (.string s)) : DataW Unit) := by kernel_rfl
 rw [e0] at r0
 exact held_strs (g := 1) (t := 154) (e := 9) (by kernel_rfl) (by kernel_rfl) (by kernel_rfl) (by kernel_rfl) (by kernel_rfl) (by kernel_rfl) r0
theorem held_of {W : World} (hL : laidMet Tryz.prog listed W) : Held gs0 W := by
 intro x hx
 rcases List.mem_cons.1 hx with rfl | hx
 ·exact held_internal_strconv_uint64pow10 hL
 rcases List.mem_cons.1 hx with rfl | hx
 ·exact held_math_bits_deBruijn32tab hL
 rcases List.mem_cons.1 hx with rfl | hx
 ·exact held_math_bits_deBruijn64tab hL
 rcases List.mem_cons.1 hx with rfl | hx
 ·exact held_paling_tree_signs hL
 rcases List.mem_cons.1 hx with rfl | hx
 ·exact held_paling_scope_words hL
 cases hx
end Go.Proofs.YtpboencfnjmmbaaGreatDoor
