/-
  The maker's expr: what it has behind its switch, and at its end.
  Conditions: as each theorem says.
-/
import Derived.Test.YthghjnkeofkoiaaGreatDoorTkSix
namespace Go.Proofs.YthghjnkeofkoiaaGreatDoor
open Go.RowKit TM
set_option linter.unusedVariables false
def numF (op : Nat) (x : XX) : Int := if op = 3 then (x.n : Int) * (if x.a % 3 = 2 then 1099511627776 else 1) else 0
def textF (op : Nat) (x : XX) : ByteArray := if op = 4 then tx x.s else if op = 5 then nm x.s else ⟨#[]⟩
def paramsF (op : Nat) (x : XX) : List ByteArray := if op = 17 then (List.range (x.a % 3)).map (fun i => nm ((x.s + i) % 256)) else []
def manyF (op : Nat) (x : XX) : Nat := if op = 6 ∨ op = 7 then 1 else if op = 15 then 1 + x.a % 3 else if op = 16 then 2 * (x.a % 3) else if 8 ≤ op ∧ op ≤ 14 then 2 else 0
/-- Between two worlds only these two blocks that were there were written. -/
structure Kb (m g : Nat) (w w' : World) : Prop where
  os : w'.os = w.os
  tape : w'.tape = w.tape
  output : w'.output = w.output
  size : w.heap.size ≤ w'.heap.size
  keep : ∀ k, k < w.heap.size → k ≠ m → k ≠ g → w'.heap[k]? = w.heap[k]?
theorem Kb.refl (m g : Nat) (w : World) : Kb m g w w := ⟨rfl, rfl, rfl, Nat.le_refl _, fun _ _ _ _ => rfl⟩
/-- Behind the switch: the expression but for its parts. -/
structure Mid (w wc : World) (mb g4 ge op : Nat) (num : Int) (text : ByteArray) (params : List ByteArray) (body : List TS) (X : List XX) (L : Int) (vn vb : Value) : Prop where
  box : wc.heap[ge]? = some (.cells #[.int .i64 (op : Int), .int .i64 num, .string text, .slice none 0 0, vn, vb] 35 (0, 0))
  par : SlAt (fun g => ge < g ∧ g < wc.heap.size) vn params.length (fun g o => StrAt wc g o params)
  bod : SlAt (fun g => ge < g ∧ g < wc.heap.size) vb body.length (fun g o => SsAt (fun g => ge < g ∧ g < wc.heap.size) wc g o body)
  mkr : MkAt wc mb X L
  res : wc.heap[g4]? = some (.cells #[.int .i64 0, .int .i64 0, .string ⟨#[]⟩, .slice none 0 0, .slice none 0 0, .slice none 0 0] 35 (0, 0))
  gr : w.grownBy wc (some mb)
def valK (vp : Value) (mb ge : Nat) (D : Int) : Nat → Option Value
  | 0 => some (.pointer (some ⟨ge, 3, none⟩))
  | 1 => some vp
  | 2 => some (.pointer (some ⟨mb, 0, none⟩))
  | 3 => some (.int .i64 D)
  | 4 => some (.int .i64 (D - 1))
  | 8 => some (.pointer (some ⟨ge, 3, none⟩))
  | _ => none
theorem range_snoc (ES : Nat → TE) (j : Nat) : (List.range (j + 1)).map ES = (List.range j).map ES ++ [ES j] := by rw [List.range_succ]; simp
theorem row_cells {w : World} {base : Nat} {e : TypeId} {size g n cap : Nat} {xs : List Value} (h : w.ownsRow base e size (.slice (some ⟨g, 0, none⟩) n cap) n xs) : ∀ (j : Nat) (u : Value), xs[j]? = some u → w.cell? ⟨g, 0 + j, none⟩ = some u := fun j u hj => by
  have := h.cells (g := g) rfl j u hj
  by_cases h0 : j = 0
  · subst h0; simpa [Addr.add] using this
  · simpa [Addr.add, h0] using this
theorem fin_expr {w wc wr W' : World} {mb g4 ge op n capr : Nat} {num : Int} {text : ByteArray} {params : List ByteArray} {body : List TS} {X2 X : List XX} {L2 L : Int} {vn vb : Value} {ao : Option Addr} {cs : List Value} {es : List TE}
    (hmid : Mid w wc mb g4 ge op num text params body X2 L2 vn vb) (hrow : wr.ownsRow wc.heap.size 35 6 (.slice ao n capr) n cs) (hes : EsC (fun k => wc.heap.size ≤ k ∧ k < wr.heap.size ∧ (Value.slice ao n capr).ownBlock ≠ some k) wr es cs) (hlen : es.length = n) (hmk : MkAt wr mb X L) (hkb : Kb mb ge wc wr)
    (hW : ∀ k, k ≠ g4 → W'.heap[k]? = wr.heap[k]?) (hs : W'.heap.size = wr.heap.size) (ho : W'.os = wr.os) (ht : W'.tape = wr.tape) (hu : W'.output = wr.output) (hm4 : mb < g4) (hw4 : w.heap.size ≤ g4) (h4e : g4 < ge) (hop : op ≤ 17) (hnum : 0 ≤ num ∧ num ≤ 9223372036854775807) :
    MkAt W' mb X L ∧ w.grownBy W' (some mb) ∧ EIn (Fresh w.heap.size W'.heap.size) W' (.mk op num text es params body) (.slice ao n capr) vn vb := by
  have hgx : ge < wc.heap.size := lt_of_block hmid.box
  have hsz := hkb.size
  have hin : ∀ k, (ge < k ∧ k < wc.heap.size) → Fresh w.heap.size W'.heap.size k ∧ W'.heap[k]? = wc.heap[k]? := fun k hk => ⟨⟨by omega, by omega⟩, (hW k (by omega)).trans (hkb.keep k hk.2 (by omega) (by omega))⟩
  refine ⟨hmk.kept fun k hk => hW k (by omega), ⟨ho.trans (hkb.os.trans hmid.gr.os), ht.trans (hkb.tape.trans hmid.gr.tape), hu.trans (hkb.output.trans hmid.gr.output), by have := hmid.gr.size; omega, fun k hk hn => ?_⟩, ⟨hop, hnum.1, hnum.2⟩, ?_, ?_, ?_⟩
  · have hkm : k ≠ mb := fun e => hn (by rw [e])
    have hg := hmid.gr.size
    rw [hW k (by omega), hkb.keep k (by omega) hkm (by omega), hmid.gr.block k hk hn]
  · obtain ⟨ao', cap', hv, h1, h2⟩ := row_shape hrow
    cases hv
    refine ⟨ao, capr, by rw [hlen], by rw [hlen]; exact h1, h2, fun hn => ?_⟩
    obtain ⟨g, cap2, cur2, hv2, _, _, hbg, hblk⟩ := row_at hrow (by omega)
    cases hv2
    have hgl := lt_of_block hblk
    refine ⟨g, 0, rfl, ⟨by omega, by omega⟩, EsC.at (cs := cs) (EsC.kept (fun k hk => ⟨⟨by have := hk.1; omega, by have := hk.2.1; omega⟩, hW k (by have := hk.1; omega)⟩) hes) fun j u hj => ?_⟩
    rw [cell_kept (hW g (by omega))]
    exact row_cells hrow j u hj
  · exact hmid.par.imp (fun k hk => (hin k hk).1) fun g o hg hA => StrAt.kept (hin g hg).2 params o hA
  · exact hmid.bod.imp (fun k hk => (hin k hk).1) fun g o hg hA => SsAt.kept hin body hg hA
end Go.Proofs.YthghjnkeofkoiaaGreatDoor
