/-
  Six cells of one block, stored one by one.
  Conditions: as each theorem says. (No program is named here.)
-/
import Derived.Test.YthghjnkeofkoiaaGreatDoorZJTk
import Derived.Shelf.SlicesE.Clone
import Derived.Test.YthghjnkeofkoiaaGreatDoorProg
namespace Go.Proofs.YthghjnkeofkoiaaGreatDoor
open Go.RowKit TM
set_option linter.unusedVariables false
section
variable {w : World} {g : Nat} {a b c d e f : Value}
end
end Go.Proofs.YthghjnkeofkoiaaGreatDoor

namespace Go.Proofs.YthghjnkeofkoiaaGreatDoor
open Go.RowKit TM
set_option linter.unusedVariables false
theorem row_cells {w : World} {base : Nat} {e : TypeId} {size g n cap : Nat} {xs : List Value} (h : w.ownsRow base e size (.slice (some ⟨g, 0, none⟩) n cap) n xs) : ∀ (j : Nat) (u : Value), xs[j]? = some u → w.cell? ⟨g, 0 + j, none⟩ = some u := fun j u hj => by
  have := h.cells (g := g) rfl j u hj
  by_cases h0 : j = 0
  · subst h0; simpa [Addr.add] using this
  · simpa [Addr.add, h0] using this
end Go.Proofs.YthghjnkeofkoiaaGreatDoor

namespace Go.Proofs.YthghjnkeofkoiaaGreatDoor
open Go.RowKit TM
set_option linter.unusedVariables false
theorem sixS_cells {P : Nat → Prop} {w : World} {e : TS} {x y z : Value} (h : SIn P w e x y z) : ∀ u ∈ sixS e x y z, u.oneCell' = true := by
  cases e with
  | mk kind name exprs body els pos =>
    obtain ⟨_, ⟨pa, pc, rfl, _⟩, ⟨na, nc, rfl, _⟩, ⟨ba, bc, rfl, _⟩⟩ := h
    intro u hu
    simp [sixS] at hu
    rcases hu with rfl | rfl | rfl | rfl | rfl | rfl <;> rfl
end Go.Proofs.YthghjnkeofkoiaaGreatDoor

namespace Go.Proofs
open Go.Shelf
end Go.Proofs

namespace Go.Proofs.YthghjnkeofkoiaaGreatDoor
open Go.RowKit TM
set_option linter.unusedVariables false
theorem ssC_one {P : Nat → Prop} {w : World} : ∀ {l : List TS} {cs : List Value}, SsC P w l cs → ∀ u ∈ cs, u.oneCell' = true
  | [], cs, h, u, hu => by rw [show cs = [] from h] at hu; cases hu
  | e :: l, cs, ⟨a, b, c, cs', h1, h2, h3⟩, u, hu => by
    rw [h1] at hu
    rcases List.mem_append.1 hu with hu | hu
    · exact sixS_cells h2 u hu
    · exact ssC_one h3 u hu
theorem ssC_app {P : Nat → Prop} {w : World} {m : List TS} {ds : List Value} (hd : SsC P w m ds) : ∀ {l : List TS} {cs : List Value}, SsC P w l cs → SsC P w (l ++ m) (cs ++ ds)
  | [], cs, h => by rw [show cs = [] from h]; exact hd
  | e :: l, cs, ⟨a, b, c, cs', h1, h2, h3⟩ => ⟨a, b, c, cs' ++ ds, by rw [h1]; simp, h2, ssC_app hd h3⟩
theorem row_stmts {P : Nat → Prop} {w : World} {bs n : Nat} {v : Value} {cs : List Value} {l : List TS} (hr : w.ownsRow bs 30 6 v n cs) (hl : l.length = n) (hes : SsC P w l cs) (hP : ∀ k, bs ≤ k → k < w.heap.size → P k) : SlAt P v l.length (fun g o => SsAt P w g o l) := by
  obtain ⟨ao, cap, rfl, h1, h2⟩ := row_shape hr
  refine ⟨ao, cap, by rw [hl], by rw [hl]; exact h1, h2, fun hn => ?_⟩
  obtain ⟨g, cap2, cur2, hv2, _, _, hbg, hblk⟩ := row_at hr (by omega)
  cases hv2
  exact ⟨g, 0, rfl, hP g hbg (lt_of_block hblk), SsC.at (cs := cs) hes (row_cells hr)⟩
end Go.Proofs.YthghjnkeofkoiaaGreatDoor
