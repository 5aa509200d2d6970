/-
  Rows of numbers and of instructions that grow.
  Conditions: as each theorem says.
-/
import Derived.Test.YtpboencfnjmmbaaGreatDoorVdOpen
namespace Go.Proofs.YtpboencfnjmmbaaGreatDoor
open Go.RowKit
set_option linter.unusedVariables false
set_option linter.unusedSimpArgs false
section
variable {w w' : World} {base base2 size size2 n n2 : Nat} {e e2 : TypeId} {v v2 : Value} {xs xs2 : List Value}
theorem rown_ne (h : w.ownsRow base e size v n xs) {b : Nat} {cs : Array Value} {t : TypeId} {fz : Nat × Nat} (hb : w.heap[b]? = some (.cells cs t fz)) (h1 : e ≠ t) : v.ownBlock ≠ some b := by
  rcases h.2 with ⟨rfl, _⟩ | ⟨g, cap, cur, rfl, hbg, hg, r⟩
  · simp [Value.ownBlock]
  · simp only [Value.ownBlock]
    intro e
    injection e with e
    subst e
    rw [hg] at hb
    injection hb with hb
    injection hb with _ hb _
    exact h1 hb
theorem rown_set (h : w.ownsRow base e size v n xs) {b i : Nat} {cs : Array Value} {t : TypeId} {fz : Nat × Nat} (hb : w.heap[b]? = some (.cells cs t fz)) (h1 : e ≠ t) (u : Value) : (w.setCell ⟨b, i, none⟩ u).ownsRow base e size v n xs := by
  have hn := rown_ne h hb h1
  refine ⟨h.1, ?_⟩
  rcases h.2 with h0 | ⟨g, cap, cur, rfl, hbg, hg, r⟩
  · exact .inl h0
  · refine .inr ⟨g, cap, cur, rfl, hbg, ?_, r⟩
    rw [Below.heap_setCell _ _ _ _ (by rintro rfl; exact hn rfl)]
    exact hg
theorem rown_grown (h : w.ownsRow base e size v n xs) (k : w.ownsRow base2 e2 size2 v2 n2 xs2) (h1 : e ≠ e2) (hg : w.grownBy w' v2.ownBlock) : w'.ownsRow base e size v n xs := by
  refine ⟨h.1, ?_⟩
  rcases h.2 with h0 | ⟨g, cap, cur, rfl, hbg, hgg, r⟩
  · exact .inl h0
  · refine .inr ⟨g, cap, cur, rfl, hbg, ?_, r⟩
    rw [hg.block g (lt_of_block hgg) (fun e9 => rown_ne k hgg (fun h => h1 h.symm) e9.symm)]
    exact hgg
theorem rown_below (h : w.ownsRow base e size v n xs) (hb : Below w.heap.size w w') : w'.ownsRow base e size v n xs := by
  refine ⟨h.1, ?_⟩
  rcases h.2 with h0 | ⟨g, cap, cur, rfl, hbg, hgg, r⟩
  · exact .inl h0
  · exact .inr ⟨g, cap, cur, rfl, hbg, (hb.block g (lt_of_block hgg)).trans hgg, r⟩
theorem rown_shape (h : w.ownsRow base e size v n xs) : ∃ ad cap, v = .slice ad n cap ∧ (∀ l c, v = .slice none l c → c = 0) := by
  rcases h.2 with ⟨rfl, rfl⟩ | ⟨g, cap, cur, rfl, _⟩
  · exact ⟨_, _, rfl, by rintro l c h; cases h; rfl⟩
  · exact ⟨_, _, rfl, by rintro l c h; cases h⟩
end
def icell (x : VI) : List Value := [.int .u8 (x.op : Int), .int .i64 x.a, .int .i64 x.b, .int .i64 x.c]
def icells (l : List VI) : List Value := l.flatMap icell
theorem icells_len (l : List VI) : (icells l).length = l.length * 4 := by
  induction l with
  | nil => rfl
  | cons q l ih => rw [icells, List.flatMap_cons, List.length_append, ← icells, ih]; simp [icell]; omega
theorem icells_get {l : List VI} {j : Nat} {q : VI} (h : l[j]? = some q) : ∀ i, i < 4 → (icells l)[j * 4 + i]? = (icell q)[i]? := by
  intro i hi
  induction l generalizing j with
  | nil => simp at h
  | cons p l ih =>
    rw [icells, List.flatMap_cons, ← icells]
    cases j with
    | zero =>
      simp at h; subst h
      rw [List.getElem?_append_left (by simp [icell]; omega)]
      simp
    | succ j =>
      rw [List.getElem?_append_right (by simp [icell]; omega), show (j + 1) * 4 + i - (icell p).length = j * 4 + i from by simp [icell]; omega]
      exact ih (by simpa using h)
theorem row_zsl {w : World} {base : Nat} {v : Value} {l : List Int} (hown : w.ownsRow base 3 1 v l.length (zrow l)) : ZSl w v l := by
  rcases hown.2 with ⟨rfl, h0⟩ | ⟨g, cap, cur, rfl, _, hg, h1, h2, h3, h4⟩
  · have : l = [] := List.length_eq_zero_iff.1 h0
    subst this
    exact zsl_nil _
  · refine ⟨_, cap, rfl, h1, h2, fun _ => ⟨g, 0, rfl, lt_of_block hg, fun k n hk => ?_⟩⟩
    simp only [World.cell?, hg, Nat.zero_add]
    have hkl : k < l.length := (List.getElem?_eq_some_iff.1 hk).1
    have e : (zrow l)[k]? = some (.int .i64 n) := by rw [zrow, List.getElem?_map, hk]; rfl
    rw [← h4, List.getElem?_take, if_pos (by omega), Array.getElem?_toList] at e
    exact e
theorem row_iss {w : World} {base : Nat} {v : Value} {l : List VI} (hown : w.ownsRow base 51 4 v l.length (icells l)) : ISs w v l := by
  rcases hown.2 with ⟨rfl, h0⟩ | ⟨g, cap, cur, rfl, _, hg, h1, h2, h3, h4⟩
  · have : l = [] := List.length_eq_zero_iff.1 h0
    subst this
    exact ⟨none, 0, rfl, Nat.le_refl _, Nat.zero_le _, fun h => absurd h (by simp)⟩
  · refine ⟨_, cap, rfl, h1, h2, fun _ => ⟨g, 0, rfl, lt_of_block hg, fun j x hj => ?_⟩⟩
    have hjl : j < l.length := (List.getElem?_eq_some_iff.1 hj).1
    have key : ∀ i v, i < 4 → (icell x)[i]? = some v → w.cell? ⟨g, 0 + j * 4 + i, none⟩ = some v := by
      intro i v hi hv
      simp only [World.cell?, hg, Nat.zero_add]
      have e := icells_get hj i hi
      rw [← h4, hv, List.getElem?_take, if_pos (by omega), Array.getElem?_toList] at e
      exact e
    exact ⟨by simpa using key 0 _ (by decide) rfl, key 1 _ (by decide) rfl, key 2 _ (by decide) rfl, key 3 _ (by decide) rfl⟩
theorem rown_ty {w : World} {base size n : Nat} {e : TypeId} {xs : List Value} {ad : Option Addr} {cap : Nat} (h : w.ownsRow base e size (.slice ad n cap) n xs) : TyIn w ad n e := fun _ g o s ha => by
  subst ha
  rcases h.2 with ⟨e1, _⟩ | ⟨g2, cap2, cur, e1, _, hg, _⟩
  · cases e1
  · cases e1; exact ⟨_, _, hg⟩
theorem infoInS : (Tryz.prog.info? 51).map (fun i => (i.zero, i.size, i.bytes)) = some (some (.agg #[.int .u8 0, .int .i64 0, .int .i64 0, .int .i64 0]), 4, 32) := by kernel_rfl
theorem wpList_app_z {ops : Array Oper} {rest : List Oper} {o : Oper} {a : Act} {w : World} {Q : Exit → Act → World → Prop} (hgd : o.guard = none) (s x : Operand)
    (ho : o.op = .call { callee := .builtin .append, args := #[s, x], argTypes := #[43, 43] }) (base : Nat) (v : Value) (l : List Int)
    (hs : a.eval s = v) (hown : w.ownsRow base 3 1 v l.length (zrow l)) (q : Int) {g : Nat} (hx : a.eval x = .slice (some ⟨g, 0, none⟩) 1 1) {fz : Nat × Nat} (hg : w.heap[g]? = some (.cells #[.int .i64 q] 3 fz)) (hl : l.length ≤ 1000) (hbase : base ≤ w.heap.size)
    (hK : ∀ v' w', w'.ownsRow base 3 1 v' (l.length + 1) (zrow (l ++ [q])) → w.grownBy w' v.ownBlock → wpList Tryz.prog ops Q rest (a.put o.dst v') w') : wpList Tryz.prog ops Q (o :: rest) a w := by
  obtain ⟨i0, hi, hz0, hz1, hz2⟩ := info_parts infoInt
  refine wpList_append_own2 hgd s x 43 ho base 3 i0 _ 1 8 Tryz.underlying43 hi hz0 hz1 hz2 rfl (by decide) v l.length (zrow l) hs hown ⟨g, 0, none⟩ 1 1 [.int .i64 q] hx rfl (fun j u hj => addr_cell hg (by simpa using hj)) (by intro u hu; simp at hu; subst hu; rfl) (by decide) (by unfold maxLen; omega) (by omega) hbase ?_
  intro v' w' h1 h2 h3
  refine hK v' w' ?_ h2
  rw [show zrow (l ++ [q]) = zrow l ++ [.int .i64 q] from by simp [zrow]]
  exact h1
theorem wpList_app_i {ops : Array Oper} {rest : List Oper} {o : Oper} {a : Act} {w : World} {Q : Exit → Act → World → Prop} (hgd : o.guard = none) (s x : Operand)
    (ho : o.op = .call { callee := .builtin .append, args := #[s, x], argTypes := #[45, 45] }) (base : Nat) (v : Value) (l : List VI)
    (hs : a.eval s = v) (hown : w.ownsRow base 51 4 v l.length (icells l)) (q : VI) {g : Nat} (hx : a.eval x = .slice (some ⟨g, 0, none⟩) 1 1) {fz : Nat × Nat} {cs : Array Value} (hg : w.heap[g]? = some (.cells cs 51 fz)) (hcs : cs.toList = icell q) (hl : l.length ≤ 1000) (hbase : base ≤ w.heap.size)
    (hK : ∀ v' w', w'.ownsRow base 51 4 v' (l.length + 1) (icells (l ++ [q])) → w.grownBy w' v.ownBlock → wpList Tryz.prog ops Q rest (a.put o.dst v') w') : wpList Tryz.prog ops Q (o :: rest) a w := by
  obtain ⟨i0, hi, hz0, hz1, hz2⟩ := info_parts infoInS
  refine wpList_append_own2 hgd s x 45 ho base 51 i0 _ 4 32 Tryz.underlying45 hi hz0 hz1 hz2 rfl (by decide) v l.length (icells l) hs hown ⟨g, 0, none⟩ 1 1 (icell q) hx rfl (fun j u hj => addr_cell hg (by rw [← Array.getElem?_toList, hcs]; exact hj)) (by intro u hu; simp only [icell, List.mem_cons, List.not_mem_nil, or_false] at hu; rcases hu with rfl | rfl | rfl | rfl <;> rfl) (by decide) (by unfold maxLen; omega) (by omega) hbase ?_
  intro v' w' h1 h2 h3
  refine hK v' w' ?_ h2
  rw [show icells (l ++ [q]) = icells l ++ icell q from by simp [icells]]
  exact h1
end Go.Proofs.YtpboencfnjmmbaaGreatDoor
