/-
  Rows of functions that grow.
  Conditions: as each theorem says.
-/
import Derived.Test.YtpboencfnjmmbaaGreatDoorVdLaw
namespace Go.Proofs.YtpboencfnjmmbaaGreatDoor
open Go.RowKit
set_option linter.unusedVariables false
set_option linter.unusedSimpArgs false
/-- A function and its three slices. -/
structure QF where
  f : VF
  ha : Option Addr
  hc : Nat
  ca : Option Addr
  cc : Nat
  ia : Option Addr
  ic : Nat
abbrev QF.hv (q : QF) : Value := .slice q.ha q.f.h.length q.hc
abbrev QF.cv (q : QF) : Value := .slice q.ca q.f.nc q.cc
abbrev QF.iv (q : QF) : Value := .slice q.ia q.f.cd.length q.ic
def QF.cells (q : QF) : List Value := [.int .i64 q.f.p, q.hv, .int .i64 q.f.r, q.cv, q.iv]
def qcells (l : List QF) : List Value := l.flatMap QF.cells
theorem qcells_len (l : List QF) : (qcells l).length = l.length * 5 := by
  induction l with
  | nil => rfl
  | cons q l ih => rw [qcells, List.flatMap_cons, List.length_append, ← qcells, ih]; simp [QF.cells]; omega
theorem qcells_get {l : List QF} {j : Nat} {q : QF} (h : l[j]? = some q) : ∀ i, i < 5 → (qcells l)[j * 5 + i]? = q.cells[i]? := by
  intro i hi
  induction l generalizing j with
  | nil => simp at h
  | cons p l ih =>
    rw [qcells, List.flatMap_cons, ← qcells]
    cases j with
    | zero =>
      simp at h; subst h
      rw [List.getElem?_append_left (by simp [QF.cells]; omega)]
      simp
    | succ j =>
      rw [List.getElem?_append_right (by simp [QF.cells]; omega), show (j + 1) * 5 + i - p.cells.length = j * 5 + i from by simp [QF.cells]; omega]
      exact ih (by simpa using h)
def TyIn (w : World) (ad : Option Addr) (n : Nat) (e : TypeId) : Prop := 0 < n → ∀ (g o : Nat) (s : Option Nat), ad = some ⟨g, o, s⟩ → ∃ (cs : Array Value) (fz : Nat × Nat), w.heap[g]? = some (Obj.cells cs e fz)
structure QOk (w : World) (q : QF) : Prop where
  v : VFin w q.f q.hv q.cv q.iv
  th : TyIn w q.ha q.f.h.length 3
  ti : TyIn w q.ia q.f.cd.length 51
theorem TyIn.keep {w w' : World} {ad : Option Addr} {n : Nat} {e : TypeId} (h : TyIn w ad n e) (hk : ∀ (g : Nat) (cs : Array Value) (fz : Nat × Nat), w.heap[g]? = some (Obj.cells cs e fz) → w'.heap[g]? = w.heap[g]?) : TyIn w' ad n e := fun hn g o s ha => by
  obtain ⟨cs, fz, hg⟩ := h hn g o s ha
  exact ⟨cs, fz, (hk g cs fz hg).trans hg⟩
theorem QOk.keep {w w' : World} {q : QF} (h : QOk w q) (hs : w.heap.size ≤ w'.heap.size) (hk : ∀ (g : Nat) (cs : Array Value) (fz : Nat × Nat) (e : TypeId), e = 3 ∨ e = 51 → w.heap[g]? = some (Obj.cells cs e fz) → w'.heap[g]? = w.heap[g]?) : QOk w' q := by
  refine ⟨⟨?_, h.v.c, ?_, h.v.n⟩, TyIn.keep h.th fun g cs fz hg => hk g cs fz _ (.inl rfl) hg, TyIn.keep h.ti fun g cs fz hg => hk g cs fz _ (.inr rfl) hg⟩
  · obtain ⟨ad, cap, h1, h2, h3, h4⟩ := h.v.h
    refine ⟨ad, cap, h1, h2, h3, fun hn => ?_⟩
    obtain ⟨g, o, e1, e2, e3⟩ := h4 hn
    obtain ⟨cs, fz, hg⟩ := h.th hn g o none (by injection h1 with h1 _ _; rw [h1, e1])
    have e := hk g cs fz _ (.inl rfl) hg
    exact ⟨g, o, e1, Nat.lt_of_lt_of_le e2 hs, fun k n hk => (vcell e).trans (e3 k n hk)⟩
  · obtain ⟨ad, cap, h1, h2, h3, h4⟩ := h.v.i
    refine ⟨ad, cap, h1, h2, h3, fun hn => ?_⟩
    obtain ⟨g, o, e1, e2, e3⟩ := h4 hn
    obtain ⟨cs, fz, hg⟩ := h.ti hn g o none (by injection h1 with h1 _ _; rw [h1, e1])
    have e := hk g cs fz _ (.inr rfl) hg
    refine ⟨g, o, e1, Nat.lt_of_lt_of_le e2 hs, fun k x hk => ?_⟩
    obtain ⟨a1, a2, a3, a4⟩ := e3 k x hk
    exact ⟨(vcell e).trans a1, (vcell e).trans a2, (vcell e).trans a3, (vcell e).trans a4⟩
theorem QOk.below {w w' : World} {q : QF} (h : QOk w q) (hb : Below w.heap.size w w') : QOk w' q := h.keep hb.size fun g cs fz e _ hg => hb.block g (lt_of_block hg)
/-- A row of functions that grew is still what it was for functions held elsewhere. -/
theorem QOk.grown {w w' : World} {q : QF} {base : Nat} {v : Value} {n : Nat} {xs : List Value} (h : QOk w q) (hown : w.ownsRow base 47 5 v n xs) (hg : w.grownBy w' v.ownBlock) : QOk w' q :=
  h.keep hg.size fun k cs fz e he hk => hg.block k (lt_of_block hk) (fun e2 => by
    rcases hown.2 with ⟨rfl, _⟩ | ⟨g, cap, cur, rfl, _, hgg, _⟩
    · simp [Value.ownBlock] at e2
    · simp [Value.ownBlock] at e2
      subst e2
      rw [hgg] at hk
      injection hk with hk
      injection hk with _ hk _
      rcases he with he | he <;> rw [he] at hk <;> exact absurd hk (by decide))
theorem QOk.set {w : World} {q : QF} (h : QOk w q) {b i : Nat} {cs : Array Value} {t : TypeId} {fz : Nat × Nat} (hb : w.heap[b]? = some (.cells cs t fz)) (h1 : t ≠ 3) (h2 : t ≠ 51) (u : Value) : QOk (w.setCell ⟨b, i, none⟩ u) q :=
  h.keep (by simp) fun k cs2 fz2 e he hk => Below.heap_setCell _ _ _ _ (by
    rintro rfl
    rw [hb] at hk
    injection hk with hk
    injection hk with _ hk _
    rcases he with he | he
    · exact h1 (hk.trans he)
    · exact h2 (hk.trans he))
theorem own_set {w : World} {base : Nat} {v : Value} {n : Nat} {xs : List Value} (h : w.ownsRow base 47 5 v n xs) {b i : Nat} {cs : Array Value} {t : TypeId} {fz : Nat × Nat} (hb : w.heap[b]? = some (.cells cs t fz)) (h1 : t ≠ 47) (u : Value) : (w.setCell ⟨b, i, none⟩ u).ownsRow base 47 5 v n xs := by
  refine ⟨h.1, ?_⟩
  rcases h.2 with h0 | ⟨g, cap, cur, rfl, hbg, hg, r⟩
  · exact .inl h0
  · refine .inr ⟨g, cap, cur, rfl, hbg, ?_, r⟩
    rw [Below.heap_setCell _ _ _ _ (by
      rintro rfl
      rw [hg] at hb
      injection hb with hb
      injection hb with _ hb _
      exact h1 hb.symm)]
    exact hg
theorem own_ne' {w : World} {base : Nat} {v : Value} {n : Nat} {xs : List Value} (h : w.ownsRow base 47 5 v n xs) {b : Nat} {cs : Array Value} {t : TypeId} {fz : Nat × Nat} (hb : w.heap[b]? = some (.cells cs t fz)) (h1 : t ≠ 47) : v.ownBlock ≠ some b := by
  rcases h.2 with ⟨rfl, _⟩ | ⟨g, cap, cur, rfl, hbg, hg, r⟩
  · simp [Value.ownBlock]
  · simp only [Value.ownBlock]
    intro e
    injection e with e
    subst e
    rw [hg] at hb
    injection hb with hb
    injection hb with _ hb _
    exact h1 hb.symm
theorem row_fsl {w : World} {base : Nat} {v : Value} {qs : List QF} (hown : w.ownsRow base 47 5 v qs.length (qcells qs)) (hq : ∀ q ∈ qs, QOk w q) : FSl w v (qs.map (·.f)) := by
  rcases hown.2 with ⟨rfl, h0⟩ | ⟨g, cap, cur, rfl, _, hg, h1, h2, h3, h4⟩
  · have : qs = [] := List.length_eq_zero_iff.1 h0
    subst this
    exact ⟨none, 0, rfl, Nat.le_refl _, Nat.zero_le _, fun h => absurd h (by simp)⟩
  · refine ⟨_, cap, by simp, by simpa using h1, h2, fun _ => ⟨g, 0, rfl, lt_of_block hg, fun j f hj => ?_⟩⟩
    rw [List.getElem?_map, Option.map_eq_some_iff] at hj
    obtain ⟨q, hj, rfl⟩ := hj
    have hjl : j < qs.length := (List.getElem?_eq_some_iff.1 hj).1
    have key : ∀ i v, i < 5 → q.cells[i]? = some v → w.cell? ⟨g, 0 + j * 5 + i, none⟩ = some v := by
      intro i v hi hv
      simp only [World.cell?, hg, Nat.zero_add]
      have e := qcells_get hj i hi
      rw [← h4, hv, List.getElem?_take, if_pos (by omega), Array.getElem?_toList] at e
      exact e
    exact ⟨q.hv, q.cv, q.iv, (hq q (List.mem_of_getElem? hj)).v, by simpa using key 0 _ (by decide) rfl, key 1 _ (by decide) rfl, key 2 _ (by decide) rfl, key 3 _ (by decide) rfl, key 4 _ (by decide) rfl⟩
theorem infoFn : (Tryz.prog.info? 47).map (fun i => (i.zero, i.size, i.bytes)) = some (some (.agg #[.int .i64 0, .slice none 0 0, .int .i64 0, .slice none 0 0, .slice none 0 0]), 5, 88) := by kernel_rfl
theorem addr_cell {w : World} {g : Nat} {cs : Array Value} {e : TypeId} {fz : Nat × Nat} (hg : w.heap[g]? = some (.cells cs e fz)) {j : Nat} {u : Value} (hj : cs[j]? = some u) : w.cell? ((⟨g, 0, none⟩ : Addr).add j) = some u := by
  by_cases h0 : j = 0
  · subst h0; simp [Addr.add, World.cell?, hg, hj]
  · simp [Addr.add, World.cell?, h0, hg, hj]
theorem wpList_app_fn {ops : Array Oper} {rest : List Oper} {o : Oper} {a : Act} {w : World} {Q : Exit → Act → World → Prop} (hgd : o.guard = none) (s x : Operand)
    (ho : o.op = .call { callee := .builtin .append, args := #[s, x], argTypes := #[29, 29] }) (base : Nat) (v : Value) (qs : List QF)
    (hs : a.eval s = v) (hown : w.ownsRow base 47 5 v qs.length (qcells qs)) (q : QF) {g : Nat} (hx : a.eval x = .slice (some ⟨g, 0, none⟩) 1 1) {fz : Nat × Nat} (hg : w.heap[g]? = some (.cells q.cells.toArray 47 fz)) (hl : qs.length ≤ 1000) (hbase : base ≤ w.heap.size)
    (hK : ∀ v' w', w'.ownsRow base 47 5 v' (qs ++ [q]).length (qcells (qs ++ [q])) → w.grownBy w' v.ownBlock → (v'.ownBlock = v.ownBlock ∨ v'.ownBlock = some w.heap.size) → wpList Tryz.prog ops Q rest (a.put o.dst v') w') : wpList Tryz.prog ops Q (o :: rest) a w := by
  obtain ⟨i0, hi, hz0, hz1, hz2⟩ := info_parts infoFn
  refine wpList_append_own2 hgd s x 29 ho base 47 i0 _ 5 88 Tryz.underlying29 hi hz0 hz1 hz2 rfl (by decide) v qs.length (qcells qs) hs hown ⟨g, 0, none⟩ 1 1 q.cells hx rfl (fun j u hj => addr_cell hg (by simpa using hj)) (by intro u hu; simp only [QF.cells, List.mem_cons, List.not_mem_nil, or_false] at hu; rcases hu with rfl | rfl | rfl | rfl | rfl <;> rfl) (by decide) (by unfold maxLen; omega) (by omega) hbase ?_
  intro v' w' h1 h2 h3
  refine hK v' w' ?_ h2 h3
  rw [List.length_append, show qcells (qs ++ [q]) = qcells qs ++ q.cells from by simp [qcells]]
  exact h1
end Go.Proofs.YtpboencfnjmmbaaGreatDoor
