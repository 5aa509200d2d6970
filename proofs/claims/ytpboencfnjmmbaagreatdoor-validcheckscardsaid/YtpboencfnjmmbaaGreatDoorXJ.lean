/-
  What a plain run looks at and what it changes: on memory that is alike where it looks it does alike.
  Conditions: as each theorem says. (No program is named here.)
-/
import Derived.Test.YtpboencfnjmmbaaGreatDoorXI
namespace Go.Ex
set_option linter.unusedVariables false

abbrev M (β : Type) := St → Option (β × St)
def mb {β γ : Type} (m : M β) (f : β → M γ) : M γ := fun s => match m s with
  | some (b, s1) => f b s1
  | none => none
def mret {β : Type} (b : β) : M β := fun s => some (b, s)
def mno {β : Type} : M β := fun _ => none

def Loc {β : Type} (m : M β) : Prop := ∀ s b s', m s = some (b, s') → ∃ r w, s'.rd = r ++ s.rd ∧ s'.wr = w ++ s.wr ∧ s.ctr ≤ s'.ctr ∧ s'.top = s.top ∧ (s.ctr ≤ s.top → s'.ctr ≤ s.top) ∧ (∀ n, n ∉ w → ¬(s.ctr ≤ n ∧ n < s'.ctr) → s'.h.get n = s.h.get n) ∧
  ∀ t, t.ctr = s.ctr → s'.ctr ≤ t.top → (∀ n, (n ∈ r ∨ (s.ctr ≤ n ∧ n < s'.ctr)) → t.h.get n = s.h.get n) → ∃ t', m t = some (b, t') ∧ t'.ctr = s'.ctr ∧ t'.top = t.top ∧ t'.rd = r ++ t.rd ∧ t'.wr = w ++ t.wr ∧ ∀ n, t'.h.get n = if n ∈ w ∨ (s.ctr ≤ n ∧ n < s'.ctr) then s'.h.get n else t.h.get n

theorem Loc.congr {β : Type} {m m' : M β} (h : Loc m) (e : ∀ s, m' s = m s) : Loc m' := by
  have : m' = m := funext e
  rw [this]; exact h

theorem Loc.ret {β : Type} (b : β) : Loc (mret b) := by
  intro s b' s' h
  cases h
  refine ⟨[], [], rfl, rfl, Nat.le_refl _, rfl, id, fun _ _ _ => rfl, fun t ht _ _ => ⟨t, rfl, ht, rfl, rfl, rfl, fun n => ?_⟩⟩
  rw [if_neg]
  rintro (h | h)
  · cases h
  · omega
theorem Loc.no {β : Type} : Loc (mno : M β) := by intro s b s' h; cases h

theorem Loc.bind {β γ : Type} {m : M β} {f : β → M γ} (h : Loc m) (k : ∀ b, Loc (f b)) : Loc (mb m f) := by
  intro s c s' hs
  unfold mb at hs
  cases e : m s with
  | none => rw [e] at hs; cases hs
  | some x =>
    obtain ⟨b, s1⟩ := x
    rw [e] at hs
    obtain ⟨r1, w1, a1, a2, a3, a3t, a3r, a4, a5⟩ := h s b s1 e
    obtain ⟨r2, w2, b1, b2, b3, b3t, b3r, b4, b5⟩ := k b s1 c s' hs
    refine ⟨r2 ++ r1, w2 ++ w1, by rw [b1, a1, List.append_assoc], by rw [b2, a2, List.append_assoc], Nat.le_trans a3 b3, by rw [b3t, a3t], fun h => by have h1 := a3r h; rw [← a3t] at h1 ⊢; exact b3r h1, ?_, ?_⟩
    · intro n hn hi
      simp only [List.mem_append, not_or] at hn
      rw [b4 n hn.1 (by omega), a4 n hn.2 (by omega)]
    · intro t ht htt hag
      obtain ⟨t1, c1, c2, c2t, c3, c4, c5⟩ := a5 t ht (Nat.le_trans b3 htt) fun n hn => hag n (by
        rcases hn with hn | hn
        · exact .inl (List.mem_append_right _ hn)
        · exact .inr ⟨hn.1, by omega⟩)
      obtain ⟨t2, d1, d2, d2t, d3, d4, d5⟩ := b5 t1 c2 (by rw [c2t]; exact htt) fun n hn => by
        rw [c5]
        split
        · rfl
        · rename_i hnw
          simp only [not_or] at hnw
          rw [a4 n hnw.1 hnw.2]
          refine hag n ?_
          rcases hn with hn | hn
          · exact .inl (List.mem_append_left _ hn)
          · exact .inr ⟨by omega, hn.2⟩
      refine ⟨t2, ?_, d2, by rw [d2t, c2t], by rw [d3, c3, List.append_assoc], by rw [d4, c4, List.append_assoc], fun n => ?_⟩
      · unfold mb; rw [c1]; exact d1
      · rw [d5]
        by_cases h1 : n ∈ w2 ∨ (s1.ctr ≤ n ∧ n < s'.ctr)
        · rw [if_pos h1, if_pos]
          rcases h1 with h1 | h1
          · exact .inl (List.mem_append_left _ h1)
          · exact .inr ⟨by omega, h1.2⟩
        · rw [if_neg h1, c5]
          simp only [not_or] at h1
          by_cases h2 : n ∈ w1 ∨ (s.ctr ≤ n ∧ n < s1.ctr)
          · rw [if_pos h2, if_pos]
            · exact (b4 n h1.1 h1.2).symm
            · rcases h2 with h2 | h2
              · exact .inl (List.mem_append_right _ h2)
              · exact .inr ⟨h2.1, by omega⟩
          · rw [if_neg h2, if_neg]
            simp only [not_or] at h2
            rintro (h3 | h3)
            · rcases List.mem_append.1 h3 with h3 | h3
              · exact h1.1 h3
              · exact h2.1 h3
            · by_cases h4 : n < s1.ctr
              · exact h2.2 ⟨h3.1, h4⟩
              · exact h1.2 ⟨by omega, h3.2⟩

def mget (n : Nat) : M Obj := fun s => match s.h.get n with
  | some o => some (o, s.read n)
  | none => none
def mset (n : Nat) (o : Obj) : M Unit := fun s => some ((), s.write n o)
def mdrop (n : Nat) : M Unit := fun s => some ((), s.drop n)
def mnew (o : Obj) : M Nat := fun s => if s.ctr < s.top then some (s.ctr, s.fresh o) else none

theorem Loc.get (n : Nat) : Loc (mget n) := by
  intro s o s' h
  unfold mget at h
  cases e : s.h.get n with
  | none => rw [e] at h; cases h
  | some o1 =>
    rw [e] at h; cases h
    refine ⟨[n], [], rfl, rfl, Nat.le_refl _, rfl, id, fun _ _ _ => rfl, fun t ht _ hag => ⟨t.read n, ?_, ht, rfl, rfl, rfl, fun m => ?_⟩⟩
    · unfold mget; rw [hag n (.inl (by simp)), e]
    · rw [if_neg]
      · rfl
      · rintro (h | h)
        · cases h
        · simp only [St.read] at h; omega
theorem Loc.set (n : Nat) (o : Obj) : Loc (mset n o) := by
  intro s u s' h
  cases h
  refine ⟨[n], [n], rfl, rfl, Nat.le_refl _, rfl, id, fun m hm _ => ?_, fun t ht _ hag => ⟨t.write n o, rfl, ht, rfl, rfl, rfl, fun m => ?_⟩⟩
  · simp only [St.write, Tr.get_put]
    rw [if_neg (by simpa using hm)]
  · simp only [St.write, Tr.get_put]
    by_cases hm : m = n
    · subst hm; simp
    · rw [if_neg hm, if_neg]
      rintro (h | h)
      · exact hm (by simpa using h)
      · omega
theorem Loc.drop (n : Nat) : Loc (mdrop n) := by
  intro s u s' h
  cases h
  refine ⟨[n], [n], rfl, rfl, Nat.le_refl _, rfl, id, fun m hm _ => ?_, fun t ht _ hag => ⟨t.drop n, rfl, ht, rfl, rfl, rfl, fun m => ?_⟩⟩
  · simp only [St.drop, Tr.get_put]
    rw [if_neg (by simpa using hm)]
  · simp only [St.drop, Tr.get_put]
    by_cases hm : m = n
    · subst hm; simp
    · rw [if_neg hm, if_neg]
      rintro (h | h)
      · exact hm (by simpa using h)
      · omega
theorem Loc.new (o : Obj) : Loc (mnew o) := by
  intro s u s' h
  unfold mnew at h
  split at h <;> cases h
  refine ⟨[], [], rfl, rfl, Nat.le_succ _, rfl, fun _ => by simp only [St.fresh]; omega, fun m _ hm => ?_, fun t ht htt hag => ⟨t.fresh o, ?_, by simp [St.fresh, ht], rfl, rfl, rfl, fun m => ?_⟩⟩
  · simp only [St.fresh, Tr.get_put] at hm ⊢
    rw [if_neg (by omega)]
  · unfold mnew
    rw [if_pos (by simp only [St.fresh] at htt; omega), ht]
  · simp only [St.fresh, Tr.get_put, ht]
    by_cases hm : m = s.ctr
    · subst hm; rw [if_pos rfl, if_pos (.inr ⟨Nat.le_refl _, Nat.lt_succ_self _⟩), if_pos rfl]
    · rw [if_neg hm, if_neg]
      rintro (h | h)
      · cases h
      · omega

/-- A block is looked at and written anew. -/
def mmod (n : Nat) (f : Obj → Option Obj) : M Unit := fun s => match s.h.get n with
  | some o => match f o with
    | some o' => some ((), s.write n o')
    | none => none
  | none => none
theorem Loc.mod (n : Nat) (f : Obj → Option Obj) : Loc (mmod n f) := by
  intro s u s' h
  unfold mmod at h
  cases e : s.h.get n with
  | none => rw [e] at h; cases h
  | some o =>
    rw [e] at h
    dsimp only at h
    cases e2 : f o with
    | none => rw [e2] at h; cases h
    | some o' =>
      rw [e2] at h
      cases h
      refine ⟨[n], [n], rfl, rfl, Nat.le_refl _, rfl, id, fun m hm _ => ?_, fun t ht _ hag => ⟨t.write n o', ?_, ht, rfl, rfl, rfl, fun m => ?_⟩⟩
      · simp only [St.write, Tr.get_put]
        rw [if_neg (by simpa using hm)]
      · unfold mmod; rw [hag n (.inl (by simp)), e]; dsimp only; rw [e2]
      · simp only [St.write, Tr.get_put]
        by_cases hm : m = n
        · subst hm; simp
        · rw [if_neg hm, if_neg]
          rintro (h | h)
          · exact hm (by simpa using h)
          · omega

theorem Loc.ite {β : Type} {c : Prop} [Decidable c] {m m' : M β} (h : Loc m) (k : Loc m') : Loc (if c then m else m') := by
  split
  · exact h
  · exact k

theorem Loc.arun {α : Type} (P : Program) (G : Nat) (e : Sem α) : Loc (arun P G e) := by
  induction e with
  | pure a => exact (Loc.ret (.ok a)).congr fun _ => rfl
  | load m a k ih =>
    refine ((Loc.get a.block).bind (f := fun o => match o with
      | .cells c _ _ => if a.spot.isSome then mno else match c[a.off]? with
        | some v => Ex.arun P G (k v)
        | none => mno
      | _ => mno) fun o => ?_).congr fun s => ?_
    · split
      · refine .ite .no ?_
        split
        · exact ih _
        · exact .no
      · exact .no
    · simp only [Ex.arun, mb, mget]
      cases e : s.h.get a.block with
      | none => rfl
      | some o =>
        cases o <;> first | rfl | skip
        dsimp only
        split
        · rfl
        · rename_i c _ _ _
          cases c[a.off]? <;> rfl
  | store m a v k ih =>
    refine ((Loc.mod a.block fun o => match o with
      | .cells c e fr => if a.spot.isNone && decide (G ≤ a.block) && decide (a.off < c.size ∧ fr.1 ≠ 2) && v.oneCell' then some (.cells (c.setIfInBounds a.off v) e fr) else none
      | _ => none).bind (f := fun _ => Ex.arun P G k) fun _ => ih).congr fun s => ?_
    simp only [Ex.arun, mb, mmod]
    cases e : s.h.get a.block with
    | none => rfl
    | some o =>
      cases o <;> first | rfl | skip
      dsimp only
      split <;> rfl
  | new o k ih =>
    refine (Loc.ite (c := okNew o = true) ((Loc.new o).bind (f := fun r => Ex.arun P G (k r)) fun r => ih r) Loc.no).congr fun s => ?_
    simp only [Ex.arun]
    by_cases h1 : okNew o = true
    · by_cases h2 : s.ctr < s.top
      · rw [if_pos (by simp [h1, h2]), if_pos h1]
        simp only [mb, mnew, if_pos h2]
      · rw [if_neg (by simp [h2]), if_pos h1]
        simp only [mb, mnew, if_neg h2]
    · rw [if_neg (by simp [h1]), if_neg h1]; rfl
  | shape r k ih =>
    refine ((Loc.get r).bind (f := fun o => match o with
      | .cells c e fr => if fr == (0, 0) then Ex.arun P G (k (some (e, c.size))) else mno
      | _ => mno) fun o => ?_).congr fun s => ?_
    · split
      · exact .ite (ih _) .no
      · exact .no
    · simp only [Ex.arun, mb, mget]
      cases e : s.h.get r with
      | none => rfl
      | some o =>
        cases o <;> first | rfl | skip
        dsimp only
        split <;> rfl
  | freeze a n k ih => exact Loc.no.congr fun _ => rfl
  | frozen a k ih =>
    refine ((Loc.get a.block).bind (f := fun o => match o with
      | .cells c _ fr => if a.off < c.size ∧ fr.1 ≠ 2 then Ex.arun P G (k false) else mno
      | _ => mno) fun o => ?_).congr fun s => ?_
    · split
      · exact .ite (ih _) .no
      · exact .no
    · simp only [Ex.arun, mb, mget]
      cases e : s.h.get a.block with
      | none => rfl
      | some o =>
        cases o <;> first | rfl | skip
        dsimp only
        split <;> rfl
  | getObj r k ih =>
    refine ((Loc.get r).bind (f := fun o => if okSet o then Ex.arun P G (k o) else mno) fun o => .ite (ih _) .no).congr fun s => ?_
    simp only [Ex.arun, mb, mget]
    cases e : s.h.get r with
    | none => rfl
    | some o => dsimp only; split <;> rfl
  | setObj r o k ih =>
    refine ((Loc.mod r fun o0 => if okSet o0 && okSet o && decide (G ≤ r) then some o else none).bind (f := fun _ => Ex.arun P G k) fun _ => ih).congr fun s => ?_
    simp only [Ex.arun, mb, mmod]
    cases e : s.h.get r with
    | none => rfl
    | some o => dsimp only; split <;> rfl
  | choose q k ih =>
    refine (Loc.ite (c := q.forced = true) (ih 0) Loc.no).congr fun s => ?_
    simp only [Ex.arun]
    split <;> rfl
  | sys c k ih => exact Loc.no.congr fun _ => rfl
  | program k ih => exact (ih P).congr fun _ => rfl
  | mark m k ih => exact ih.congr fun _ => rfl
  | halt h =>
    cases h with
    | panic v =>
      refine (Loc.ite (c := flatP v = true) (Loc.ret (.error v)) Loc.no).congr fun s => ?_
      simp only [Ex.arun]
      split <;> rfl
    | _ => exact Loc.no.congr fun _ => rfl

/-- Behind a run that answers, a run; where it panics, nothing. -/
theorem Loc.okBind {β γ : Type} {m : M (Except Value β)} {f : β → M γ} (h : Loc m) (k : ∀ b, Loc (f b)) : Loc (fun s => match m s with
    | some (.ok b, s1) => f b s1
    | _ => none) := by
  refine (h.bind (f := fun r => match r with | .ok b => f b | .error _ => mno) fun r => ?_).congr fun s => ?_
  · cases r
    · exact .no
    · exact k _
  · unfold mb
    cases m s with
    | none => rfl
    | some x => obtain ⟨r, s1⟩ := x; cases r <;> rfl

/-- A block is looked at, and its name struck. -/
def mcut (n : Nat) (f : Obj → Bool) : M Unit := fun s => match s.h.get n with
  | some o => if f o then some ((), s.drop n) else none
  | none => none
theorem Loc.cut (n : Nat) (f : Obj → Bool) : Loc (mcut n f) := by
  intro s u s' h
  unfold mcut at h
  cases e : s.h.get n with
  | none => rw [e] at h; cases h
  | some o =>
    rw [e] at h
    dsimp only at h
    split at h <;> cases h
    rename_i e2
    refine ⟨[n], [n], rfl, rfl, Nat.le_refl _, rfl, id, fun m hm _ => ?_, fun t ht _ hag => ⟨t.drop n, ?_, ht, rfl, rfl, rfl, fun m => ?_⟩⟩
    · simp only [St.drop, Tr.get_put]
      rw [if_neg (by simpa using hm)]
    · unfold mcut; rw [hag n (.inl (by simp)), e]; dsimp only; rw [if_pos e2]
    · simp only [St.drop, Tr.get_put]
      by_cases hm : m = n
      · subst hm; simp
      · rw [if_neg hm, if_neg]
        rintro (h | h)
        · exact hm (by simpa using h)
        · omega

theorem Loc.grown (e : TypeId) (cs : Array Value) (z n : Nat) : Loc (agrow e cs z n) :=
  ((Loc.new (.cells cs e (1, z))).bind (f := fun r => mret (.slice (some ⟨r, 0, none⟩) n unk)) fun _ => Loc.ret _).congr fun s => by
    simp only [mb, mnew, agrow]
    split <;> rfl

theorem Loc.app3 (P : Program) (G : Nat) (e : TypeId) (i : TypeInfo) (base : Option Addr) (l c m : Nat) (old news : Array Value) : Loc (aapp3 P G e i base l c m old news) := by
  by_cases h0 : (news.size == m * i.size && old.size == l * i.size && news.toList.all Value.oneCell' && fitOk (l + m) i.bytes) = true
  · cases base with
    | none =>
      by_cases h1 : (l == 0 && c == 0) = true
      · by_cases h2 : (m == 0) = true
        · exact (Loc.ret (.slice none l c)).congr fun s => by unfold aapp3; rw [if_pos h0]; dsimp only; rw [if_pos h1, if_pos h2]; rfl
        · exact (Loc.grown e (old ++ news) i.size (l + m)).congr fun s => by unfold aapp3; rw [if_pos h0]; dsimp only; rw [if_pos h1, if_neg h2]
      · exact Loc.no.congr fun s => by unfold aapp3; rw [if_pos h0]; dsimp only; rw [if_neg h1]; rfl
    | some a =>
      by_cases h1 : (c == unk) = true
      · by_cases h2 : (a.off == 0 && a.spot.isNone && decide (G ≤ a.block)) = true
        · by_cases h3 : (m == 0) = true
          · refine ((Loc.get a.block).bind (f := fun o => match o with
              | .cells cs e' fr => if e' == e && fr == (1, i.size) then mret (.slice (some a) l c) else mno
              | _ => mno) fun o => ?_).congr fun s => ?_
            · split
              · exact .ite (.ret _) .no
              · exact .no
            · unfold aapp3
              rw [if_pos h0]; dsimp only; rw [if_pos h1, if_pos h2]
              simp only [mb, mget]
              cases s.h.get a.block with
              | none => rfl
              | some o => cases o <;> first | rfl | (dsimp only; split <;> first | rfl | (rw [if_pos h3]; rfl))
          · refine ((Loc.cut a.block fun o => match o with
              | .cells cs e' fr => e' == e && fr == (1, i.size)
              | _ => false).bind (f := fun _ => agrow e (old ++ news) i.size (l + m)) fun _ => Loc.grown e (old ++ news) i.size (l + m)).congr fun s => ?_
            unfold aapp3
            rw [if_pos h0]; dsimp only; rw [if_pos h1, if_pos h2]
            simp only [mb, mcut]
            cases s.h.get a.block with
            | none => rfl
            | some o => cases o <;> first | rfl | (dsimp only; split <;> first | rfl | (rw [if_neg h3]; rfl))
        · exact Loc.no.congr fun s => by unfold aapp3; rw [if_pos h0]; dsimp only; rw [if_pos h1, if_neg h2]; rfl
      · by_cases h2 : l + m ≤ c
        · refine ((Loc.arun P G (Go.storeCells (a.add (l * i.size)) news.toList)).okBind (f := fun _ => mret (.slice (some a) (l + m) c)) fun _ => Loc.ret _).congr fun s => ?_
          unfold aapp3
          rw [if_pos h0]; dsimp only; rw [if_neg h1, if_pos h2]
          cases Ex.arun P G (Go.storeCells (a.add (l * i.size)) news.toList) s with
          | none => rfl
          | some x => obtain ⟨r, s1⟩ := x; cases r <;> rfl
        · exact (Loc.grown e (old ++ news) i.size (l + m)).congr fun s => by unfold aapp3; rw [if_pos h0]; dsimp only; rw [if_neg h1, if_neg h2]
  · exact Loc.no.congr fun s => by unfold aapp3; rw [if_neg h0]; rfl

theorem Loc.app2 (P : Program) (G : Nat) (e : TypeId) (i : TypeInfo) (base : Option Addr) (l c m : Nat) (x : Value) : Loc (aapp2 P G e i base l c m x) := by
  refine ((Loc.arun P G (Builtin.firstCells i.size l (.slice base l c))).okBind (f := fun old => mb (Ex.arun P G (Builtin.firstCells i.size m x)) fun r => match r with
    | .ok news => aapp3 P G e i base l c m old news
    | .error _ => mno) fun old => (Loc.arun P G _).bind fun r => ?_).congr fun s => ?_
  · cases r
    · exact .no
    · exact Loc.app3 P G e i base l c m old _
  · unfold aapp2
    cases Ex.arun P G (Builtin.firstCells i.size l (.slice base l c)) s with
    | none => rfl
    | some y =>
      obtain ⟨r, s1⟩ := y
      cases r with
      | error _ => rfl
      | ok old =>
        simp only [mb]
        cases Ex.arun P G (Builtin.firstCells i.size m x) s1 with
        | none => rfl
        | some y => obtain ⟨r, s2⟩ := y; cases r <;> rfl
theorem Loc.app (P : Program) (G : Nat) (t t2 : TypeId) (v x : Value) : Loc (aapp P G t t2 v x) := by
  unfold aapp
  split
  · split
    · split
      · split
        · split
          · exact Loc.app2 P G _ _ _ _ _ _ _
          · exact .no
        · exact .no
      · exact .no
    · exact .no
  · exact .no
theorem Loc.slice (P : Program) (t : TypeId) (v : Value) (lo hi : Option Value) : Loc (aslice P t v lo hi) := by
  unfold aslice
  split
  · split
    · split
      · exact .ret _
      · exact .no
    · exact .no
  · exact .no
theorem Loc.bytes (P : Program) (d : TypeId) (x : Value) : Loc (abytes P d x) := by
  unfold abytes
  split
  · split
    · exact Loc.grown _ _ _ _
    · exact .no
  · exact .no
end Go.Ex
