/-
  Rows that grow, by names of blocks: append, rows of a text's bytes, parts of rows whose room isn't known.
  Conditions: as each theorem says. (No program is named here.)
-/
import Derived.Test.YtpboencfnjmmbaaGreatDoorXG
import Derived.Laws.AppendOwn
namespace Go.Ex
set_option linter.unusedVariables false
open Go.RowKit

theorem WR.congr {C : Cx} {p : Rn} {s t : St} {w : World} (h : WR C p s w) (e : ∀ n, t.h.get n = s.h.get n) (k : t.ctr = s.ctr) (k2 : t.top = s.top) : WR C p t w :=
  ⟨h.below, h.base, fun n b j x => k ▸ h.dom n b j x, fun n o x => h.heap n o (e n ▸ x), fun n m o o' b k1 k2 x y => h.inj n m o o' b k1 k2 (e n ▸ x) (e m ▸ y), h.own, k ▸ h.ctr, fun n hn => k2 ▸ h.far n hn, k ▸ h.lo, by rw [k, k2]; exact h.room⟩

def St.drop (s : St) (n : Nat) : St := { s with h := s.h.put n none, rd := n :: s.rd, wr := n :: s.wr }
theorem WR.drop {C : Cx} {p : Rn} {s : St} {w : World} (h : WR C p s w) (n : Nat) : WR C p (s.drop n) w := by
  have look : ∀ m o, (s.drop n).h.get m = some o → s.h.get m = some o := by
    intro m o e
    simp only [St.drop, Tr.get_put] at e
    split at e
    · cases e
    · exact e
  exact ⟨h.below, h.base, h.dom, fun m o x => h.heap m o (look m o x), fun m m' o o' b k1 k2 x y => h.inj m m' o o' b k1 k2 (look m o x) (look m' o' y), h.own, h.ctr, h.far, h.lo, h.room⟩

/-- A block's name is changed for a new one. -/
theorem WR.rename {C : Cx} {p : Rn} {s : St} {w : World} (h : WR C p s w) (ht : s.ctr < s.top) {n b k : Nat} {o : Obj} (hp : p n = some (b, k)) (ho : s.h.get n = some o) (hG : C.G ≤ n) : WR C (ext p s.ctr b k) ((s.drop n).fresh o) w := by
  have hle := h.extend ht b k
  have hb := (h.dom _ _ _ hp).2
  have hn : n ≠ s.ctr := fun e => by rw [e, h.nowhere ht] at hp; cases hp
  have old : ∀ m b' j, ext p s.ctr b k m = some (b', j) → m ≠ s.ctr → p m = some (b', j) := by
    intro m b' j e hn; simpa [ext, hn] using e
  have look : ∀ m o', ((s.drop n).fresh o).h.get m = some o' → (m = s.ctr ∧ o' = o) ∨ (m ≠ s.ctr ∧ m ≠ n ∧ s.h.get m = some o') := by
    intro m o' e
    simp only [St.drop, St.fresh, Tr.get_put] at e
    split at e
    · cases e; exact .inl ⟨by assumption, rfl⟩
    · split at e
      · cases e
      · exact .inr ⟨by assumption, by assumption, e⟩
  refine ⟨h.below, h.base, ?_, ?_, ?_, ?_, by have := h.ctr; simp only [St.drop, St.fresh]; omega, h.far, by have := h.lo; simp only [St.drop, St.fresh]; omega, by simp only [St.drop, St.fresh]; omega⟩
  · intro m b' j e
    by_cases hm : m = s.ctr
    · subst hm; rw [ext_self] at e; cases e; simp only [St.drop, St.fresh]; exact ⟨.inr (by have := h.lo; omega), by omega⟩
    · have := h.dom m b' j (old m b' j e hm); simp only [St.drop, St.fresh]; exact ⟨this.1.imp id (fun h => by omega), by omega⟩
  · intro m o' e
    rcases look m o' e with ⟨rfl, rfl⟩ | ⟨hm, _, e⟩
    · obtain ⟨b', k', u', h1, h2, h3⟩ := h.heap n _ ho
      rw [hp] at h1; cases h1
      exact ⟨b, k, u', ext_self _ _ _ _, h2, h3.le hle⟩
    · obtain ⟨b', k', u', h1, h2, h3⟩ := h.heap m _ e
      exact ⟨b', k', u', hle _ _ h1, h2, h3.le hle⟩
  · intro m m' o1 o2 b' k1 k2 e e' f f'
    rcases look m o1 e with ⟨rfl, rfl⟩ | ⟨hm, hmn, x1⟩ <;> rcases look m' o2 e' with ⟨rfl, rfl⟩ | ⟨hm', hmn', x2⟩
    · rfl
    · rw [ext_self] at f; cases f
      exact (hmn' (h.inj m' n o2 _ b k2 k x2 ho (old _ _ _ f' hm') hp)).elim
    · rw [ext_self] at f'; cases f'
      exact (hmn (h.inj m n o1 _ b k1 k x1 ho (old _ _ _ f hm) hp)).elim
    · exact h.inj m m' o1 o2 b' k1 k2 x1 x2 (old _ _ _ f hm) (old _ _ _ f' hm')
  · intro m b' j hG' e
    by_cases hm : m = s.ctr
    · subst hm; rw [ext_self] at e; cases e; exact h.own n _ _ hG hp
    · exact h.own m b' j hG' (old _ _ _ e hm)

/-- Fewer cells are told of. -/
theorem WR.less {C : Cx} {p : Rn} {s : St} {w : World} (h : WR C p s w) {n : Nat} {c : Array Value} {e : TypeId} {z m : Nat} (ho : s.h.get n = some (.cells c e (1, z))) (hG : C.G ≤ n) : WR C p (s.write n (.cells (c.extract 0 m) e (1, z))) w := by
  obtain ⟨b, k, o', h1, h2, h3⟩ := h.heap _ _ ho
  obtain ⟨c', fr', rfl, g1, g2, g3, g4⟩ := h3.oc (by simp)
  refine h.write h1 ho hG (Below.refl _ w) rfl h2 (fun _ _ => rfl) (.inl ⟨c', fr', rfl, ?_, fun i u v a b => ?_, g3, ?_⟩)
  · simp only [Array.size_extract]; omega
  · rw [Array.getElem?_extract] at a
    split at a
    · exact g2 i u v (by simpa using a) b
    · cases a
  · rcases g4 with ⟨g4, _⟩ | g4
    · cases g4
    · exact .inr g4

theorem oneCell_rel {p : Rn} {v v' : Value} (h : VR p v v') (k : v.oneCell' = true) : v'.oneCell' = true := by
  have i := h.inv
  cases v with
  | agg x => cases k
  | tuple x => cases k
  | pointer a => cases a with
    | none => obtain rfl := i; rfl
    | some a => obtain ⟨b, rfl, _⟩ := i; rfl
  | slice a l c => cases a with
    | none => obtain rfl := i; rfl
    | some a => obtain ⟨b, c', rfl, _⟩ := i; rfl
  | map r => cases r with
    | none => obtain rfl := i; rfl
    | some r => obtain ⟨b, c', rfl, _⟩ := i; rfl
  | chan r => cases r with
    | none => obtain rfl := i; rfl
    | some r => exact i.elim
  | func f x y => obtain ⟨x', y', rfl, _⟩ := i; rfl
  | iface t u => obtain ⟨x', rfl, _⟩ := i; rfl
  | bool b => obtain rfl := i; rfl
  | int k n => obtain rfl := i; rfl
  | float k n => obtain rfl := i; rfl
  | complex k n m => obtain rfl := i; rfl
  | string s => obtain rfl := i; rfl
  | nilFunc => obtain rfl := i; rfl
  | nilIface => obtain rfl := i; rfl

/-- One cell more behind those that are told of. -/
theorem WR.push {C : Cx} {p : Rn} {s : St} {w : World} (h : WR C p s w) {n b k : Nat} {c : Array Value} {e : TypeId} {z : Nat} {v v' : Value} (hp : p n = some (b, k)) (ho : s.h.get n = some (.cells c e (1, z))) (hG : C.G ≤ n) (hv : VR p v v') (h1 : v.oneCell' = true) (hk : c.size < k * z) :
    ∃ w', (Go.store ⟨b, c.size, none⟩ v').run C.P w = .ok () w' ∧ WR C p (s.write n (.cells (c.push v) e (1, z))) w' := by
  obtain ⟨b0, k0, o', h1', h2, h3⟩ := h.heap _ _ ho
  rw [hp] at h1'; cases h1'
  obtain ⟨c', fr', rfl, g1, g2, g3, g4⟩ := h3.oc (by simp)
  have g4 : c'.size = k * z := by
    rcases g4 with ⟨g4, _⟩ | g4
    · cases g4
    · exact g4.2
  have hlt : c.size < c'.size := by omega
  have hc : w.cell? ⟨b, c.size, none⟩ = some (c'[c.size]) := by
    simp [World.cell?, h2, hlt]
  have hfz : w.frozen? ⟨b, c.size, none⟩ = false := by
    simp only [World.frozen?, h2]
    have := g3 _ hlt
    simpa using this
  refine ⟨w.setCell ⟨b, c.size, none⟩ v', ?_, ?_⟩
  · rw [run_store C.P w _ v' _ (oneCell_rel hv h1), hc]
    simp [hfz]
  · refine h.write hp ho hG ((Below.refl _ w).setCell (h.own _ _ _ hG hp) v') (by simp [World.setCell]) (o' := .cells (c'.setIfInBounds c.size v') e fr') ?_ (fun i hi => Below.heap_setCell w _ v' i hi) ?_
    · simp [World.setCell, Array.getElem?_modify, h2]
    · refine .inl ⟨_, _, rfl, by simp only [Array.size_push, Array.size_setIfInBounds]; omega, ?_, by simpa using g3, .inr ⟨rfl, by simpa using g4⟩⟩
      intro i x y e1 e2
      rw [Array.getElem?_push] at e1
      rw [Array.getElem?_setIfInBounds] at e2
      split at e1
      · rename_i hi
        rw [if_pos hi.symm, if_pos hlt] at e2
        cases e1; cases e2
        exact hv
      · rename_i hi
        rw [if_neg (fun e => hi e.symm)] at e2
        exact g2 i x y e1 e2

theorem WR.pushes {C : Cx} {p : Rn} {n b k : Nat} {e : TypeId} {z : Nat} : ∀ (vs us : List Value) (s : St) (w : World) (c : Array Value) (j : Nat), WR C p s w → p n = some (b, k) → s.h.get n = some (.cells c e (1, z)) → C.G ≤ n → Arr (VR p) vs.toArray us.toArray → (vs.all Value.oneCell' = true) → c.size + vs.length ≤ k * z →
    ∀ o, o + j = c.size → ∃ w' s', (Go.storeCells ((⟨b, o, none⟩ : Addr)) us j).run C.P w = .ok () w' ∧ WR C p s' w' ∧ s'.ctr = s.ctr ∧ s'.top = s.top ∧ ∀ m, s'.h.get m = if m = n then some (.cells (c ++ vs.toArray) e (1, z)) else s.h.get m := by
  intro vs
  induction vs with
  | nil =>
    intro us s w c j h hp ho hG hr _ _ o _
    obtain rfl := List.eq_nil_of_length_eq_zero (l := us) (by simpa using hr.1.symm)
    refine ⟨w, s, rfl, h, rfl, rfl, fun m => ?_⟩
    split
    · rename_i hm; subst hm; simpa using ho
    · rfl
  | cons v vs ih =>
    intro us s w c j h hp ho hG hr h1 hk o hj
    cases us with
    | nil => simp [Arr] at hr
    | cons u us =>
      simp only [List.all_cons, Bool.and_eq_true] at h1
      simp only [List.length_cons] at hk
      obtain ⟨w1, e1, g1⟩ := h.push hp ho hG (hr.2 0 v u (by simp) (by simp)) h1.1 (by omega)
      have ho1 : (s.write n (.cells (c.push v) e (1, z))).h.get n = some (.cells (c.push v) e (1, z)) := by simp [St.write, Tr.get_put]
      obtain ⟨w2, s2, e2, g2, g3, g3t, g4⟩ := ih us _ w1 (c.push v) (j + 1) g1 hp ho1 hG ⟨by simpa using hr.1, fun i x y a b => hr.2 (i + 1) x y (by simpa using a) (by simpa using b)⟩ h1.2 (by simp only [Array.size_push]; omega) o (by simp only [Array.size_push]; omega)
      refine ⟨w2, s2, ?_, g2, g3, g3t, fun m => ?_⟩
      · unfold Go.storeCells
        have ea : (⟨b, o, none⟩ : Addr).add j = ⟨b, c.size, none⟩ := by
          unfold Addr.add
          split
          · rename_i hj0; subst hj0; simp at hj; rw [hj]
          · simp [hj]
        rw [ea, Sem.run_bind, e1]
        exact e2
      · rw [g4]
        split
        · simp
        · rename_i hm; simp [St.write, Tr.get_put, hm]


theorem load_same {P : Program} {a : Addr} {w w' : World} {v : Value} (h : (Go.load a).run P w = .ok v w') : w' = w := by
  rw [run_load] at h
  split at h
  · cases h; rfl
  · split at h
    · cases h; rfl
    · cases h
theorem loads_same {P : Program} {a : Addr} : ∀ (n i : Nat) (acc : Array Value) {w w' : World} {r : Array Value}, (Go.loadCellsFrom a i n acc).run P w = .ok r w' → w' = w := by
  intro n
  induction n with
  | zero => intro i acc w w' r h; cases h; rfl
  | succ n ih =>
    intro i acc w w' r h
    unfold Go.loadCellsFrom at h
    rw [Sem.run_bind] at h
    cases e : (Go.load (a.add i)).run P w with
    | ok v w1 =>
      rw [e] at h
      have := load_same e
      subst this
      exact ih _ _ h
    | halt x w1 => rw [e] at h; cases h
theorem first_same {P : Program} {size n : Nat} {v : Value} {w w' : World} {r : Array Value} (h : (Builtin.firstCells size n v).run P w = .ok r w') : w' = w := by
  unfold Builtin.firstCells at h
  split at h
  · exact loads_same _ _ _ h
  · cases h; rfl
  · cases h; rfl
  · cases h

/-- Append, told in its two ways. -/
theorem run_app {P : Program} {t t2 ty e : TypeId} {d2 : TypeDesc} {i : TypeInfo} {z : Value} (ht : P.underlying t = some (.slice e)) (ht2 : P.underlying t2 = some d2) (hd : (∃ e2, d2 = .slice e2) ∨ d2 = .string) (hi : P.info? e = some i) (hz : i.zero = some z)
    (base : Option Addr) (len cap m : Nat) (x : Value) (hm : Builtin.lenOf x = Pure.pure m) (w : World) :
    (len + m ≤ cap → (Builtin.append_ #[t, t2] ty #[.slice base len cap, x]).run P w = ((do
      let new ← Builtin.firstCells i.size m x
      match base with
      | some a => Go.storeCells (a.add (len * i.size)) new.toList
      | none => Pure.pure ()
      Pure.pure (.slice base (len + m) cap) : Sem Value)).run P w) ∧
    (cap < len + m → ((len + m : Nat) : Int) ≤ 9223372036854775807 → Builtin.nextslicecap (len + m) cap * i.bytes ≤ 281474976710656 → (Builtin.append_ #[t, t2] ty #[.slice base len cap, x]).run P w = ((do
      let old ← Builtin.firstCells i.size len (.slice base len cap)
      let new ← Builtin.firstCells i.size m x
      let a ← Go.newRow e (old ++ new ++ Builtin.zeroCells z.cells (grownCap w (len + m) cap e - (len + m)))
      Pure.pure (.slice (some a) (len + m) (grownCap w (len + m) cap e)) : Sem Value)).run P w.drew) := by
  constructor
  · intro h
    rcases hd with ⟨e2, rfl⟩ | rfl <;> cases base <;> simp [Builtin.append_, run_underlying ht, run_underlying ht2, sizeOf, typeInfo, hi, hm, h]
  · intro h h63 h48
    have hn : ¬ (len + m ≤ cap) := by omega
    have h63' : ¬ (9223372036854775807 < ((len : Int) + (m : Int))) := by omega
    have h48' : ¬ (281474976710656 < Builtin.nextslicecap (len + m) cap * i.bytes) := by omega
    rcases hd with ⟨e2, rfl⟩ | rfl <;> simp [Builtin.append_, run_underlying ht, run_underlying ht2, sizeOf, typeInfo, zeroValue, hi, hz, hm, hn, h63', h48', Question.forced, grownCap]


def lenO : Value → Option Nat
  | .slice _ n _ => some n
  | .string s => some s.size
  | _ => none
def fitOk (n bytes : Nat) : Bool := decide (n ≤ 1099511627776) && decide (n * bytes ≤ 140737488355328)

def appArg : TypeDesc → Bool
  | .slice _ | .string => true
  | _ => false
/-- A row in a block of its own. -/
def agrow (e : TypeId) (cs : Array Value) (z n : Nat) (s : St) : Option (Value × St) :=
  if s.ctr < s.top then some (.slice (some ⟨s.ctr, 0, none⟩) n unk, s.fresh (.cells cs e (1, z))) else none
def aapp3 (P : Program) (G : Nat) (e : TypeId) (i : TypeInfo) (base : Option Addr) (l c m : Nat) (old news : Array Value) (s2 : St) : Option (Value × St) :=
  if news.size == m * i.size && old.size == l * i.size && news.toList.all Value.oneCell' && fitOk (l + m) i.bytes then
    match base with
    | some a =>
      if c == unk then
        if a.off == 0 && a.spot.isNone && decide (G ≤ a.block) then match s2.h.get a.block with
          | some (.cells cs e' fr) => if e' == e && fr == (1, i.size) then (if m == 0 then some (.slice base l c, s2.read a.block) else agrow e (old ++ news) i.size (l + m) (s2.drop a.block)) else none
          | _ => none
        else none
      else if l + m ≤ c then match arun P G (Go.storeCells (a.add (l * i.size)) news.toList) s2 with
        | some (.ok _, s3) => some (.slice base (l + m) c, s3)
        | _ => none
      else agrow e (old ++ news) i.size (l + m) s2
    | none => if l == 0 && c == 0 then (if m == 0 then some (.slice base l c, s2) else agrow e (old ++ news) i.size (l + m) s2) else none
  else none

def aapp2 (P : Program) (G : Nat) (e : TypeId) (i : TypeInfo) (base : Option Addr) (l c m : Nat) (x : Value) (s : St) : Option (Value × St) :=
  match arun P G (Builtin.firstCells i.size l (.slice base l c)) s with
  | some (.ok old, s1) => match arun P G (Builtin.firstCells i.size m x) s1 with
    | some (.ok news, s2) => aapp3 P G e i base l c m old news s2
    | _ => none
  | _ => none

def aapp (P : Program) (G : Nat) (t t2 : TypeId) (v x : Value) (s : St) : Option (Value × St) :=
  match P.underlying t, P.underlying t2 with
  | some (.slice e), some d2 => match P.info? e with
    | some i => match i.zero with
      | some z => if z.cells.size == i.size && decide (0 < i.size) && appArg d2 then match v, lenO x with
        | .slice base l c, some m => aapp2 P G e i base l c m x s
        | _, _ => none
        else none
      | none => none
    | none => none
  | _, _ => none

theorem arun_loads {P : Program} {G n : Nat} {cs : Array Value} {e : TypeId} {fr : Nat × Nat} : ∀ (k j : Nat) (acc : Array Value) (s : St), s.h.get n = some (.cells cs e fr) → acc = cs.extract 0 j → ∀ r s', arun P G (Go.loadCellsFrom ⟨n, 0, none⟩ j k acc) s = some (.ok r, s') → r = cs.extract 0 (j + k) ∧ (∀ m, s'.h.get m = s.h.get m) ∧ s'.ctr = s.ctr := by
  intro k
  induction k with
  | zero => intro j acc s hs ha r s' h; cases h; exact ⟨by simpa using ha, fun _ => rfl, rfl⟩
  | succ k ih =>
    intro j acc s hs ha r s' h
    unfold Go.loadCellsFrom at h
    rw [arun_bind] at h
    have hadd : (⟨n, 0, none⟩ : Addr).add j = ⟨n, j, none⟩ := by
      unfold Addr.add
      split
      · rename_i h0; rw [h0]
      · simp
    rw [hadd] at h
    have el : arun P G (Go.load ⟨n, j, none⟩) s = (match cs[j]? with | some v => some (.ok v, s.read n) | none => none) := by
      simp only [Go.load, arun, hs]
      cases cs[j]? <;> rfl
    rw [el] at h
    cases ec : cs[j]? with
    | none => rw [ec] at h; cases h
    | some v =>
      rw [ec] at h
      obtain ⟨h1, h2, h3⟩ := ih (j + 1) (acc.push v) (s.read n) hs (by
        subst ha
        apply Array.ext_getElem?
        intro q
        rw [Array.getElem?_push, Array.getElem?_extract, Array.getElem?_extract]
        have hj : j < cs.size := (Array.getElem?_eq_some_iff.1 ec).1
        simp only [Array.size_extract]
        split
        · rename_i hq
          have : q = j := by omega
          subst this
          rw [if_pos (by omega)]
          simpa using ec.symm
        · rename_i hq
          split
          · rw [if_pos (by omega)]
          · rw [if_neg (by omega)]) r s' h
      exact ⟨by rw [h1]; congr 1; omega, h2, h3⟩

theorem arun_loads_keep {P : Program} {G : Nat} {a : Addr} : ∀ (k j : Nat) (acc : Array Value) (s : St) (r : Array Value) (s' : St), arun P G (Go.loadCellsFrom a j k acc) s = some (.ok r, s') → (∀ m, s'.h.get m = s.h.get m) ∧ s'.ctr = s.ctr := by
  intro k
  induction k with
  | zero => intro j acc s r s' h; cases h; exact ⟨fun _ => rfl, rfl⟩
  | succ k ih =>
    intro j acc s r s' h
    unfold Go.loadCellsFrom at h
    rw [arun_bind] at h
    have el : arun P G (Go.load (a.add j)) s = none ∨ ∃ v, arun P G (Go.load (a.add j)) s = some (.ok v, s.read (a.add j).block) := by
      simp only [Go.load, arun]
      split
      · split
        · exact .inl rfl
        · split
          · exact .inr ⟨_, rfl⟩
          · exact .inl rfl
      · exact .inl rfl
    rcases el with el | ⟨v, el⟩
    · rw [el] at h; cases h
    · rw [el] at h
      exact ih _ _ (s.read (a.add j).block) r s' h
theorem arun_first_keep {P : Program} {G size n : Nat} {v : Value} {s s' : St} {r : Array Value} (h : arun P G (Builtin.firstCells size n v) s = some (.ok r, s')) : (∀ m, s'.h.get m = s.h.get m) ∧ s'.ctr = s.ctr := by
  unfold Builtin.firstCells at h
  split at h
  · exact arun_loads_keep _ _ _ _ _ _ h
  · cases h; exact ⟨fun _ => rfl, rfl⟩
  · cases h; exact ⟨fun _ => rfl, rfl⟩
  · cases h

theorem lenO_rel {p : Rn} {x x' : Value} {m : Nat} (h : VR p x x') (k : lenO x = some m) : Builtin.lenOf x' = Pure.pure m := by
  have i := h.inv
  cases x <;> first | (cases k; done) | skip
  · obtain rfl := i; cases k; rfl
  · rename_i a l c
    cases k
    cases a with
    | none => obtain rfl := i; rfl
    | some a => obtain ⟨b, c', rfl, _⟩ := i; rfl

section
variable {C : Cx} {p : Rn}

/-- What an operation of our own does, by names, and in memory. -/
def SimV (C : Cx) (p : Rn) (m : St → Option (Value × St)) (e' : Sem Value) : Prop :=
  ∀ s w, WR C p s w → ∀ v s', m s = some (v, s') → ∃ q w' v', Le p q ∧ WR C q s' w' ∧ VR q v v' ∧ e'.run C.P w = .ok v' w'

theorem WR.grown {q : Rn} {s : St} {w : World} (h : WR C q s w) (ht : s.ctr < s.top) {e : TypeId} {z : Value} {size m l K : Nat} {old old' new new' : Array Value} (hz : z.cells.size = size) (ho : Arr (VR q) old old') (hn : Arr (VR q) new new') (h1 : old.size = l * size) (h2 : new.size = m * size) (hK : l + m ≤ K) :
    ∃ q' w' v', Le q q' ∧ WR C q' (s.fresh (.cells (old ++ new) e (1, size))) w' ∧ VR q' (.slice (some ⟨s.ctr, 0, none⟩) (l + m) unk) v' ∧
      (do let a ← Go.newRow e (old' ++ new' ++ Builtin.zeroCells z.cells (K - (l + m))); Pure.pure (.slice (some a) (l + m) K) : Sem Value).run C.P w = .ok v' w' := by
  have hle := h.extend ht w.heap.size K
  have hsz : (Builtin.zeroCells z.cells (K - (l + m))).size = (K - (l + m)) * size := by rw [size_zeroCells, hz]
  refine ⟨Ex.ext q s.ctr w.heap.size K, w.alloc (.cells (old' ++ new' ++ Builtin.zeroCells z.cells (K - (l + m))) e), .slice (some ⟨w.heap.size, 0, none⟩) (l + m) K, hle, h.fresh ht ?_, ?_, rfl⟩
  · have ha := (ho.le hle).append (hn.le hle)
    refine .inl ⟨_, _, rfl, ?_, fun i u v a b => ?_, by simp, .inr ⟨rfl, ?_⟩⟩
    · have := ha.1
      simp only [Array.size_append] at *
      omega
    · have hi : i < (old' ++ new').size := by rw [← ha.1]; exact (Array.getElem?_eq_some_iff.1 a).1
      rw [Array.getElem?_append, if_pos hi] at b
      exact ha.2 i u v a b
    · simp only [Array.size_append, hsz, ← ho.1, ← hn.1, h1, h2, ← Nat.add_mul]
      congr 1
      omega
  · exact (VR.cl _).slU _ _ _ _ K (ext_self _ _ _ _) rfl rfl hK (Nat.le_refl _)

theorem SimV.app {t t2 ty : TypeId} {v v' x x' : Value} (hv : VR p v v') (hx : VR p x x') : SimV C p (aapp C.P C.G t t2 v x) (Builtin.append_ #[t, t2] ty #[v', x']) := by
  intro s w hw r s' hr
  unfold aapp at hr
  cases ht : C.P.underlying t with
  | none => rw [ht] at hr; cases hr
  | some d =>
  cases ht2 : C.P.underlying t2 with
  | none => rw [ht, ht2] at hr; cases d <;> cases hr
  | some d2 =>
  rw [ht, ht2] at hr
  cases d <;> first | (cases hr; done) | skip
  rename_i e
  dsimp only at hr
  cases hi : C.P.info? e with
  | none => rw [hi] at hr; cases hr
  | some i =>
  rw [hi] at hr
  cases hz : i.zero with
  | none => simp only [hz] at hr; cases hr
  | some z =>
  simp only [hz] at hr
  split at hr <;> (try (cases hr; done))
  rename_i hok
  simp only [Bool.and_eq_true, beq_iff_eq, decide_eq_true_eq] at hok
  obtain ⟨⟨hzs, hpos⟩, hd2⟩ := hok
  have hd : (∃ e2, d2 = .slice e2) ∨ d2 = .string := by
    cases d2 <;> first | exact .inl ⟨_, rfl⟩ | exact .inr rfl | cases hd2
  split at hr <;> (try (cases hr; done))
  rename_i base l c m hl
  have hm := lenO_rel hx hl
  unfold aapp2 at hr
  split at hr <;> (try (cases hr; done))
  rename_i old s1 e1
  split at hr <;> (try (cases hr; done))
  rename_i news s2 e2
  unfold aapp3 at hr
  split at hr <;> (try (cases hr; done))
  rename_i hok
  simp only [Bool.and_eq_true, beq_iff_eq] at hok
  obtain ⟨⟨⟨hns, hos⟩, h1c⟩, hfit⟩ := hok
  simp only [fitOk, Bool.and_eq_true, decide_eq_true_eq] at hfit
  obtain ⟨hf1, hf2⟩ := hfit
  -- reading, at a world that is as w was but for what was drawn
  have reads : ∀ w0, WR C p s w0 → ∃ q2 old' new', Le p q2 ∧ WR C q2 s2 w0 ∧ Arr (VR q2) old old' ∧ Arr (VR q2) news new' ∧ (Builtin.firstCells i.size l v').run C.P w0 = .ok old' w0 ∧ (Builtin.firstCells i.size m x').run C.P w0 = .ok new' w0 := by
    intro w0 hw0
    obtain ⟨q1, w1, l1, hw1, old', g1, g2⟩ := Sim.firstCells hv i.size l p (Le.refl _) s w0 hw0 _ _ e1
    have := first_same g1
    subst this
    obtain ⟨q2, w2, l2, hw2, new', g3, g4⟩ := Sim.firstCells (hx.le l1) i.size m q1 (Le.refl _) s1 w1 hw1 _ _ e2
    have := first_same g3
    subst this
    exact ⟨q2, old', new', l1.trans l2, hw2, g2.le l2, g4, g1, g3⟩
  have grow : ∀ (base' : Option Addr) (c' : Nat), v' = .slice base' l c' → c' < l + m → s2.ctr < s2.top → (∀ q w0, Le p q → WR C q s2 w0 → ∃ s3 : St, s3.ctr = s2.ctr ∧ s3.top = s2.top ∧ WR C q s3 w0 ∧ s' = s3.fresh (.cells (old ++ news) e (1, i.size))) → r = .slice (some ⟨s2.ctr, 0, none⟩) (l + m) unk →
      ∃ q w' v'', Le p q ∧ WR C q s' w' ∧ VR q r v'' ∧ (Builtin.append_ #[t, t2] ty #[v', x']).run C.P w = .ok v'' w' := by
    intro base' c' hv' hc' htop hs' hr'
    subst hv'
    have hrun := (run_app (ty := ty) ht ht2 hd hi hz base' l c' m x' hm w).2 hc' (by omega) (growslice_fits hc' hf2)
    obtain ⟨q2, old', new', l2, hw2, ho, hn, g1, g2⟩ := reads w.drew hw.drew
    obtain ⟨s3, hs3, hs3t, hw3, rfl⟩ := hs' q2 w.drew l2 hw2
    obtain ⟨q3, w3, v3, l3, hw4, hv3, g3⟩ := hw3.grown (by rw [hs3, hs3t]; exact htop) hzs ho hn hos hns (grownCap_ge w (l + m) c' e) (e := e)
    refine ⟨q3, w3, v3, l2.trans l3, hw4, by rw [hr', ← hs3]; exact hv3, ?_⟩
    rw [hrun, Sem.run_bind, g1]
    simp only [Result.andThen_ok]
    rw [Sem.run_bind, g2]
    exact g3
  have iv := hv.inv
  cases base with
  | none =>
    obtain rfl := iv
    dsimp only at hr
    split at hr <;> (try (cases hr; done))
    rename_i hlc
    simp only [Bool.and_eq_true, beq_iff_eq] at hlc
    obtain ⟨rfl, rfl⟩ := hlc
    split at hr
    · rename_i hm0
      have hm0 : m = 0 := by simpa using hm0
      subst hm0
      cases hr
      obtain ⟨q2, old', new', l2, hw2, ho, hn, g1, g2⟩ := reads w hw
      refine ⟨q2, w, .slice none 0 0, l2, hw2, VR.of_leaf rfl, ?_⟩
      rw [(run_app (ty := ty) ht ht2 hd hi hz none 0 0 0 x' hm w).1 (by omega), Sem.run_bind, g2]
      rfl
    · rename_i hm0
      have hm0 : ¬ m = 0 := by simpa using hm0
      unfold agrow at hr
      split at hr <;> (try (cases hr; done))
      rename_i htop
      cases hr
      exact grow none 0 rfl (by omega) htop (fun q w0 _ h => ⟨s2, rfl, rfl, h, rfl⟩) rfl
  | some a =>
    obtain ⟨b, c', rfl, hab, hc⟩ := iv
    dsimp only at hr
    split at hr
    · -- the room isn't known
      rename_i hcu
      have hcu : c = unk := by simpa using hcu
      subst hcu
      have hc : l ≤ c' ∧ ∃ k, p a.block = some (b.block, k) ∧ c' ≤ k := by
        rcases hc with ⟨_, h⟩ | ⟨_, hc⟩
        · exact absurd h (Nat.lt_irrefl _)
        · exact hc
      obtain ⟨hlc, K, hpK, hcK⟩ := hc
      split at hr <;> (try (cases hr; done))
      rename_i hoff
      simp only [Bool.and_eq_true, beq_iff_eq, decide_eq_true_eq] at hoff
      obtain ⟨⟨ha0, hasp⟩, hG⟩ := hoff
      split at hr <;> (try (cases hr; done))
      rename_i cs e' fr hcs
      split at hr <;> (try (cases hr; done))
      rename_i hef
      simp only [Bool.and_eq_true, beq_iff_eq] at hef
      obtain ⟨rfl, rfl⟩ := hef
      have ha : a = ⟨a.block, 0, none⟩ := by
        cases a; simp only at ha0 hasp; subst ha0; simp_all
      have hb : b = ⟨b.block, 0, none⟩ := by
        obtain ⟨_, h2, h3⟩ := hab
        rw [ha] at h2 h3
        cases b; simp only at h2 h3; subst h2 h3; rfl
      split at hr
      · rename_i hm0
        have hm0 : m = 0 := by simpa using hm0
        subst hm0
        cases hr
        obtain ⟨q2, old', new', l2, hw2, ho, hn, g1, g2⟩ := reads w hw
        refine ⟨q2, w, .slice (some b) l c', l2, hw2.read _, hv.le l2, ?_⟩
        have hne : new'.toList = [] := List.eq_nil_of_length_eq_zero (by have := hn.1; simp only [Array.length_toList]; omega)
        rw [(run_app (ty := ty) ht ht2 hd hi hz (some b) l c' 0 x' hm w).1 hlc, Sem.run_bind, g2]
        simp only [Result.andThen_ok, hne]
        rfl
      · rename_i hm0
        have hm0 : ¬ m = 0 := by simpa using hm0
        unfold agrow at hr
        split at hr <;> (try (cases hr; done))
        rename_i htop
        have htop : s2.ctr < s2.top := htop
        cases hr
        by_cases hroom : l + m ≤ c'
        · obtain ⟨q2, old', new', l2, hw2, ho, hn, g1, g2⟩ := reads w hw
          have k1 := arun_first_keep e1
          have k2 := arun_first_keep e2
          have hold : old = cs.extract 0 (l * i.size) := by
            have e1' : arun C.P C.G (Go.loadCellsFrom ⟨a.block, 0, none⟩ 0 (l * i.size) #[]) s = some (.ok old, s1) := by rw [← ha]; exact e1
            have := (arun_loads (n := a.block) (cs := cs) (e := e') (fr := (1, i.size)) (l * i.size) 0 #[] s (by rw [← k1.1, ← k2.1]; exact hcs) (by simp) _ _ e1').1
            simpa using this
          have hw3 := hw2.less hcs hG (m := l * i.size)
          rw [← hold] at hw3
          have hcs3 : (s2.write a.block (.cells old e' (1, i.size))).h.get a.block = some (.cells old e' (1, i.size)) := by simp [St.write, Tr.get_put]
          have hKs : (l + m) * i.size ≤ K * i.size := Nat.mul_le_mul_right _ (by omega)
          obtain ⟨w4, s4, g4, hw4, hc4, hc4t, hh4⟩ := hw3.pushes (b := b.block) (k := K) (z := i.size) news.toList new'.toList _ w old 0 (l2 _ _ hpK) hcs3 hG (by simpa using hn) h1c (by rw [hos, Array.length_toList, hns, ← Nat.add_mul]; exact hKs) (l * i.size) (by rw [hos]; rfl)
          have hc4 : s4.ctr = s2.ctr := hc4
          have hc4t : s4.top = s2.top := hc4t
          have ht4 : s4.ctr < s4.top := by rw [hc4, hc4t]; exact htop
          have hw5 := hw4.rename ht4 (l2 _ _ hpK) (by rw [hh4, if_pos rfl]) hG
          rw [hc4] at hw5
          refine ⟨Ex.ext q2 s2.ctr b.block K, w4, .slice (some b) (l + m) c', l2.trans (by have := hw4.extend ht4 b.block K; rwa [hc4] at this), hw5.congr (fun n => ?_) ?_ hc4t.symm, ?_, ?_⟩
          · simp only [St.drop, St.fresh, Tr.get_put, hc4]
            split
            · simp
            · split
              · rfl
              · rename_i h1 h2
                rw [hh4, if_neg h2]
                simp [St.write, Tr.get_put, h2]
          · simp only [St.drop, St.fresh, hc4]
          · rw [hb]
            exact (VR.cl _).slU _ _ _ _ K (ext_self _ _ _ _) rfl rfl hroom hcK
          · have hadd : b.add (l * i.size) = ⟨b.block, l * i.size, none⟩ := by
              unfold Addr.add
              split
              · rename_i h0; rw [h0, hb]
              · rw [hb]; simp
            rw [(run_app (ty := ty) ht ht2 hd hi hz (some b) l c' m x' hm w).1 hroom, Sem.run_bind, g2]
            simp only [Result.andThen_ok, hadd]
            rw [Sem.run_bind, g4]
            rfl
        · exact grow (some b) c' rfl (by omega) htop (fun q w0 _ h => ⟨s2.drop a.block, rfl, rfl, h.drop _, rfl⟩) rfl
    · rename_i hcu
      have hcu : c ≠ unk := by simpa using hcu
      have hc : c' = c ∧ c < unk := by
        rcases hc with h | ⟨h, _⟩
        · exact h
        · exact (hcu h).elim
      obtain ⟨rfl, hcu2⟩ := hc
      split at hr
      · rename_i hle
        split at hr <;> (try (cases hr; done))
        rename_i u s3 e3
        cases hr
        obtain ⟨q2, old', new', l2, hw2, ho, hn, g1, g2⟩ := reads w hw
        obtain ⟨q3, w3, l3, hw3, _, g3, _⟩ := Sim.storeCells news.toList new'.toList ((hab.le l2).add (l * i.size)) (by simpa using hn) 0 q2 (Le.refl _) s2 w hw2 _ _ e3
        refine ⟨q3, w3, .slice (some b) (l + m) c', l2.trans l3, hw3, VR.sl (hab.le (l2.trans l3)) _ _ hcu2, ?_⟩
        rw [(run_app (ty := ty) ht ht2 hd hi hz (some b) l c' m x' hm w).1 hle, Sem.run_bind, g2]
        simp only [Result.andThen_ok]
        rw [Sem.run_bind, g3]
        rfl
      · rename_i hle
        unfold agrow at hr
        split at hr <;> (try (cases hr; done))
        rename_i htop
        cases hr
        exact grow (some b) c' rfl (by omega) htop (fun q w0 _ h => ⟨s2, rfl, rfl, h, rfl⟩) rfl
end
end Go.Ex
