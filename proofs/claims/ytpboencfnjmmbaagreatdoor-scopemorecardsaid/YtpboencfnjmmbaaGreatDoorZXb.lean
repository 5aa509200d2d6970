/-
 Rows that grow, by names of blocks: append, rows of a text's bytes, parts of rows whose room isn't known.
 Conditions: as each theorem says. (No program is named here.)
-/
import Derived.Test.YtpboencfnjmmbaaGreatDoorZXa
set_option linter.unusedVariables false
namespace Go.Ex
open Go.RowKit
theorem WR.congr {C : Cx} {p : Rn} {s t : St} {w : World} (h : WR C p s w) (e : ∀ n, t.h.get n = s.h.get n) (k : t.ctr = s.ctr) (k2 : t.top = s.top) : WR C p t w :=
 ⟨h.below, h.base, fun n b j x => k ▸ h.dom n b j x, fun n o x => h.heap n o (e n ▸ x), fun n m o o' b k1 k2 x y => h.inj n m o o' b k1 k2 (e n ▸ x) (e m ▸ y), h.own, k ▸ h.ctr, fun n hn => k2 ▸ h.far n hn, k ▸ h.lo, by rw [k, k2]; exact h.room⟩
def St.drop (s : St) (n : Nat) : St := { s with h := s.h.put n none, rd := n :: s.rd, wr := n :: s.wr }
theorem WR.drop {C : Cx} {p : Rn} {s : St} {w : World} (h : WR C p s w) (n : Nat) : WR C p (s.drop n) w := by
 have look : ∀ m o, (s.drop n).h.get m = some o → s.h.get m = some o := by
  intro m o e
  simp only [St.drop, Tr.get_put] at e
  split at e
  ·cases e
  ·exact e
 exact ⟨h.below, h.base, h.dom, fun m o x => h.heap m o (look m o x), fun m m' o o' b k1 k2 x y => h.inj m m' o o' b k1 k2 (look m o x) (look m' o' y), h.own, h.ctr, h.far, h.lo, h.room⟩
theorem WR.rename {C : Cx} {p : Rn} {s : St} {w : World} (h : WR C p s w) (ht : s.ctr < s.top) {n b k : Nat} {o : Obj} (hp : p n = some (b, k)) (ho : s.h.get n = some o) (hG : C.G ≤ n) : WR C (ext p s.ctr b k) ((s.drop n).fresh o) w := by
 have hle := h.extend ht b k
 have hb := (h.dom _ _ _ hp).2
 have hn : n ≠ s.ctr := fun e => by rw [e, h.nowhere ht] at hp; cases hp
 have old : ∀ m b' j, ext p s.ctr b k m = some (b', j) → m ≠ s.ctr → p m = some (b', j) := by
  intro m b' j e hn; simpa [ext, hn] using e
 have look : ∀ m o', ((s.drop n).fresh o).h.get m = some o' → (m = s.ctr ∧ o' = o) ∨ (m ≠ s.ctr ∧ m ≠ n ∧ s.h.get m = some o') := by
  intro m o' e
  simp only [St.drop, St.fresh, Tr.get_put] at e
  split at e
  ·cases e; exact .inl ⟨by assumption, rfl⟩
  ·split at e
   ·cases e
   ·exact .inr ⟨by assumption, by assumption, e⟩
 refine ⟨h.below, h.base, ?_, ?_, ?_, ?_, by have := h.ctr; simp only [St.drop, St.fresh]; omega, h.far, by have := h.lo; simp only [St.drop, St.fresh]; omega, by simp only [St.drop, St.fresh]; omega⟩
 ·intro m b' j e
  by_cases hm : m = s.ctr
  ·subst hm; rw [ext_self] at e; cases e; simp only [St.drop, St.fresh]; exact ⟨.inr (by have := h.lo; omega), by omega⟩
  ·have := h.dom m b' j (old m b' j e hm); simp only [St.drop, St.fresh]; exact ⟨this.1.imp id (fun h => by omega), by omega⟩
 ·intro m o' e
  rcases look m o' e with ⟨rfl, rfl⟩ | ⟨hm, _, e⟩
  ·obtain ⟨b', k', u', h1, h2, h3⟩ := h.heap n _ ho
   rw [hp] at h1; cases h1
   exact ⟨b, k, u', ext_self _ _ _ _, h2, h3.le hle⟩
  ·obtain ⟨b', k', u', h1, h2, h3⟩ := h.heap m _ e
   exact ⟨b', k', u', hle _ _ h1, h2, h3.le hle⟩
 ·intro m m' o1 o2 b' k1 k2 e e' f f'
  rcases look m o1 e with ⟨rfl, rfl⟩ | ⟨hm, hmn, x1⟩ <;> rcases look m' o2 e' with ⟨rfl, rfl⟩ | ⟨hm', hmn', x2⟩
  ·rfl
  ·rw [ext_self] at f; cases f
   exact (hmn' (h.inj m' n o2 _ b k2 k x2 ho (old _ _ _ f' hm') hp)).elim
  ·rw [ext_self] at f'; cases f'
   exact (hmn (h.inj m n o1 _ b k1 k x1 ho (old _ _ _ f hm) hp)).elim
  ·exact h.inj m m' o1 o2 b' k1 k2 x1 x2 (old _ _ _ f hm) (old _ _ _ f' hm')
 ·intro m b' j hG' e
  by_cases hm : m = s.ctr
  ·subst hm; rw [ext_self] at e; cases e; exact h.own n _ _ hG hp
  ·exact h.own m b' j hG' (old _ _ _ e hm)
theorem WR.less {C : Cx} {p : Rn} {s : St} {w : World} (h : WR C p s w) {n : Nat} {c : Array Value} {e : TypeId} {z m : Nat} (ho : s.h.get n = some (.cells c e (1, z))) (hG : C.G ≤ n) : WR C p (s.write n (.cells (c.extract 0 m) e (1, z))) w := by
 obtain ⟨b, k, o', h1, h2, h3⟩ := h.heap _ _ ho
 obtain ⟨c', fr', rfl, g1, g2, g3, g4⟩ := h3.oc (by simp)
 refine h.write h1 ho hG (Below.refl _ w) rfl h2 (fun _ _ => rfl) (.inl ⟨c', fr', rfl, ?_, fun i u v a b => ?_, g3, ?_⟩)
 ·simp only [Array.size_extract]; omega
 ·rw [Array.getElem?_extract] at a
  split at a
  ·exact g2 i u v (by simpa using a) b
  ·cases a
 ·rcases g4 with ⟨g4, _⟩ | g4
  ·cases g4
  ·exact .inr g4
theorem oneCell_rel {p : Rn} {v v' : Value} (h : VR p v v') (k : v.oneCell' = true) : v'.oneCell' = true := by
 have i := h.inv
 cases v with
 | agg x => cases k
 | tuple x => cases k
 | pointer a => cases a with
  | none => obtain rfl := i; rfl
  | some a => obtain ⟨b, rfl, _⟩ := i; rfl
 | slice a l c => cases a with
  | none => obtain rfl := i; rfl
  | some a => obtain ⟨b, c', rfl, _⟩ := i; rfl
 | map r => cases r with
  | none => obtain rfl := i; rfl
  | some r => obtain ⟨b, c', rfl, _⟩ := i; rfl
 | chan r => cases r with
  | none => obtain rfl := i; rfl
  | some r => exact i.elim
 | func f x y => obtain ⟨x', y', rfl, _⟩ := i; rfl
 | iface t u => obtain ⟨x', rfl, _⟩ := i; rfl
 | bool b => obtain rfl := i; rfl
 | int k n => obtain rfl := i; rfl
 | float k n => obtain rfl := i; rfl
 | complex k n m => obtain rfl := i; rfl
 | string s => obtain rfl := i; rfl
 | nilFunc => obtain rfl := i; rfl
 | nilIface => obtain rfl := i; rfl
theorem WR.push {C : Cx} {p : Rn} {s : St} {w : World} (h : WR C p s w) {n b k : Nat} {c : Array Value} {e : TypeId} {z : Nat} {v v' : Value} (hp : p n = some (b, k)) (ho : s.h.get n = some (.cells c e (1, z))) (hG : C.G ≤ n) (hv : VR p v v') (h1 : v.oneCell' = true) (hk : c.size < k * z) :
 ∃ w', (Go.store ⟨b, c.size, none⟩ v').run C.P w = .ok () w' ∧ WR C p (s.write n (.cells (c.push v) e (1, z))) w' := by
 obtain ⟨b0, k0, o', h1', h2, h3⟩ := h.heap _ _ ho
 rw [hp] at h1'; cases h1'
 obtain ⟨c', fr', rfl, g1, g2, g3, g4⟩ := h3.oc (by simp)
 have g4 : c'.size = k * z := by
  rcases g4 with ⟨g4, _⟩ | g4
  ·cases g4
  ·exact g4.2
 have hlt : c.size < c'.size := by omega
 have hc : w.cell? ⟨b, c.size, none⟩ = some (c'[c.size]) := by
  simp [World.cell?, h2, hlt]
 have hfz : w.frozen? ⟨b, c.size, none⟩ = false := by
  simp only [World.frozen?, h2]
  have := g3 _ hlt
  simpa using this
 refine ⟨w.setCell ⟨b, c.size, none⟩ v', ?_, ?_⟩
 ·rw [run_store C.P w _ v' _ (oneCell_rel hv h1), hc]
  simp [hfz]
 ·refine h.write hp ho hG ((Below.refl _ w).setCell (h.own _ _ _ hG hp) v') (by simp [World.setCell]) (o' := .cells (c'.setIfInBounds c.size v') e fr') ?_ (fun i hi => Below.heap_setCell w _ v' i hi) ?_
  ·simp [World.setCell, Array.getElem?_modify, h2]
  ·refine .inl ⟨_, _, rfl, by simp only [Array.size_push, Array.size_setIfInBounds]; omega, ?_, by simpa using g3, .inr ⟨rfl, by simpa using g4⟩⟩
   intro i x y e1 e2
   rw [Array.getElem?_push] at e1
   rw [Array.getElem?_setIfInBounds] at e2
   split at e1
   ·rename_i hi
    rw [if_pos hi.symm, if_pos hlt] at e2
    cases e1; cases e2
    exact hv
   ·rename_i hi
    rw [if_neg (fun e => hi e.symm)] at e2
    exact g2 i x y e1 e2
theorem WR.pushes {C : Cx} {p : Rn} {n b k : Nat} {e : TypeId} {z : Nat} : ∀ (vs us : List Value) (s : St) (w : World) (c : Array Value) (j : Nat), WR C p s w → p n = some (b, k) → s.h.get n = some (.cells c e (1, z)) → C.G ≤ n → Arr (VR p) vs.toArray us.toArray → (vs.all Value.oneCell' = true) → c.size + vs.length ≤ k * z →
 ∀ o, o + j = c.size → ∃ w' s', (Go.storeCells ((⟨b, o, none⟩ : Addr)) us j).run C.P w = .ok () w' ∧ WR C p s' w' ∧ s'.ctr = s.ctr ∧ s'.top = s.top ∧ ∀ m, s'.h.get m = if m = n then some (.cells (c ++ vs.toArray) e (1, z)) else s.h.get m := by
 intro vs
 induction vs with
 | nil =>
  intro us s w c j h hp ho hG hr _ _ o _
  obtain rfl := List.eq_nil_of_length_eq_zero (l := us) (by simpa using hr.1.symm)
  refine ⟨w, s, rfl, h, rfl, rfl, fun m => ?_⟩
  split
  ·rename_i hm; subst hm; simpa using ho
  ·rfl
 | cons v vs ih =>
  intro us s w c j h hp ho hG hr h1 hk o hj
  cases us with
  | nil => simp [Arr] at hr
  | cons u us =>
   simp only [List.all_cons, Bool.and_eq_true] at h1
   simp only [List.length_cons] at hk
   obtain ⟨w1, e1, g1⟩ := h.push hp ho hG (hr.2 0 v u (by simp) (by simp)) h1.1 (by omega)
   have ho1 : (s.write n (.cells (c.push v) e (1, z))).h.get n = some (.cells (c.push v) e (1, z)) := by simp [St.write, Tr.get_put]
   obtain ⟨w2, s2, e2, g2, g3, g3t, g4⟩ := ih us _ w1 (c.push v) (j + 1) g1 hp ho1 hG ⟨by simpa using hr.1, fun i x y a b => hr.2 (i + 1) x y (by simpa using a) (by simpa using b)⟩ h1.2 (by simp only [Array.size_push]; omega) o (by simp only [Array.size_push]; omega)
   refine ⟨w2, s2, ?_, g2, g3, g3t, fun m => ?_⟩
   ·unfold Go.storeCells
    have ea : (⟨b, o, none⟩ : Addr).add j = ⟨b, c.size, none⟩ := by
     unfold Addr.add
     split
     ·rename_i hj0; subst hj0; simp at hj; rw [hj]
     ·simp [hj]
    rw [ea, Sem.run_bind, e1]
    exact e2
   ·rw [g4]
    split
    ·simp
    ·rename_i hm; simp [St.write, Tr.get_put, hm]
theorem load_same {P : Program} {a : Addr} {w w' : World} {v : Value} (h : (Go.load a).run P w = .ok v w') : w' = w := by
 rw [run_load] at h
 split at h
 ·cases h; rfl
 ·split at h
  ·cases h; rfl
  ·cases h
theorem loads_same {P : Program} {a : Addr} : ∀ (n i : Nat) (acc : Array Value) {w w' : World} {r : Array Value}, (Go.loadCellsFrom a i n acc).run P w = .ok r w' → w' = w := by
 intro n
 induction n with
 | zero => intro i acc w w' r h; cases h; rfl
 | succ n ih =>
  intro i acc w w' r h
  unfold Go.loadCellsFrom at h
  rw [Sem.run_bind] at h
  cases e : (Go.load (a.add i)).run P w with
  | ok v w1 =>
   rw [e] at h
   have := load_same e
   subst this
   exact ih _ _ h
  | halt x w1 => rw [e] at h; cases h
theorem first_same {P : Program} {size n : Nat} {v : Value} {w w' : World} {r : Array Value} (h : (Builtin.firstCells size n v).run P w = .ok r w') : w' = w := by
 unfold Builtin.firstCells at h
 split at h
 ·exact loads_same _ _ _ h
 ·cases h; rfl
 ·cases h; rfl
 ·cases h
theorem run_app {P : Program} {t t2 ty e : TypeId} {d2 : TypeDesc} {i : TypeInfo} {z : Value} (ht : P.underlying t = some (.slice e)) (ht2 : P.underlying t2 = some d2) (hd : (∃ e2, d2 = .slice e2) ∨ d2 = .string) (hi : P.info? e = some i) (hz : i.zero = some z)
 (base : Option Addr) (len cap m : Nat) (x : Value) (hm : Builtin.lenOf x = Pure.pure m) (w : World) :
 (len + m ≤ cap → (Builtin.append_ #[t, t2] ty #[.slice base len cap, x]).run P w = ((do
  let new ← Builtin.firstCells i.size m x
  match base with
  | some a => Go.storeCells (a.add (len * i.size)) new.toList
  | none => Pure.pure ()
  Pure.pure (.slice base (len + m) cap) : Sem Value)).run P w) ∧
 (cap < len + m → ((len + m : Nat) : Int) ≤ 9223372036854775807 → Builtin.nextslicecap (len + m) cap * i.bytes ≤ 281474976710656 → (Builtin.append_ #[t, t2] ty #[.slice base len cap, x]).run P w = ((do
  let old ← Builtin.firstCells i.size len (.slice base len cap)
  let new ← Builtin.firstCells i.size m x
  let a ← Go.newRow e (old ++ new ++ Builtin.zeroCells z.cells (grownCap w (len + m) cap e - (len + m)))
  Pure.pure (.slice (some a) (len + m) (grownCap w (len + m) cap e)) : Sem Value)).run P w.drew) := by
 constructor
 ·intro h
  rcases hd with ⟨e2, rfl⟩ | rfl <;> cases base <;> simp [Builtin.append_, run_underlying ht, run_underlying ht2, sizeOf, typeInfo, hi, hm, h]
 ·intro h h63 h48
  have hn : ¬ (len + m ≤ cap) := by omega
  have h63' : ¬ (9223372036854775807 < ((len : Int) + (m : Int))) := by omega
  have h48' : ¬ (281474976710656 < Builtin.nextslicecap (len + m) cap * i.bytes) := by omega
  rcases hd with ⟨e2, rfl⟩ | rfl <;> simp [Builtin.append_, run_underlying ht, run_underlying ht2, sizeOf, typeInfo, zeroValue, hi, hz, hm, hn, h63', h48', Question.forced, grownCap]
def lenO : Value → Option Nat
 | .slice _ n _ => some n
 | .string s => some s.size
 | _ => none
def fitOk (n bytes : Nat) : Bool := decide (n ≤ 1099511627776) && decide (n * bytes ≤ 140737488355328)
def appArg : TypeDesc → Bool
 | .slice _ | .string => true
 | _ => false
def agrow (e : TypeId) (cs : Array Value) (z n : Nat) (s : St) : Option (Value × St) :=
 if s.ctr < s.top then some (.slice (some ⟨s.ctr, 0, none⟩) n unk, s.fresh (.cells cs e (1, z))) else none
def aapp3 (P : Program) (G : Nat) (e : TypeId) (i : TypeInfo) (base : Option Addr) (l c m : Nat) (old news : Array Value) (s2 : St) : Option (Value × St) :=
 if news.size == m * i.size && old.size == l * i.size && news.toList.all Value.oneCell' && fitOk (l + m) i.bytes then
  match base with
  | some a =>
   if c == unk then
    if a.off == 0 && a.spot.isNone && decide (G ≤ a.block) then match s2.h.get a.block with
     | some (.cells cs e' fr) => if e' == e && fr == (1, i.size) then (if m == 0 then some (.slice base l c, s2.read a.block) else agrow e (old ++ news) i.size (l + m) (s2.drop a.block)) else none
     | _ => none
    else none
   else if l + m ≤ c then match arun P G (Go.storeCells (a.add (l * i.size)) news.toList) s2 with
    | some (.ok _, s3) => some (.slice base (l + m) c, s3)
    | _ => none
   else agrow e (old ++ news) i.size (l + m) s2
  | none => if l == 0 && c == 0 then (if m == 0 then some (.slice base l c, s2) else agrow e (old ++ news) i.size (l + m) s2) else none
 else none
def aapp2 (P : Program) (G : Nat) (e : TypeId) (i : TypeInfo) (base : Option Addr) (l c m : Nat) (x : Value) (s : St) : Option (Value × St) :=
 match arun P G (Builtin.firstCells i.size l (.slice base l c)) s with
 | some (.ok old, s1) => match arun P G (Builtin.firstCells i.size m x) s1 with
  | some (.ok news, s2) => aapp3 P G e i base l c m old news s2
  | _ => none
 | _ => none
def aapp (P : Program) (G : Nat) (t t2 : TypeId) (v x : Value) (s : St) : Option (Value × St) :=
 match P.underlying t, P.underlying t2 with
 | some (.slice e), some d2 => match P.info? e with
  | some i => match i.zero with
   | some z => if z.cells.size == i.size && decide (0 < i.size) && appArg d2 then match v, lenO x with
    | .slice base l c, some m => aapp2 P G e i base l c m x s
    | _, _ => none
    else none
   | none => none
  | none => none
 | _, _ => none
theorem arun_loads {P : Program} {G n : Nat} {cs : Array Value} {e : TypeId} {fr : Nat × Nat} : ∀ (k j : Nat) (acc : Array Value) (s : St), s.h.get n = some (.cells cs e fr) → acc = cs.extract 0 j → ∀ r s', arun P G (Go.loadCellsFrom ⟨n, 0, none⟩ j k acc) s = some (.ok r, s') → r = cs.extract 0 (j + k) ∧ (∀ m, s'.h.get m = s.h.get m) ∧ s'.ctr = s.ctr := by
 intro k
 induction k with
 | zero => intro j acc s hs ha r s' h; cases h; exact ⟨by simpa using ha, fun _ => rfl, rfl⟩
 | succ k ih =>
  intro j acc s hs ha r s' h
  unfold Go.loadCellsFrom at h
  rw [arun_bind] at h
  have hadd : (⟨n, 0, none⟩ : Addr).add j = ⟨n, j, none⟩ := by
   unfold Addr.add
   split
   ·rename_i h0; rw [h0]
   ·simp
  rw [hadd] at h
  have el : arun P G (Go.load ⟨n, j, none⟩) s = (match cs[j]? with | some v => some (.ok v, s.read n) | none => none) := by
   simp only [Go.load, arun, hs]
   cases cs[j]? <;> rfl
  rw [el] at h
  cases ec : cs[j]? with
  | none => rw [ec] at h; cases h
  | some v =>
   rw [ec] at h
   obtain ⟨h1, h2, h3⟩ := ih (j + 1) (acc.push v) (s.read n) hs (by
    subst ha
    apply Array.ext_getElem?
    intro q
    rw [Array.getElem?_push, Array.getElem?_extract, Array.getElem?_extract]
    have hj : j < cs.size := (Array.getElem?_eq_some_iff.1 ec).1
    simp only [Array.size_extract]
    split
    ·rename_i hq
     have : q = j := by omega
     subst this
     rw [if_pos (by omega)]
     simpa using ec.symm
    ·rename_i hq
     split
     ·rw [if_pos (by omega)]
     ·rw [if_neg (by omega)]) r s' h
   exact ⟨by rw [h1]; congr 1; omega, h2, h3⟩
theorem arun_loads_keep {P : Program} {G : Nat} {a : Addr} : ∀ (k j : Nat) (acc : Array Value) (s : St) (r : Array Value) (s' : St), arun P G (Go.loadCellsFrom a j k acc) s = some (.ok r, s') → (∀ m, s'.h.get m = s.h.get m) ∧ s'.ctr = s.ctr := by
 intro k
 induction k with
 | zero => intro j acc s r s' h; cases h; exact ⟨fun _ => rfl, rfl⟩
 | succ k ih =>
  intro j acc s r s' h
  unfold Go.loadCellsFrom at h
  rw [arun_bind] at h
  have el : arun P G (Go.load (a.add j)) s = none ∨ ∃ v, arun P G (Go.load (a.add j)) s = some (.ok v, s.read (a.add j).block) := by
   simp only [Go.load, arun]
   split
   ·split
    ·exact .inl rfl
    ·split
     ·exact .inr ⟨_, rfl⟩
     ·exact .inl rfl
   ·exact .inl rfl
  rcases el with el | ⟨v, el⟩
  ·rw [el] at h; cases h
  ·rw [el] at h
   exact ih _ _ (s.read (a.add j).block) r s' h
theorem arun_first_keep {P : Program} {G size n : Nat} {v : Value} {s s' : St} {r : Array Value} (h : arun P G (Builtin.firstCells size n v) s = some (.ok r, s')) : (∀ m, s'.h.get m = s.h.get m) ∧ s'.ctr = s.ctr := by
 unfold Builtin.firstCells at h
 split at h
 ·exact arun_loads_keep _ _ _ _ _ _ h
 ·cases h; exact ⟨fun _ => rfl, rfl⟩
 ·cases h; exact ⟨fun _ => rfl, rfl⟩
 ·cases h
theorem lenO_rel {p : Rn} {x x' : Value} {m : Nat} (h : VR p x x') (k : lenO x = some m) : Builtin.lenOf x' = Pure.pure m := by
 have i := h.inv
 cases x <;> first | (cases k; done) | skip
 ·obtain rfl := i; cases k; rfl
 ·rename_i a l c
  cases k
  cases a with
  | none => obtain rfl := i; rfl
  | some a => obtain ⟨b, c', rfl, _⟩ := i; rfl
section
variable {C : Cx} {p : Rn}
def SimV (C : Cx) (p : Rn) (m : St → Option (Value × St)) (e' : Sem Value) : Prop :=
 ∀ s w, WR C p s w → ∀ v s', m s = some (v, s') → ∃ q w' v', Le p q ∧ WR C q s' w' ∧ VR q v v' ∧ e'.run C.P w = .ok v' w'
theorem WR.grown {q : Rn} {s : St} {w : World} (h : WR C q s w) (ht : s.ctr < s.top) {e : TypeId} {z : Value} {size m l K : Nat} {old old' new new' : Array Value} (hz : z.cells.size = size) (ho : Arr (VR q) old old') (hn : Arr (VR q) new new') (h1 : old.size = l * size) (h2 : new.size = m * size) (hK : l + m ≤ K) :
 ∃ q' w' v', Le q q' ∧ WR C q' (s.fresh (.cells (old ++ new) e (1, size))) w' ∧ VR q' (.slice (some ⟨s.ctr, 0, none⟩) (l + m) unk) v' ∧
  (do let a ← Go.newRow e (old' ++ new' ++ Builtin.zeroCells z.cells (K - (l + m))); Pure.pure (.slice (some a) (l + m) K) : Sem Value).run C.P w = .ok v' w' := by
 have hle := h.extend ht w.heap.size K
 have hsz : (Builtin.zeroCells z.cells (K - (l + m))).size = (K - (l + m)) * size := by rw [size_zeroCells, hz]
 refine ⟨Ex.ext q s.ctr w.heap.size K, w.alloc (.cells (old' ++ new' ++ Builtin.zeroCells z.cells (K - (l + m))) e), .slice (some ⟨w.heap.size, 0, none⟩) (l + m) K, hle, h.fresh ht ?_, ?_, rfl⟩
 ·have ha := (ho.le hle).append (hn.le hle)
  refine .inl ⟨_, _, rfl, ?_, fun i u v a b => ?_, by simp, .inr ⟨rfl, ?_⟩⟩
  ·have := ha.1
   simp only [Array.size_append] at *
   omega
  ·have hi : i < (old' ++ new').size := by rw [← ha.1]; exact (Array.getElem?_eq_some_iff.1 a).1
   rw [Array.getElem?_append, if_pos hi] at b
   exact ha.2 i u v a b
  ·simp only [Array.size_append, hsz, ← ho.1, ← hn.1, h1, h2, ← Nat.add_mul]
   congr 1
   omega
 ·exact (VR.cl _).slU _ _ _ _ K (ext_self _ _ _ _) rfl rfl hK (Nat.le_refl _)
theorem SimV.app {t t2 ty : TypeId} {v v' x x' : Value} (hv : VR p v v') (hx : VR p x x') : SimV C p (aapp C.P C.G t t2 v x) (Builtin.append_ #[t, t2] ty #[v', x']) := by
 intro s w hw r s' hr
 unfold aapp at hr
 cases ht : C.P.underlying t with
 | none => rw [ht] at hr; cases hr
 | some d =>
 cases ht2 : C.P.underlying t2 with
 | none => rw [ht, ht2] at hr; cases d <;> cases hr
 | some d2 =>
 rw [ht, ht2] at hr
 cases d <;> first | (cases hr; done) | skip
 rename_i e
 dsimp only at hr
 cases hi : C.P.info? e with
 | none => rw [hi] at hr; cases hr
 | some i =>
 rw [hi] at hr
 cases hz : i.zero with
 | none => simp only [hz] at hr; cases hr
 | some z =>
 simp only [hz] at hr
 split at hr <;> (try (cases hr; done))
 rename_i hok
 simp only [Bool.and_eq_true, beq_iff_eq, decide_eq_true_eq] at hok
 obtain ⟨⟨hzs, hpos⟩, hd2⟩ := hok
 have hd : (∃ e2, d2 = .slice e2) ∨ d2 = .string := by
  cases d2 <;> first | exact .inl ⟨_, rfl⟩ | exact .inr rfl | cases hd2
 split at hr <;> (try (cases hr; done))
 rename_i base l c m hl
 have hm := lenO_rel hx hl
 unfold aapp2 at hr
 split at hr <;> (try (cases hr; done))
 rename_i old s1 e1
 split at hr <;> (try (cases hr; done))
 rename_i news s2 e2
 unfold aapp3 at hr
 split at hr <;> (try (cases hr; done))
 rename_i hok
 simp only [Bool.and_eq_true, beq_iff_eq] at hok
 obtain ⟨⟨⟨hns, hos⟩, h1c⟩, hfit⟩ := hok
 simp only [fitOk, Bool.and_eq_true, decide_eq_true_eq] at hfit
 obtain ⟨hf1, hf2⟩ := hfit
 have reads : ∀ w0, WR C p s w0 → ∃ q2 old' new', Le p q2 ∧ WR C q2 s2 w0 ∧ Arr (VR q2) old old' ∧ Arr (VR q2) news new' ∧ (Builtin.firstCells i.size l v').run C.P w0 = .ok old' w0 ∧ (Builtin.firstCells i.size m x').run C.P w0 = .ok new' w0 := by
  intro w0 hw0
  obtain ⟨q1, w1, l1, hw1, old', g1, g2⟩ := Sim.firstCells hv i.size l p (Le.refl _) s w0 hw0 _ _ e1
  have := first_same g1
  subst this
  obtain ⟨q2, w2, l2, hw2, new', g3, g4⟩ := Sim.firstCells (hx.le l1) i.size m q1 (Le.refl _) s1 w1 hw1 _ _ e2
  have := first_same g3
  subst this
  exact ⟨q2, old', new', l1.trans l2, hw2, g2.le l2, g4, g1, g3⟩
 have grow : ∀ (base' : Option Addr) (c' : Nat), v' = .slice base' l c' → c' < l + m → s2.ctr < s2.top → (∀ q w0, Le p q → WR C q s2 w0 → ∃ s3 : St, s3.ctr = s2.ctr ∧ s3.top = s2.top ∧ WR C q s3 w0 ∧ s' = s3.fresh (.cells (old ++ news) e (1, i.size))) → r = .slice (some ⟨s2.ctr, 0, none⟩) (l + m) unk →
  ∃ q w' v'', Le p q ∧ WR C q s' w' ∧ VR q r v'' ∧ (Builtin.append_ #[t, t2] ty #[v', x']).run C.P w = .ok v'' w' := by
  intro base' c' hv' hc' htop hs' hr'
  subst hv'
  have hrun := (run_app (ty := ty) ht ht2 hd hi hz base' l c' m x' hm w).2 hc' (by omega) (growslice_fits hc' hf2)
  obtain ⟨q2, old', new', l2, hw2, ho, hn, g1, g2⟩ := reads w.drew hw.drew
  obtain ⟨s3, hs3, hs3t, hw3, rfl⟩ := hs' q2 w.drew l2 hw2
  obtain ⟨q3, w3, v3, l3, hw4, hv3, g3⟩ := hw3.grown (by rw [hs3, hs3t]; exact htop) hzs ho hn hos hns (grownCap_ge w (l + m) c' e) (e := e)
  refine ⟨q3, w3, v3, l2.trans l3, hw4, by rw [hr', ← hs3]; exact hv3, ?_⟩
  rw [hrun, Sem.run_bind, g1]
  simp only [Result.andThen_ok]
  rw [Sem.run_bind, g2]
  exact g3
 have iv := hv.inv
 cases base with
 | none =>
  obtain rfl := iv
  dsimp only at hr
  split at hr <;> (try (cases hr; done))
  rename_i hlc
  simp only [Bool.and_eq_true, beq_iff_eq] at hlc
  obtain ⟨rfl, rfl⟩ := hlc
  split at hr
  ·rename_i hm0
   have hm0 : m = 0 := by simpa using hm0
   subst hm0
   cases hr
   obtain ⟨q2, old', new', l2, hw2, ho, hn, g1, g2⟩ := reads w hw
   refine ⟨q2, w, .slice none 0 0, l2, hw2, VR.of_leaf rfl, ?_⟩
   rw [(run_app (ty := ty) ht ht2 hd hi hz none 0 0 0 x' hm w).1 (by omega), Sem.run_bind, g2]
   rfl
  ·rename_i hm0
   have hm0 : ¬ m = 0 := by simpa using hm0
   unfold agrow at hr
   split at hr <;> (try (cases hr; done))
   rename_i htop
   cases hr
   exact grow none 0 rfl (by omega) htop (fun q w0 _ h => ⟨s2, rfl, rfl, h, rfl⟩) rfl
 | some a =>
  obtain ⟨b, c', rfl, hab, hc⟩ := iv
  dsimp only at hr
  split at hr
  ·-- the room isn't known
   rename_i hcu
   have hcu : c = unk := by simpa using hcu
   subst hcu
   have hc : l ≤ c' ∧ ∃ k, p a.block = some (b.block, k) ∧ c' ≤ k := by
    rcases hc with ⟨_, h⟩ | ⟨_, hc⟩
    ·exact absurd h (Nat.lt_irrefl _)
    ·exact hc
   obtain ⟨hlc, K, hpK, hcK⟩ := hc
   split at hr <;> (try (cases hr; done))
   rename_i hoff
   simp only [Bool.and_eq_true, beq_iff_eq, decide_eq_true_eq] at hoff
   obtain ⟨⟨ha0, hasp⟩, hG⟩ := hoff
   split at hr <;> (try (cases hr; done))
   rename_i cs e' fr hcs
   split at hr <;> (try (cases hr; done))
   rename_i hef
   simp only [Bool.and_eq_true, beq_iff_eq] at hef
   obtain ⟨rfl, rfl⟩ := hef
   have ha : a = ⟨a.block, 0, none⟩ := by
    cases a; simp only at ha0 hasp; subst ha0; simp_all
   have hb : b = ⟨b.block, 0, none⟩ := by
    obtain ⟨_, h2, h3⟩ := hab
    rw [ha] at h2 h3
    cases b; simp only at h2 h3; subst h2 h3; rfl
   split at hr
   ·rename_i hm0
    have hm0 : m = 0 := by simpa using hm0
    subst hm0
    cases hr
    obtain ⟨q2, old', new', l2, hw2, ho, hn, g1, g2⟩ := reads w hw
    refine ⟨q2, w, .slice (some b) l c', l2, hw2.read _, hv.le l2, ?_⟩
    have hne : new'.toList = [] := List.eq_nil_of_length_eq_zero (by have := hn.1; simp only [Array.length_toList]; omega)
    rw [(run_app (ty := ty) ht ht2 hd hi hz (some b) l c' 0 x' hm w).1 hlc, Sem.run_bind, g2]
    simp only [Result.andThen_ok, hne]
    rfl
   ·rename_i hm0
    have hm0 : ¬ m = 0 := by simpa using hm0
    unfold agrow at hr
    split at hr <;> (try (cases hr; done))
    rename_i htop
    have htop : s2.ctr < s2.top := htop
    cases hr
    by_cases hroom : l + m ≤ c'
    ·obtain ⟨q2, old', new', l2, hw2, ho, hn, g1, g2⟩ := reads w hw
     have k1 := arun_first_keep e1
     have k2 := arun_first_keep e2
     have hold : old = cs.extract 0 (l * i.size) := by
      have e1' : arun C.P C.G (Go.loadCellsFrom ⟨a.block, 0, none⟩ 0 (l * i.size) #[]) s = some (.ok old, s1) := by rw [← ha]; exact e1
      have := (arun_loads (n := a.block) (cs := cs) (e := e') (fr := (1, i.size)) (l * i.size) 0 #[] s (by rw [← k1.1, ← k2.1]; exact hcs) (by simp) _ _ e1').1
      simpa using this
     have hw3 := hw2.less hcs hG (m := l * i.size)
     rw [← hold] at hw3
     have hcs3 : (s2.write a.block (.cells old e' (1, i.size))).h.get a.block = some (.cells old e' (1, i.size)) := by simp [St.write, Tr.get_put]
     have hKs : (l + m) * i.size ≤ K * i.size := Nat.mul_le_mul_right _ (by omega)
     obtain ⟨w4, s4, g4, hw4, hc4, hc4t, hh4⟩ := hw3.pushes (b := b.block) (k := K) (z := i.size) news.toList new'.toList _ w old 0 (l2 _ _ hpK) hcs3 hG (by simpa using hn) h1c (by rw [hos, Array.length_toList, hns, ← Nat.add_mul]; exact hKs) (l * i.size) (by rw [hos]; rfl)
     have hc4 : s4.ctr = s2.ctr := hc4
     have hc4t : s4.top = s2.top := hc4t
     have ht4 : s4.ctr < s4.top := by rw [hc4, hc4t]; exact htop
     have hw5 := hw4.rename ht4 (l2 _ _ hpK) (by rw [hh4, if_pos rfl]) hG
     rw [hc4] at hw5
     refine ⟨Ex.ext q2 s2.ctr b.block K, w4, .slice (some b) (l + m) c', l2.trans (by have := hw4.extend ht4 b.block K; rwa [hc4] at this), hw5.congr (fun n => ?_) ?_ hc4t.symm, ?_, ?_⟩
     ·simp only [St.drop, St.fresh, Tr.get_put, hc4]
      split
      ·simp
      ·split
       ·rfl
       ·rename_i h1 h2
        rw [hh4, if_neg h2]
        simp [St.write, Tr.get_put, h2]
     ·simp only [St.drop, St.fresh, hc4]
     ·rw [hb]
      exact (VR.cl _).slU _ _ _ _ K (ext_self _ _ _ _) rfl rfl hroom hcK
     ·have hadd : b.add (l * i.size) = ⟨b.block, l * i.size, none⟩ := by
       unfold Addr.add
       split
       ·rename_i h0; rw [h0, hb]
       ·rw [hb]; simp
      rw [(run_app (ty := ty) ht ht2 hd hi hz (some b) l c' m x' hm w).1 hroom, Sem.run_bind, g2]
      simp only [Result.andThen_ok, hadd]
      rw [Sem.run_bind, g4]
      rfl
    ·exact grow (some b) c' rfl (by omega) htop (fun q w0 _ h => ⟨s2.drop a.block, rfl, rfl, h.drop _, rfl⟩) rfl
  ·rename_i hcu
   have hcu : c ≠ unk := by simpa using hcu
   have hc : c' = c ∧ c < unk := by
    rcases hc with h | ⟨h, _⟩
    ·exact h
    ·exact (hcu h).elim
   obtain ⟨rfl, hcu2⟩ := hc
   split at hr
   ·rename_i hle
    split at hr <;> (try (cases hr; done))
    rename_i u s3 e3
    cases hr
    obtain ⟨q2, old', new', l2, hw2, ho, hn, g1, g2⟩ := reads w hw
    obtain ⟨q3, w3, l3, hw3, _, g3, _⟩ := Sim.storeCells news.toList new'.toList ((hab.le l2).add (l * i.size)) (by simpa using hn) 0 q2 (Le.refl _) s2 w hw2 _ _ e3
    refine ⟨q3, w3, .slice (some b) (l + m) c', l2.trans l3, hw3, VR.sl (hab.le (l2.trans l3)) _ _ hcu2, ?_⟩
    rw [(run_app (ty := ty) ht ht2 hd hi hz (some b) l c' m x' hm w).1 hle, Sem.run_bind, g2]
    simp only [Result.andThen_ok]
    rw [Sem.run_bind, g3]
    rfl
   ·rename_i hle
    unfold agrow at hr
    split at hr <;> (try (cases hr; done))
    rename_i htop
    cases hr
    exact grow (some b) c' rfl (by omega) htop (fun q w0 _ h => ⟨s2, rfl, rfl, h, rfl⟩) rfl
end
end Go.Ex
namespace Go.Ex
open Go.RowKit
section
variable {C : Cx} {p : Rn}
def natO (d : Nat) : Option Value → Option Nat
 | none => some d
 | some (.int _ n) => if 0 ≤ n then some n.toNat else none
 | _ => none
def aslice (P : Program) (t : TypeId) (v : Value) (lo hi : Option Value) (s : St) : Option (Value × St) :=
 match P.underlying t, v with
 | some (.slice e), .slice (some a) l _ => match P.info? e, natO 0 lo, natO l hi with
  | some i, some m, some n => if decide (m ≤ n) && decide (n ≤ l) && (m == 0 || decide (m < l)) then some (.slice (some (a.add (m * i.size))) (n - m) unk, s) else none
  | _, _, _ => none
 | _, _ => none
theorem natO_low {d n y : Nat} {x x' : Option Value} {c : BoundsCode} (h : OV p x x') (k : natO d x = some n) (hy : n ≤ y) (w : World) (P : Program) :
 (match x' with | some v => Instr.sliceBound v y c | none => (Pure.pure d : Sem Nat)).run P w = .ok n w := by
 cases x with
 | none => cases x' with
  | none => cases k; rfl
  | some _ => exact h.elim
 | some v => cases x' with
  | none => exact h.elim
  | some v' =>
   cases v <;> first | (cases k; done) | skip
   rename_i j m
   have hv : v' = .int j m := leaf_eq rfl h
   subst hv
   simp only [natO] at k
   split at k <;> cases k
   rename_i h0
   have : 0 ≤ m ∧ m ≤ (y : Int) := ⟨h0, by omega⟩
   simp [Instr.sliceBound, Go.asIntOf, this]
theorem SimV.slice {t : TypeId} {v v' : Value} {lo lo' hi hi' : Option Value} (hk : known v = false) (hv : VR p v v') (h1 : OV p lo lo') (h2 : OV p hi hi') : SimV C p (aslice C.P t v lo hi) (Instr.sliceAt t v' lo' hi' none) := by
 intro s w hw r s' hr
 unfold aslice at hr
 split at hr <;> (try (cases hr; done))
 rename_i e a l c ht
 split at hr <;> (try (cases hr; done))
 rename_i i m n hi hm hn
 split at hr <;> (try (cases hr; done))
 rename_i hok
 cases hr
 simp only [Bool.and_eq_true, Bool.or_eq_true, beq_iff_eq, decide_eq_true_eq] at hok
 obtain ⟨⟨hmn, hnl⟩, hml⟩ := hok
 obtain ⟨b, c', rfl, hab, hc⟩ := hv.inv
 have hc : l ≤ c' ∧ ∃ k, p a.block = some (b.block, k) ∧ c' ≤ k := by
  rcases hc with ⟨_, h⟩ | ⟨_, hc⟩
  ·simp only [known, bne_eq_false_iff_eq] at hk
   omega
  ·exact hc
 obtain ⟨hlc, K, hpK, hcK⟩ := hc
 have hrun : (Instr.sliceAt t (.slice (some b) l c') lo' hi' none).run C.P w = .ok (.slice (some (if c' = m then b else b.add (m * i.size))) (n - m) (c' - m)) w := by
  have g2 := natO_low (c := .sliceAcap) (y := c') h2 hn (by omega) w C.P
  have g1 := natO_low (c := .sliceB) (y := n) h1 hm hmn w C.P
  unfold Instr.sliceAt
  simp only [Sem.run_bind, run_underlying ht, Result.andThen_ok]
  unfold Instr.slice
  simp only [Sem.run_bind, run_underlying ht, Result.andThen_ok]
  unfold Instr.sliceBounds
  cases hi' <;> cases lo' <;> simp_all [Go.sizeOf, typeInfo]
  all_goals (split <;> rfl)
 refine ⟨p, w, _, Le.refl _, hw, ?_, hrun⟩
 have hadd := hab.add (m * i.size)
 have hmc : c' = m → m = 0 := by intro e; rcases hml with h | h <;> omega
 have : (if c' = m then b else b.add (m * i.size)) = b.add (m * i.size) := by
  split
  ·rename_i e
   rw [hmc e]; simp [Addr.add]
  ·rfl
 rw [this]
 have hbl : (a.add (m * i.size)).block = a.block ∧ (b.add (m * i.size)).block = b.block := by
  unfold Addr.add; constructor <;> split <;> rfl
 exact (VR.cl _).slU _ _ _ _ K (by rw [hbl.1, hbl.2]; exact hpK) hadd.2.1 hadd.2.2 (by omega) (by omega)
def abytes (P : Program) (d : TypeId) (x : Value) (s : St) : Option (Value × St) :=
 match P.underlying d, x with
 | some (.slice e), .string b => match P.underlying e with
  | some (.int .u8) => agrow e (b.data.map fun b => .int .u8 b.toNat) 1 b.size s
  | _ => none
 | _, _ => none
theorem SimV.bytes {sd d : TypeId} {x x' : Value} (hs : C.P.underlying sd = some .string) (hx : VR p x x') : SimV C p (abytes C.P d x) (Go.convert sd d x') := by
 intro s w hw r s' hr
 unfold abytes at hr
 split at hr <;> (try (cases hr; done))
 rename_i e b ht
 split at hr <;> (try (cases hr; done))
 rename_i he
 unfold agrow at hr
 split at hr <;> (try (cases hr; done))
 rename_i htop
 cases hr
 obtain rfl : x' = .string b := leaf_eq rfl hx
 have hcap := grownCap_ge w b.size 0 e
 have hrun : (Go.convert sd d (.string b)).run C.P w = .ok (.slice (some ⟨w.heap.size, 0, none⟩) b.size (grownCap w b.size 0 e)) ((w.drew.alloc (.cells ((b.data.map fun b => Value.int .u8 b.toNat) ++ Array.replicate (grownCap w b.size 0 e - b.size) (.int .u8 0)) e)).freeze ⟨w.heap.size, grownCap w b.size 0 e, none⟩ 1) := by
  unfold Go.convert
  simp only [Sem.run_bind, run_underlying hs, run_underlying ht, run_underlying he, Result.andThen_ok]
  unfold Conv.stringToBytes
  simp only [Sem.run_bind, run_choose, Question.forced, Bool.false_eq_true, if_false, Result.andThen_ok, Go.newRow, run_newObj]
  unfold markStringish
  rw [show (Question.appendCap b.size 0 e).cut (w.tape w.drawn (Question.appendCap b.size 0 e)) = grownCap w b.size 0 e from rfl]
  generalize grownCap w b.size 0 e = K at *
  have hsz : (b.data.map fun b => Value.int .u8 b.toNat).size = b.size := by rw [Array.size_map]; rfl
  generalize (b.data.map fun b => Value.int .u8 b.toNat) = el at *
  simp only [Sem.run_bind, run_shape, Result.andThen_ok, Sem.run_pure]
  have hs : World.shape? { heap := w.heap.push (.cells (el ++ Array.replicate (K - b.size) (Value.int .u8 0)) e), tape := w.tape, drawn := w.drawn + 1, os := w.os, output := w.output } w.heap.size = some (e, K) := by
   simp only [World.shape?, Array.getElem?_push_size, Array.size_append, Array.size_replicate, hsz]
   congr 2; omega
  rw [hs]
  rfl
 generalize hK : grownCap w b.size 0 e = K at *
 have hle := hw.drew.extend htop w.heap.size K
 have hsz : (b.data.map fun b => Value.int .u8 b.toNat).size = b.size := by rw [Array.size_map]; rfl
 have hw1 := hw.drew.fresh htop (k := K) (o := .cells (b.data.map fun b => .int .u8 b.toNat) e (1, 1)) (o' := .cells ((b.data.map fun b => Value.int .u8 b.toNat) ++ Array.replicate (K - b.size) (.int .u8 0)) e) (by
  refine .inl ⟨_, (0, 0), rfl, ?_, fun i u v a b => ?_, fun j _ h => Nat.not_lt_zero _ h.2, .inr ⟨rfl, ?_⟩⟩
  ·rw [Array.size_append]; exact Nat.le_add_right _ _
  ·have hi := (Array.getElem?_eq_some_iff.1 a).1
   rw [Array.getElem?_append, if_pos hi, a] at b
   cases b
   simp only [Array.getElem?_map, Option.map_eq_some_iff] at a
   obtain ⟨x, _, rfl⟩ := a
   exact VR.int _ _ _
  ·simp only [Array.size_append, hsz, Array.size_replicate]; omega)
 refine ⟨_, _, _, hle, ?_, ?_, hrun⟩
 ·generalize hel : (b.data.map fun b => Value.int .u8 b.toNat) ++ Array.replicate (K - b.size) (Value.int .u8 0) = el at *
  obtain ⟨b0, k0, o0, f1, f2, f3⟩ := hw1.heap s.ctr (.cells (b.data.map fun b => .int .u8 b.toNat) e (1, 1)) (by simp only [St.fresh, Tr.get_put, if_pos])
  rw [ext_self] at f1; cases f1
  have hbl : (w.drew.alloc (.cells el e)).heap[w.heap.size]? = some (.cells el e) := heap_alloc_new w.drew _
  have f2 : some (Obj.cells el e) = some o0 := hbl.symm.trans f2
  cases f2
  obtain ⟨c', fr', e1, g1, g2, g3, g4⟩ := f3.oc (by simp)
  cases e1
  have hG : C.G ≤ s.ctr := hw.ctr
  have hbase := hw.base
  have hfr : ((w.drew.alloc (.cells el e)).freeze ⟨w.heap.size, K, none⟩ 1).heap[w.heap.size]? = some (.cells el e (K, K + 1)) := by
   simp only [World.freeze, Nat.one_ne_zero, if_false, Array.getElem?_modify, if_pos, hbl, Option.map_some]
   rfl
  have hoth : ∀ i, i ≠ w.heap.size → ((w.drew.alloc (.cells el e)).freeze ⟨w.heap.size, K, none⟩ 1).heap[i]? = (w.drew.alloc (.cells el e)).heap[i]? := by
   intro i hi
   simp only [World.freeze, Nat.one_ne_zero, if_false, Array.getElem?_modify]
   rw [if_neg (fun h => hi h.symm)]
  have hsz2 : ((w.drew.alloc (.cells el e)).freeze ⟨w.heap.size, K, none⟩ 1).heap.size = (w.drew.alloc (.cells el e)).heap.size := by
   simp only [World.freeze, Nat.one_ne_zero, if_false, Array.size_modify]
  have := hw1.write (n := s.ctr) (o0 := .cells (b.data.map fun b => .int .u8 b.toNat) e (1, 1)) (ext_self _ _ _ _) (by simp only [St.fresh, Tr.get_put, if_pos]) hG (w' := (w.drew.alloc (.cells el e)).freeze ⟨w.heap.size, K, none⟩ 1) ⟨rfl, rfl, rfl, Nat.le_of_eq hsz2.symm, fun i hi => hoth i (by omega)⟩ hsz2 hfr hoth (o := .cells (b.data.map fun b => .int .u8 b.toNat) e (1, 1)) (.inl ⟨_, _, rfl, g1, g2, fun j hj h => by
   have hel2 : el.size = K := by rw [← hel, Array.size_append, hsz, Array.size_replicate]; omega
   have := h.1; simp only at this; omega, g4⟩)
  refine this.congr (fun n => ?_) rfl rfl
  simp only [St.write, St.fresh, Tr.get_put]
  split
  ·rfl
  ·rfl
 ·exact (VR.cl _).slU _ _ _ _ K (ext_self _ _ _ _) rfl rfl (by omega) (Nat.le_refl _)
end
end Go.Ex
namespace Go.Ex
abbrev M (β : Type) := St → Option (β × St)
def mb {β γ : Type} (m : M β) (f : β → M γ) : M γ := fun s => match m s with
 | some (b, s1) => f b s1
 | none => none
def mret {β : Type} (b : β) : M β := fun s => some (b, s)
def mno {β : Type} : M β := fun _ => none
def Loc {β : Type} (m : M β) : Prop := ∀ s b s', m s = some (b, s') → ∃ r w, s'.rd = r ++ s.rd ∧ s'.wr = w ++ s.wr ∧ s.ctr ≤ s'.ctr ∧ s'.top = s.top ∧ (s.ctr ≤ s.top → s'.ctr ≤ s.top) ∧ (∀ n, n ∉ w → ¬(s.ctr ≤ n ∧ n < s'.ctr) → s'.h.get n = s.h.get n) ∧
 ∀ t, t.ctr = s.ctr → s'.ctr ≤ t.top → (∀ n, (n ∈ r ∨ (s.ctr ≤ n ∧ n < s'.ctr)) → t.h.get n = s.h.get n) → ∃ t', m t = some (b, t') ∧ t'.ctr = s'.ctr ∧ t'.top = t.top ∧ t'.rd = r ++ t.rd ∧ t'.wr = w ++ t.wr ∧ ∀ n, t'.h.get n = if n ∈ w ∨ (s.ctr ≤ n ∧ n < s'.ctr) then s'.h.get n else t.h.get n
theorem Loc.congr {β : Type} {m m' : M β} (h : Loc m) (e : ∀ s, m' s = m s) : Loc m' := by
 have : m' = m := funext e
 rw [this]; exact h
theorem Loc.ret {β : Type} (b : β) : Loc (mret b) := by
 intro s b' s' h
 cases h
 refine ⟨[], [], rfl, rfl, Nat.le_refl _, rfl, id, fun _ _ _ => rfl, fun t ht _ _ => ⟨t, rfl, ht, rfl, rfl, rfl, fun n => ?_⟩⟩
 rw [if_neg]
 rintro (h | h)
 ·cases h
 ·omega
theorem Loc.no {β : Type} : Loc (mno : M β) := by intro s b s' h; cases h
theorem Loc.bind {β γ : Type} {m : M β} {f : β → M γ} (h : Loc m) (k : ∀ b, Loc (f b)) : Loc (mb m f) := by
 intro s c s' hs
 unfold mb at hs
 cases e : m s with
 | none => rw [e] at hs; cases hs
 | some x =>
  obtain ⟨b, s1⟩ := x
  rw [e] at hs
  obtain ⟨r1, w1, a1, a2, a3, a3t, a3r, a4, a5⟩ := h s b s1 e
  obtain ⟨r2, w2, b1, b2, b3, b3t, b3r, b4, b5⟩ := k b s1 c s' hs
  refine ⟨r2 ++ r1, w2 ++ w1, by rw [b1, a1, List.append_assoc], by rw [b2, a2, List.append_assoc], Nat.le_trans a3 b3, by rw [b3t, a3t], fun h => by have h1 := a3r h; rw [← a3t] at h1 ⊢; exact b3r h1, ?_, ?_⟩
  ·intro n hn hi
   simp only [List.mem_append, not_or] at hn
   rw [b4 n hn.1 (by omega), a4 n hn.2 (by omega)]
  ·intro t ht htt hag
   obtain ⟨t1, c1, c2, c2t, c3, c4, c5⟩ := a5 t ht (Nat.le_trans b3 htt) fun n hn => hag n (by
    rcases hn with hn | hn
    ·exact .inl (List.mem_append_right _ hn)
    ·exact .inr ⟨hn.1, by omega⟩)
   obtain ⟨t2, d1, d2, d2t, d3, d4, d5⟩ := b5 t1 c2 (by rw [c2t]; exact htt) fun n hn => by
    rw [c5]
    split
    ·rfl
    ·rename_i hnw
     simp only [not_or] at hnw
     rw [a4 n hnw.1 hnw.2]
     refine hag n ?_
     rcases hn with hn | hn
     ·exact .inl (List.mem_append_left _ hn)
     ·exact .inr ⟨by omega, hn.2⟩
   refine ⟨t2, ?_, d2, by rw [d2t, c2t], by rw [d3, c3, List.append_assoc], by rw [d4, c4, List.append_assoc], fun n => ?_⟩
   ·unfold mb; rw [c1]; exact d1
   ·rw [d5]
    by_cases h1 : n ∈ w2 ∨ (s1.ctr ≤ n ∧ n < s'.ctr)
    ·rw [if_pos h1, if_pos]
     rcases h1 with h1 | h1
     ·exact .inl (List.mem_append_left _ h1)
     ·exact .inr ⟨by omega, h1.2⟩
    ·rw [if_neg h1, c5]
     simp only [not_or] at h1
     by_cases h2 : n ∈ w1 ∨ (s.ctr ≤ n ∧ n < s1.ctr)
     ·rw [if_pos h2, if_pos]
      ·exact (b4 n h1.1 h1.2).symm
      ·rcases h2 with h2 | h2
       ·exact .inl (List.mem_append_right _ h2)
       ·exact .inr ⟨h2.1, by omega⟩
     ·rw [if_neg h2, if_neg]
      simp only [not_or] at h2
      rintro (h3 | h3)
      ·rcases List.mem_append.1 h3 with h3 | h3
       ·exact h1.1 h3
       ·exact h2.1 h3
      ·by_cases h4 : n < s1.ctr
       ·exact h2.2 ⟨h3.1, h4⟩
       ·exact h1.2 ⟨by omega, h3.2⟩
def mget (n : Nat) : M Obj := fun s => match s.h.get n with
 | some o => some (o, s.read n)
 | none => none
def mset (n : Nat) (o : Obj) : M Unit := fun s => some ((), s.write n o)
def mdrop (n : Nat) : M Unit := fun s => some ((), s.drop n)
def mnew (o : Obj) : M Nat := fun s => if s.ctr < s.top then some (s.ctr, s.fresh o) else none
theorem Loc.get (n : Nat) : Loc (mget n) := by
 intro s o s' h
 unfold mget at h
 cases e : s.h.get n with
 | none => rw [e] at h; cases h
 | some o1 =>
  rw [e] at h; cases h
  refine ⟨[n], [], rfl, rfl, Nat.le_refl _, rfl, id, fun _ _ _ => rfl, fun t ht _ hag => ⟨t.read n, ?_, ht, rfl, rfl, rfl, fun m => ?_⟩⟩
  ·unfold mget; rw [hag n (.inl (by simp)), e]
  ·rw [if_neg]
   ·rfl
   ·rintro (h | h)
    ·cases h
    ·simp only [St.read] at h; omega
theorem Loc.set (n : Nat) (o : Obj) : Loc (mset n o) := by
 intro s u s' h
 cases h
 refine ⟨[n], [n], rfl, rfl, Nat.le_refl _, rfl, id, fun m hm _ => ?_, fun t ht _ hag => ⟨t.write n o, rfl, ht, rfl, rfl, rfl, fun m => ?_⟩⟩
 ·simp only [St.write, Tr.get_put]
  rw [if_neg (by simpa using hm)]
 ·simp only [St.write, Tr.get_put]
  by_cases hm : m = n
  ·subst hm; simp
  ·rw [if_neg hm, if_neg]
   rintro (h | h)
   ·exact hm (by simpa using h)
   ·omega
theorem Loc.drop (n : Nat) : Loc (mdrop n) := by
 intro s u s' h
 cases h
 refine ⟨[n], [n], rfl, rfl, Nat.le_refl _, rfl, id, fun m hm _ => ?_, fun t ht _ hag => ⟨t.drop n, rfl, ht, rfl, rfl, rfl, fun m => ?_⟩⟩
 ·simp only [St.drop, Tr.get_put]
  rw [if_neg (by simpa using hm)]
 ·simp only [St.drop, Tr.get_put]
  by_cases hm : m = n
  ·subst hm; simp
  ·rw [if_neg hm, if_neg]
   rintro (h | h)
   ·exact hm (by simpa using h)
   ·omega
theorem Loc.new (o : Obj) : Loc (mnew o) := by
 intro s u s' h
 unfold mnew at h
 split at h <;> cases h
 refine ⟨[], [], rfl, rfl, Nat.le_succ _, rfl, fun _ => by simp only [St.fresh]; omega, fun m _ hm => ?_, fun t ht htt hag => ⟨t.fresh o, ?_, by simp [St.fresh, ht], rfl, rfl, rfl, fun m => ?_⟩⟩
 ·simp only [St.fresh, Tr.get_put] at hm ⊢
  rw [if_neg (by omega)]
 ·unfold mnew
  rw [if_pos (by simp only [St.fresh] at htt; omega), ht]
 ·simp only [St.fresh, Tr.get_put, ht]
  by_cases hm : m = s.ctr
  ·subst hm; rw [if_pos rfl, if_pos (.inr ⟨Nat.le_refl _, Nat.lt_succ_self _⟩), if_pos rfl]
  ·rw [if_neg hm, if_neg]
   rintro (h | h)
   ·cases h
   ·omega
def mmod (n : Nat) (f : Obj → Option Obj) : M Unit := fun s => match s.h.get n with
 | some o => match f o with
  | some o' => some ((), s.write n o')
  | none => none
 | none => none
theorem Loc.mod (n : Nat) (f : Obj → Option Obj) : Loc (mmod n f) := by
 intro s u s' h
 unfold mmod at h
 cases e : s.h.get n with
 | none => rw [e] at h; cases h
 | some o =>
  rw [e] at h
  dsimp only at h
  cases e2 : f o with
  | none => rw [e2] at h; cases h
  | some o' =>
   rw [e2] at h
   cases h
   refine ⟨[n], [n], rfl, rfl, Nat.le_refl _, rfl, id, fun m hm _ => ?_, fun t ht _ hag => ⟨t.write n o', ?_, ht, rfl, rfl, rfl, fun m => ?_⟩⟩
   ·simp only [St.write, Tr.get_put]
    rw [if_neg (by simpa using hm)]
   ·unfold mmod; rw [hag n (.inl (by simp)), e]; dsimp only; rw [e2]
   ·simp only [St.write, Tr.get_put]
    by_cases hm : m = n
    ·subst hm; simp
    ·rw [if_neg hm, if_neg]
     rintro (h | h)
     ·exact hm (by simpa using h)
     ·omega
theorem Loc.ite {β : Type} {c : Prop} [Decidable c] {m m' : M β} (h : Loc m) (k : Loc m') : Loc (if c then m else m') := by
 split
 ·exact h
 ·exact k
theorem Loc.arun {α : Type} (P : Program) (G : Nat) (e : Sem α) : Loc (arun P G e) := by
 induction e with
 | pure a => exact (Loc.ret (.ok a)).congr fun _ => rfl
 | load m a k ih =>
  refine ((Loc.get a.block).bind (f := fun o => match o with
   | .cells c _ _ => if a.spot.isSome then mno else match c[a.off]? with
    | some v => Ex.arun P G (k v)
    | none => mno
   | _ => mno) fun o => ?_).congr fun s => ?_
  ·split
   ·refine .ite .no ?_
    split
    ·exact ih _
    ·exact .no
   ·exact .no
  ·simp only [Ex.arun, mb, mget]
   cases e : s.h.get a.block with
   | none => rfl
   | some o =>
    cases o <;> first | rfl | skip
    dsimp only
    split
    ·rfl
    ·rename_i c _ _ _
     cases c[a.off]? <;> rfl
 | store m a v k ih =>
  refine ((Loc.mod a.block fun o => match o with
   | .cells c e fr => if a.spot.isNone && decide (G ≤ a.block) && decide (a.off < c.size ∧ fr.1 ≠ 2) && v.oneCell' then some (.cells (c.setIfInBounds a.off v) e fr) else none
   | _ => none).bind (f := fun _ => Ex.arun P G k) fun _ => ih).congr fun s => ?_
  simp only [Ex.arun, mb, mmod]
  cases e : s.h.get a.block with
  | none => rfl
  | some o =>
   cases o <;> first | rfl | skip
   dsimp only
   split <;> rfl
 | new o k ih =>
  refine (Loc.ite (c := okNew o = true) ((Loc.new o).bind (f := fun r => Ex.arun P G (k r)) fun r => ih r) Loc.no).congr fun s => ?_
  simp only [Ex.arun]
  by_cases h1 : okNew o = true
  ·by_cases h2 : s.ctr < s.top
   ·rw [if_pos (by simp [h1, h2]), if_pos h1]
    simp only [mb, mnew, if_pos h2]
   ·rw [if_neg (by simp [h2]), if_pos h1]
    simp only [mb, mnew, if_neg h2]
  ·rw [if_neg (by simp [h1]), if_neg h1]; rfl
 | shape r k ih =>
  refine ((Loc.get r).bind (f := fun o => match o with
   | .cells c e fr => if fr == (0, 0) then Ex.arun P G (k (some (e, c.size))) else mno
   | _ => mno) fun o => ?_).congr fun s => ?_
  ·split
   ·exact .ite (ih _) .no
   ·exact .no
  ·simp only [Ex.arun, mb, mget]
   cases e : s.h.get r with
   | none => rfl
   | some o =>
    cases o <;> first | rfl | skip
    dsimp only
    split <;> rfl
 | freeze a n k ih => exact Loc.no.congr fun _ => rfl
 | frozen a k ih =>
  refine ((Loc.get a.block).bind (f := fun o => match o with
   | .cells c _ fr => if a.off < c.size ∧ fr.1 ≠ 2 then Ex.arun P G (k false) else mno
   | _ => mno) fun o => ?_).congr fun s => ?_
  ·split
   ·exact .ite (ih _) .no
   ·exact .no
  ·simp only [Ex.arun, mb, mget]
   cases e : s.h.get a.block with
   | none => rfl
   | some o =>
    cases o <;> first | rfl | skip
    dsimp only
    split <;> rfl
 | getObj r k ih =>
  refine ((Loc.get r).bind (f := fun o => if okSet o then Ex.arun P G (k o) else mno) fun o => .ite (ih _) .no).congr fun s => ?_
  simp only [Ex.arun, mb, mget]
  cases e : s.h.get r with
  | none => rfl
  | some o => dsimp only; split <;> rfl
 | setObj r o k ih =>
  refine ((Loc.mod r fun o0 => if okSet o0 && okSet o && decide (G ≤ r) then some o else none).bind (f := fun _ => Ex.arun P G k) fun _ => ih).congr fun s => ?_
  simp only [Ex.arun, mb, mmod]
  cases e : s.h.get r with
  | none => rfl
  | some o => dsimp only; split <;> rfl
 | choose q k ih =>
  refine (Loc.ite (c := q.forced = true) (ih 0) Loc.no).congr fun s => ?_
  simp only [Ex.arun]
  split <;> rfl
 | sys c k ih => exact Loc.no.congr fun _ => rfl
 | program k ih => exact (ih P).congr fun _ => rfl
 | mark m k ih => exact ih.congr fun _ => rfl
 | halt h =>
  cases h with
  | panic v =>
   refine (Loc.ite (c := flatP v = true) (Loc.ret (.error v)) Loc.no).congr fun s => ?_
   simp only [Ex.arun]
   split <;> rfl
  | _ => exact Loc.no.congr fun _ => rfl
theorem Loc.okBind {β γ : Type} {m : M (Except Value β)} {f : β → M γ} (h : Loc m) (k : ∀ b, Loc (f b)) : Loc (fun s => match m s with
 | some (.ok b, s1) => f b s1
 | _ => none) := by
 refine (h.bind (f := fun r => match r with | .ok b => f b | .error _ => mno) fun r => ?_).congr fun s => ?_
 ·cases r
  ·exact .no
  ·exact k _
 ·unfold mb
  cases m s with
  | none => rfl
  | some x => obtain ⟨r, s1⟩ := x; cases r <;> rfl
def mcut (n : Nat) (f : Obj → Bool) : M Unit := fun s => match s.h.get n with
 | some o => if f o then some ((), s.drop n) else none
 | none => none
theorem Loc.cut (n : Nat) (f : Obj → Bool) : Loc (mcut n f) := by
 intro s u s' h
 unfold mcut at h
 cases e : s.h.get n with
 | none => rw [e] at h; cases h
 | some o =>
  rw [e] at h
  dsimp only at h
  split at h <;> cases h
  rename_i e2
  refine ⟨[n], [n], rfl, rfl, Nat.le_refl _, rfl, id, fun m hm _ => ?_, fun t ht _ hag => ⟨t.drop n, ?_, ht, rfl, rfl, rfl, fun m => ?_⟩⟩
  ·simp only [St.drop, Tr.get_put]
   rw [if_neg (by simpa using hm)]
  ·unfold mcut; rw [hag n (.inl (by simp)), e]; dsimp only; rw [if_pos e2]
  ·simp only [St.drop, Tr.get_put]
   by_cases hm : m = n
   ·subst hm; simp
   ·rw [if_neg hm, if_neg]
    rintro (h | h)
    ·exact hm (by simpa using h)
    ·omega
theorem Loc.grown (e : TypeId) (cs : Array Value) (z n : Nat) : Loc (agrow e cs z n) :=
 ((Loc.new (.cells cs e (1, z))).bind (f := fun r => mret (.slice (some ⟨r, 0, none⟩) n unk)) fun _ => Loc.ret _).congr fun s => by
  simp only [mb, mnew, agrow]
  split <;> rfl
theorem Loc.app3 (P : Program) (G : Nat) (e : TypeId) (i : TypeInfo) (base : Option Addr) (l c m : Nat) (old news : Array Value) : Loc (aapp3 P G e i base l c m old news) := by
 by_cases h0 : (news.size == m * i.size && old.size == l * i.size && news.toList.all Value.oneCell' && fitOk (l + m) i.bytes) = true
 ·cases base with
  | none =>
   by_cases h1 : (l == 0 && c == 0) = true
   ·by_cases h2 : (m == 0) = true
    ·exact (Loc.ret (.slice none l c)).congr fun s => by unfold aapp3; rw [if_pos h0]; dsimp only; rw [if_pos h1, if_pos h2]; rfl
    ·exact (Loc.grown e (old ++ news) i.size (l + m)).congr fun s => by unfold aapp3; rw [if_pos h0]; dsimp only; rw [if_pos h1, if_neg h2]
   ·exact Loc.no.congr fun s => by unfold aapp3; rw [if_pos h0]; dsimp only; rw [if_neg h1]; rfl
  | some a =>
   by_cases h1 : (c == unk) = true
   ·by_cases h2 : (a.off == 0 && a.spot.isNone && decide (G ≤ a.block)) = true
    ·by_cases h3 : (m == 0) = true
     ·refine ((Loc.get a.block).bind (f := fun o => match o with
       | .cells cs e' fr => if e' == e && fr == (1, i.size) then mret (.slice (some a) l c) else mno
       | _ => mno) fun o => ?_).congr fun s => ?_
      ·split
       ·exact .ite (.ret _) .no
       ·exact .no
      ·unfold aapp3
       rw [if_pos h0]; dsimp only; rw [if_pos h1, if_pos h2]
       simp only [mb, mget]
       cases s.h.get a.block with
       | none => rfl
       | some o => cases o <;> first | rfl | (dsimp only; split <;> first | rfl | (rw [if_pos h3]; rfl))
     ·refine ((Loc.cut a.block fun o => match o with
       | .cells cs e' fr => e' == e && fr == (1, i.size)
       | _ => false).bind (f := fun _ => agrow e (old ++ news) i.size (l + m)) fun _ => Loc.grown e (old ++ news) i.size (l + m)).congr fun s => ?_
      unfold aapp3
      rw [if_pos h0]; dsimp only; rw [if_pos h1, if_pos h2]
      simp only [mb, mcut]
      cases s.h.get a.block with
      | none => rfl
      | some o => cases o <;> first | rfl | (dsimp only; split <;> first | rfl | (rw [if_neg h3]; rfl))
    ·exact Loc.no.congr fun s => by unfold aapp3; rw [if_pos h0]; dsimp only; rw [if_pos h1, if_neg h2]; rfl
   ·by_cases h2 : l + m ≤ c
    ·refine ((Loc.arun P G (Go.storeCells (a.add (l * i.size)) news.toList)).okBind (f := fun _ => mret (.slice (some a) (l + m) c)) fun _ => Loc.ret _).congr fun s => ?_
     unfold aapp3
     rw [if_pos h0]; dsimp only; rw [if_neg h1, if_pos h2]
     cases Ex.arun P G (Go.storeCells (a.add (l * i.size)) news.toList) s with
     | none => rfl
     | some x => obtain ⟨r, s1⟩ := x; cases r <;> rfl
    ·exact (Loc.grown e (old ++ news) i.size (l + m)).congr fun s => by unfold aapp3; rw [if_pos h0]; dsimp only; rw [if_neg h1, if_neg h2]
 ·exact Loc.no.congr fun s => by unfold aapp3; rw [if_neg h0]; rfl
theorem Loc.app2 (P : Program) (G : Nat) (e : TypeId) (i : TypeInfo) (base : Option Addr) (l c m : Nat) (x : Value) : Loc (aapp2 P G e i base l c m x) := by
 refine ((Loc.arun P G (Builtin.firstCells i.size l (.slice base l c))).okBind (f := fun old => mb (Ex.arun P G (Builtin.firstCells i.size m x)) fun r => match r with
  | .ok news => aapp3 P G e i base l c m old news
  | .error _ => mno) fun old => (Loc.arun P G _).bind fun r => ?_).congr fun s => ?_
 ·cases r
  ·exact .no
  ·exact Loc.app3 P G e i base l c m old _
 ·unfold aapp2
  cases Ex.arun P G (Builtin.firstCells i.size l (.slice base l c)) s with
  | none => rfl
  | some y =>
   obtain ⟨r, s1⟩ := y
   cases r with
   | error _ => rfl
   | ok old =>
    simp only [mb]
    cases Ex.arun P G (Builtin.firstCells i.size m x) s1 with
    | none => rfl
    | some y => obtain ⟨r, s2⟩ := y; cases r <;> rfl
theorem Loc.app (P : Program) (G : Nat) (t t2 : TypeId) (v x : Value) : Loc (aapp P G t t2 v x) := by
 unfold aapp
 split
 ·split
  ·split
   ·split
    ·split
     ·exact Loc.app2 P G _ _ _ _ _ _ _
     ·exact .no
    ·exact .no
   ·exact .no
  ·exact .no
 ·exact .no
theorem Loc.slice (P : Program) (t : TypeId) (v : Value) (lo hi : Option Value) : Loc (aslice P t v lo hi) := by
 unfold aslice
 split
 ·split
  ·split
   ·exact .ret _
   ·exact .no
  ·exact .no
 ·exact .no
theorem Loc.bytes (P : Program) (d : TypeId) (x : Value) : Loc (abytes P d x) := by
 unfold abytes
 split
 ·split
  ·exact Loc.grown _ _ _ _
  ·exact .no
 ·exact .no
end Go.Ex
namespace Go.Ex
open Go.RowKit
structure Env where
 P : Program
 G : Nat
 gl : Nat → Bool
 fn : FuncId → Option Func
 ext : FuncId → Option (Array Value → Sem Value)
structure Good (E : Env) : Prop where
 zok : Zok E.P
 ext : ∀ f e, E.ext f = some e → (∀ (args : Array Value) (w : World), (callFunc f args).run E.P w = ((e args).run E.P w).andThen fun v w' => .ok (.value v) w') ∧ ∀ (C : Cx), C.P = E.P → ∀ p args args', Arr (VR p) args args' → Sim C p VR (e args) (e args')
 call : ∀ f fn, E.fn f = some fn → E.P.funcs[f]? = some fn ∧ ∀ (args : Array Value) (w : World), (callFunc f args).run E.P w = .ok (.enter f args) w
structure Bs where
 base : Nat
 w0 : World
 lo : Nat
 old : Nat → Prop
abbrev Env.cx (E : Env) (B : Bs) : Cx := ⟨E.P, E.G, B.base, B.w0, B.lo, B.old⟩
structure WE (E : Env) (B : Bs) (p : Rn) (s : St) (w : World) : Prop where
 wr : WR (E.cx B) p s w
 gl : ∀ g, E.gl g = true → ∃ k, p g = some (g, k)
structure AA where
 t : Tr Value
 n : Nat
 ds : List Deferred
def DsR (p : Rn) : List Deferred → List Deferred → Prop
 | [], [] => True
 | d :: l, e :: m => DR p d e ∧ DsR p l m
 | _, _ => False
theorem DsR.le {p q : Rn} (l : Le p q) : ∀ {x y : List Deferred}, DsR p x y → DsR q x y
 | [], [], _ => trivial
 | _ :: _, _ :: _, h => ⟨h.1.le l, DsR.le l h.2⟩
structure ARL (p : Rn) (a : AA) (b : Act) : Prop where
 size : b.tmps.size = a.n
 val : ∀ i v, a.t.get i = some v → i < a.n ∧ VR p v (b.tmps.getD i undef)
 ds : DsR p a.ds b.defers
theorem ARL.le {p q : Rn} {a : AA} {b : Act} (h : ARL p a b) (l : Le p q) : ARL q a b := ⟨h.size, fun i v e => ⟨(h.val i v e).1, (h.val i v e).2.le l⟩, DsR.le l h.ds⟩
def AA.eval (gl : Nat → Bool) (a : AA) : Operand → Option Value
 | .tmp i => a.t.get i
 | .const v => if flat1 v then some v else none
 | .global g => if gl g then some (.pointer (some ⟨g, 0, none⟩)) else none
 | .func f => some (.func (.func f) #[] #[])
def AA.ev (gl : Nat → Bool) (a : AA) (x : Operand) : Value := (a.eval gl x).getD undef
theorem eval_rel {E : Env} {B : Bs} {p : Rn} {s : St} {w : World} {a : AA} {b : Act} (hw : WE E B p s w) (h : ARL p a b) {x : Operand} {v : Value} (e : a.eval E.gl x = some v) : VR p v (b.eval x) := by
 cases x with
 | tmp i => exact (h.val i v e).2
 | const u =>
  simp only [AA.eval] at e
  split at e <;> cases e
  rename_i hf
  exact VR.of_flat hf
 | global g =>
  simp only [AA.eval] at e
  split at e <;> cases e
  rename_i hg
  obtain ⟨k, hk⟩ := hw.gl g hg
  exact VR.ptr ⟨⟨k, hk⟩, rfl, rfl⟩
 | func f => cases e; exact VR.of_flat rfl
theorem ev_rel {E : Env} {B : Bs} {p : Rn} {s : St} {w : World} {a : AA} {b : Act} (hw : WE E B p s w) (h : ARL p a b) {x : Operand} (e : (a.eval E.gl x).isSome = true) : VR p (a.ev E.gl x) (b.eval x) := by
 cases hx : a.eval E.gl x with
 | none => rw [hx] at e; cases e
 | some v => simp only [AA.ev, hx, Option.getD_some]; exact eval_rel hw h hx
def AA.put (a : AA) (dst : Option Tmp) (v : Value) : Option AA :=
 match dst with
 | some d => if d < a.n then some { a with t := a.t.put d (some v) } else none
 | none => some a
theorem put_rel {p : Rn} {a a' : AA} {b : Act} {dst : Option Tmp} {v v' : Value} (h : ARL p a b) (e : a.put dst v = some a') (hv : VR p v v') : ARL p a' (b.put dst v') := by
 cases dst with
 | none => cases e; exact h
 | some d =>
  simp only [AA.put] at e
  split at e <;> cases e
  rename_i hd
  refine ⟨by simpa [Act.put] using h.size, fun i u hi => ?_, h.ds⟩
  simp only [Tr.get_put] at hi
  simp only [Act.put, Array.getD_eq_getD_getElem?, Array.getElem?_setIfInBounds]
  split at hi
  ·rename_i hid; subst hid; cases hi
   rw [if_pos rfl, if_pos (by rw [h.size]; exact hd)]
   exact ⟨hd, hv⟩
  ·rename_i hid
   rw [if_neg (fun e => hid e.symm)]
   have := h.val i u hi
   rw [Array.getD_eq_getD_getElem?] at this
   exact this
abbrev Chain := List PanicEntry
def ChR (p : Rn) : Chain → Chain → Prop
 | [], [] => True
 | x :: l, y :: m => VR p x.v y.v ∧ y.recovered = x.recovered ∧ y.goexit = x.goexit ∧ ChR p l m
 | _, _ => False
theorem ChR.le {p q : Rn} (l : Le p q) : ∀ {x y : Chain}, ChR p x y → ChR q x y
 | [], [], _ => trivial
 | _ :: _, _ :: _, h => ⟨h.1.le l, h.2.1, h.2.2.1, ChR.le l h.2.2.2⟩
abbrev Call := FuncId → Array Value → M (Except Chain Value)
def aput (a : AA) (dst : Option Tmp) (v : Value) : M (Except Chain AA) := fun s => match a.put dst v with
 | some a' => some (.ok a', s)
 | none => none
theorem Loc.put (a : AA) (dst : Option Tmp) (v : Value) : Loc (aput a dst v) := by
 cases h : a.put dst v with
 | none => exact Loc.no.congr fun s => by unfold aput; rw [h]; rfl
 | some a' => exact (Loc.ret (.ok a')).congr fun s => by unfold aput; rw [h]; rfl
def amake (a : AA) (dst : Option Tmp) (m : M Value) : M (Except Chain AA) := mb m fun v => aput a dst v
def anext (a : AA) (dst : Option Tmp) : Except Value Next → M (Except Chain AA)
 | .error x => mret (.error [{ v := x, recovered := false }])
 | .ok (.value v) => aput a dst v
 | .ok .skip => aput a dst undef
 | .ok _ => mno
def agen (E : Env) (a : AA) (o : Oper) : M (Except Chain AA) :=
 if opOk E.P (a.ev E.gl) o then mb (arun E.P E.G (execOp (a.ev E.gl) o)) (anext a o.dst) else mno
def aback (a : AA) (dst : Option Tmp) : Except Chain Value → M (Except Chain AA)
 | .ok v => aput a dst v
 | .error c => mret (.error c)
def acalled (E : Env) (call : Call) (a : AA) (dst : Option Tmp) (f : Value) (args : Array Value) : M (Except Chain AA) :=
 match f with
 | .func (.func g) first captured => match E.ext g with
  | some e => mb (arun E.P E.G (e ((first ++ args) ++ captured))) fun r => match r with
   | .ok v => aput a dst v
   | .error x => mret (.error [{ v := x, recovered := false }])
  | none => if (E.fn g).isSome then mb (call g ((first ++ args) ++ captured)) (aback a dst) else mno
 | _ => mno
def adefer (a : AA) (dst : Option Tmp) (f : Value) (args : Array Value) : M (Except Chain AA) :=
 match f with
 | .func fn first captured => if noYield fn then aput { a with ds := { target := .fn fn captured, args := first ++ args } :: a.ds } dst undef else mno
 | _ => mno
def isStr : Option TypeDesc → Bool
 | some .string => true
 | _ => false
def isApp : Builtin → Bool
 | .append => true
 | _ => false
def aappend (E : Env) (a : AA) (dst : Option Tmp) (args : Array Operand) (ts : Array TypeId) : M (Except Chain AA) :=
 if args.size == 2 && ts.size == 2 then amake a dst (aapp E.P E.G (ts.getD 0 0) (ts.getD 1 0) (a.ev E.gl (args.getD 0 default)) (a.ev E.gl (args.getD 1 default))) else mno
def astep (E : Env) (call : Call) (a : AA) (o : Oper) : M (Except Chain AA) :=
 if o.op.operands.all fun x => (a.eval E.gl x).isSome then
  match o.op with
  | .call { callee := .builtin b, args, argTypes } => if isApp b then aappend E a o.dst args argTypes else agen E a o
  | .call { callee := .value f, args, .. } => acalled E call a o.dst (a.ev E.gl f) (args.map (a.ev E.gl))
  | .defer { callee := .value f, args, .. } => adefer a o.dst (a.ev E.gl f) (args.map (a.ev E.gl))
  | .slice t x lo hi none => if known (a.ev E.gl x) then agen E a o else amake a o.dst (aslice E.P t (a.ev E.gl x) (lo.map (a.ev E.gl)) (hi.map (a.ev E.gl)))
  | .convert s d x => if convOk E.P s d (a.ev E.gl x) then agen E a o else if isStr (E.P.underlying s) then amake a o.dst (abytes E.P d (a.ev E.gl x)) else mno
  | _ => agen E a o
 else mno
theorem Loc.makeA {a : AA} {dst : Option Tmp} {m : M Value} (h : Loc m) : Loc (amake a dst m) := h.bind fun v => Loc.put _ _ _
theorem Loc.gen (E : Env) (a : AA) (o : Oper) : Loc (agen E a o) := by
 unfold agen
 refine .ite ((Loc.arun _ _ _).bind fun r => ?_) .no
 cases r with
 | error x => exact .ret _
 | ok n => cases n <;> first | exact .no | exact Loc.put _ _ _
theorem Loc.called {E : Env} {call : Call} (h : ∀ f args, Loc (call f args)) (a : AA) (dst : Option Tmp) (f : Value) (args : Array Value) : Loc (acalled E call a dst f args) := by
 unfold acalled
 split
 ·split
  ·refine (Loc.arun _ _ _).bind fun r => ?_
   cases r with
   | error c => exact .ret _
   | ok v => exact Loc.put _ _ _
  ·refine .ite ((h _ _).bind fun r => ?_) .no
   cases r with
   | error c => exact .ret _
   | ok v => exact Loc.put _ _ _
 ·exact .no
theorem Loc.step {E : Env} {call : Call} (h : ∀ f args, Loc (call f args)) (a : AA) (o : Oper) : Loc (astep E call a o) := by
 unfold astep
 refine .ite ?_ .no
 split
 ·refine .ite ?_ (Loc.gen _ _ _)
  unfold aappend
  exact .ite (Loc.makeA (Loc.app _ _ _ _ _ _)) .no
 ·exact Loc.called h _ _ _ _
 ·unfold adefer
  split
  ·exact .ite (Loc.put _ _ _) .no
  ·exact .no
 ·exact .ite (Loc.gen _ _ _) (Loc.makeA (Loc.slice _ _ _ _ _))
 ·exact .ite (Loc.gen _ _ _) (.ite (Loc.makeA (Loc.bytes _ _ _)) .no)
 ·exact Loc.gen _ _ _
theorem WE.le {E : Env} {B : Bs} {p q : Rn} {s s' : St} {w w' : World} (h : WE E B p s w) (l : Le p q) (k : WR (E.cx B) q s' w') : WE E B q s' w' :=
 ⟨k, fun g hg => (h.gl g hg).imp fun _ e => l _ _ e⟩
def EndR (q : Rn) : Except Chain Value → Ending → Prop
 | .ok v, .returned v' => VR q v v'
 | .error c, .panicked c' => ChR q c c'
 | _, _ => False
def CallOk (E : Env) (B : Bs) (call : Call) : Prop := ∀ f args s r s', call f args s = some (r, s') → (E.fn f).isSome = true → ∀ lo old p w args', WE E { B with lo, old } p s w → Arr (VR p) args args' →
 Calls E.P f args' w fun e w' => ∃ q, Le p q ∧ WE E { B with lo, old } q s' w' ∧ EndR q r e
structure Goes (E : Env) (B : Bs) (p : Rn) (s' : St) (a : AA) (o : Oper) (r : Except Chain AA) (b : Act) (K : Act → World → Prop) (Q : Exit → Act → World → Prop) : Prop where
 ok : ∀ q w' a' a0 b0 v v', Le p q → WE E B q s' w' → r = .ok a' → ARL q a0 b0 → a0.put o.dst v = some a' → VR q v v' → ((∀ c, o.op ≠ .defer c) → a0 = a ∧ b0 = b) → K (b0.put o.dst v') w'
 bad : ∀ q w' c c', Le p q → WE E B q s' w' → r = .error c → ChR q c c' → Q (.panic c') b w'
theorem mb_some {β γ : Type} {m : M β} {f : β → M γ} {s s' : St} {c : γ} (h : mb m f s = some (c, s')) : ∃ b s1, m s = some (b, s1) ∧ f b s1 = some (c, s') := by
 unfold mb at h
 cases e : m s with
 | none => rw [e] at h; cases h
 | some x => obtain ⟨b, s1⟩ := x; rw [e] at h; exact ⟨b, s1, rfl, h⟩
theorem aput_some {a : AA} {dst : Option Tmp} {v : Value} {s s' : St} {r : Except Chain AA} (h : aput a dst v s = some (r, s')) : ∃ a', a.put dst v = some a' ∧ r = .ok a' ∧ s' = s := by
 unfold aput at h
 cases e : a.put dst v with
 | none => rw [e] at h; cases h
 | some a' => rw [e] at h; cases h; exact ⟨a', rfl, rfl, rfl⟩
section
variable {E : Env} {B : Bs} {call : Call} {p : Rn} {s s' : St} {w : World} {a : AA} {b : Act} {o : Oper} {r : Except Chain AA} {K : Act → World → Prop} {Q : Exit → Act → World → Prop}
theorem gen_sound (hE : Good E) (hw : WE E B p s w) (ha : ARL p a b) (hop : ∀ x ∈ o.op.operands, VR p (a.ev E.gl x) (b.eval x)) (h : agen E a o s = some (r, s')) (hg : Goes E B p s' a o r b K Q) : o.wp E.P b w K Q := by
 unfold agen at h
 split at h <;> (try (cases h; done))
 rename_i hok
 obtain ⟨n, s1, h1, h2⟩ := mb_some h
 obtain ⟨q, w1, l1, hw1, hf⟩ := Sim.exec (C := (E.cx B)) hE.zok hok hop p (Le.refl _) s w hw.wr _ _ h1
 have hwe := hw.le l1 hw1
 unfold Oper.wp
 cases n with
 | error x =>
  obtain ⟨x', e1, hx⟩ := hf
  cases h2
  rw [show (execOp b.eval o).run E.P w = _ from e1, Oper.upon_panic]
  exact hg.bad q w1 _ _ l1 hwe rfl ⟨hx, rfl, rfl, trivial⟩
 | ok n =>
  obtain ⟨n', e1, hn⟩ := hf
  rw [show (execOp b.eval o).run E.P w = _ from e1]
  cases n <;> first | (cases h2; done) | skip
  ·rename_i v
   cases n' <;> first | exact hn.elim | skip
   rw [Oper.upon_value]
   obtain ⟨a', e2, rfl, rfl⟩ := aput_some h2
   exact hg.ok q w1 a' a b _ _ l1 hwe rfl (ha.le l1) e2 hn fun _ => ⟨rfl, rfl⟩
  ·cases n' <;> first | exact hn.elim | skip
   rw [Oper.upon_skip]
   obtain ⟨a', e2, rfl, rfl⟩ := aput_some h2
   exact hg.ok q w1 a' a b _ _ l1 hwe rfl (ha.le l1) e2 (VR.undef _) fun _ => ⟨rfl, rfl⟩
theorem make_sound {m : M Value} {e' : Sem Value} (hm : SimV (E.cx B) p m e') (hx : ∀ w, (execOp b.eval o).run E.P w = (e'.run E.P w).andThen fun v w' => .ok (.value v) w') (hw : WE E B p s w) (ha : ARL p a b) (h : amake a o.dst m s = some (r, s')) (hg : Goes E B p s' a o r b K Q) : o.wp E.P b w K Q := by
 obtain ⟨v, s1, h1, h2⟩ := mb_some h
 obtain ⟨q, w1, v', l1, hw1, hv, e1⟩ := hm s w hw.wr v s1 h1
 unfold Oper.wp
 rw [hx, show e'.run E.P w = _ from e1]
 simp only [Result.andThen_ok]
 rw [Oper.upon_value]
 obtain ⟨a', e2, rfl, rfl⟩ := aput_some h2
 exact hg.ok q w1 a' a b _ _ l1 (hw.le l1 hw1) rfl (ha.le l1) e2 hv fun _ => ⟨rfl, rfl⟩
theorem arr2 {α : Type} [Inhabited α] {x : Array α} (h : x.size = 2) : x = #[x.getD 0 default, x.getD 1 default] := by
 obtain ⟨l⟩ := x
 match l, h with
 | [u, v], _ => rfl
theorem step_sound (hE : Good E) (hcall : CallOk E B call) (hw : WE E B p s w) (ha : ARL p a b) (h : astep E call a o s = some (r, s')) (hg : Goes E B p s' a o r b K Q) : o.wp E.P b w K Q := by
 unfold astep at h
 split at h <;> (try (cases h; done))
 rename_i hall
 have hop : ∀ x ∈ o.op.operands, VR p (a.ev E.gl x) (b.eval x) := by
  intro x hx
  refine ev_rel hw ha ?_
  rw [Array.all_eq_true'] at hall
  exact hall x hx
 cases ho : o.op with
 | call c =>
  obtain ⟨cal, args, ts⟩ := c
  cases cal with
  | builtin bi =>
   simp only [ho] at h
   split at h
   ·rename_i hb
    have hb : bi = .append := by cases bi <;> first | rfl | cases hb
    subst hb
    unfold aappend at h
    split at h <;> (try (cases h; done))
    rename_i hsz
    simp only [Bool.and_eq_true, beq_iff_eq] at hsz
    have e1 := arr2 hsz.1
    have e2 : ts = #[ts.getD 0 0, ts.getD 1 0] := arr2 hsz.2
    have hx : VR p (a.ev E.gl (args.getD 0 default)) (b.eval (args.getD 0 default)) := hop _ (by rw [ho, e1]; simp [Op.operands, Call.operands])
    have hy : VR p (a.ev E.gl (args.getD 1 default)) (b.eval (args.getD 1 default)) := hop _ (by rw [ho, e1]; simp [Op.operands, Call.operands])
    refine make_sound (SimV.app (ty := o.type) hx hy) (fun w => ?_) hw ha h hg
    have e3 : args.map b.eval = #[b.eval (args.getD 0 default), b.eval (args.getD 1 default)] := (congrArg (Array.map b.eval) e1).trans (by simp only [List.map_toArray, List.map_cons, List.map_nil])
    simp only [execOp, ho, resolve, invoke, Go.builtin, Sem.run_bind, Sem.run_pure, Result.andThen_ok]
    rw [e3, ← e2]
   ·exact gen_sound hE hw ha hop h hg
  | invoke rc m => simp only [ho] at h; exact gen_sound hE hw ha hop h hg
  | value f =>
   simp only [ho] at h
   unfold acalled at h
   cases hf : a.ev E.gl f <;> rw [hf] at h <;> (try (cases h; done))
   rename_i fv first captured
   cases fv <;> (try (cases h; done))
   rename_i g
   dsimp only at h
   have hfv := hop f (by rw [ho]; simp [Op.operands, Call.operands])
   rw [hf] at hfv
   obtain ⟨first', captured', ef, _, hfi, hca⟩ := hfv.inv
   have hargs : Arr (VR p) (args.map (a.ev E.gl)) (args.map b.eval) := Arr.map fun x hx => hop x (by rw [ho]; simp [Op.operands, Call.operands, hx])
   cases hext : E.ext g with
   | some e0 =>
    rw [hext] at h
    dsimp only at h
    obtain ⟨rv, s1, h1, h2⟩ := mb_some h
    obtain ⟨q, w1, l1, hw1, hfit⟩ := (hE.ext g e0 hext).2 (E.cx B) rfl p _ _ ((hfi.append hargs).append hca) p (Le.refl _) s w hw.wr _ _ h1
    have hwe := hw.le l1 hw1
    have hen : (execOp b.eval o).run E.P w = ((e0 ((first' ++ args.map b.eval) ++ captured')).run E.P w).andThen fun v w' => .ok (.value v) w' := by
     simp only [execOp, ho, resolve, Sem.run_bind, ef, Deferred.ofValue, Sem.run_pure, Result.andThen_ok, invoke]
     exact (hE.ext g e0 hext).1 _ _
    unfold Oper.wp
    rw [hen]
    cases rv with
    | error x =>
     obtain ⟨x', e1, hx⟩ := hfit
     cases h2
     rw [show (e0 ((first' ++ args.map b.eval) ++ captured')).run E.P w = _ from e1]
     exact hg.bad q w1 _ _ l1 hwe rfl ⟨hx, rfl, rfl, trivial⟩
    | ok v =>
     obtain ⟨v', e1, hv⟩ := hfit
     rw [show (e0 ((first' ++ args.map b.eval) ++ captured')).run E.P w = _ from e1]
     obtain ⟨a', e2, rfl, rfl⟩ := aput_some h2
     exact hg.ok q w1 a' a b _ _ l1 hwe rfl (ha.le l1) e2 hv fun _ => ⟨rfl, rfl⟩
   | none =>
   rw [hext] at h
   dsimp only at h
   split at h <;> (try (cases h; done))
   rename_i hfn
   obtain ⟨rv, s1, h1, h2⟩ := mb_some h
   have hc := hcall g _ s rv s1 h1 hfn B.lo B.old p w _ hw ((hfi.append hargs).append hca)
   have hen : (execOp b.eval o).run E.P w = .ok (.enter g ((first' ++ args.map b.eval) ++ captured')) w := by
    obtain ⟨fn, hfn⟩ := Option.isSome_iff_exists.1 hfn
    have := (hE.call g fn hfn).2
    simp only [execOp, ho, resolve, Sem.run_bind, ef, Deferred.ofValue, Sem.run_pure, Result.andThen_ok, invoke]
    exact this _ _
   unfold Oper.wp
   rw [hen, Oper.upon_enter]
   refine hc.mono ?_
   rintro e w' ⟨q, l1, hw1, he⟩
   cases rv with
   | ok v =>
    cases e <;> first | exact he.elim | skip
    obtain ⟨a', e2, rfl, rfl⟩ := aput_some h2
    exact hg.ok q w' a' a b _ _ l1 hw1 rfl (ha.le l1) e2 he fun _ => ⟨rfl, rfl⟩
   | error c =>
    cases e <;> first | exact he.elim | skip
    cases h2
    exact hg.bad q w' c _ l1 hw1 rfl he
 | defer c =>
  obtain ⟨cal, args, ts⟩ := c
  cases cal with
  | builtin bi => simp only [ho] at h; exact gen_sound hE hw ha hop h hg
  | invoke rc m => simp only [ho] at h; exact gen_sound hE hw ha hop h hg
  | value f =>
   simp only [ho] at h
   unfold adefer at h
   cases hf : a.ev E.gl f <;> rw [hf] at h <;> (try (cases h; done))
   rename_i fn first captured
   dsimp only at h
   split at h <;> (try (cases h; done))
   rename_i hny
   have hfv := hop f (by rw [ho]; simp [Op.operands, Call.operands])
   rw [hf] at hfv
   obtain ⟨first', captured', ef, _, hfi, hca⟩ := hfv.inv
   have hargs : Arr (VR p) (args.map (a.ev E.gl)) (args.map b.eval) := Arr.map fun x hx => hop x (by rw [ho]; simp [Op.operands, Call.operands, hx])
   have hen : (execOp b.eval o).run E.P w = .ok (.defer { target := .fn fn captured', args := first' ++ args.map b.eval }) w := by
    simp only [execOp, ho, resolve, Sem.run_bind, ef, Deferred.ofValue, Sem.run_pure, Result.andThen_ok]
   unfold Oper.wp
   rw [hen, Oper.upon_defer]
   obtain ⟨a', e2, rfl, rfl⟩ := aput_some h
   exact hg.ok p w a' { a with ds := { target := .fn fn captured, args := first ++ args.map (a.ev E.gl) } :: a.ds } { b with defers := { target := .fn fn captured', args := first' ++ args.map b.eval } :: b.defers } _ _ (Le.refl _) hw rfl ⟨ha.size, ha.val, ⟨⟨fn, captured, captured', rfl, rfl, hny, hca, hfi.append hargs⟩, ha.ds⟩⟩ e2 (VR.undef _) fun h => absurd ho (h _)
 | slice t x lo hi mx =>
  cases mx with
  | some _ => simp only [ho] at h; exact gen_sound hE hw ha hop h hg
  | none =>
   simp only [ho] at h
   split at h
   ·exact gen_sound hE hw ha hop h hg
   ·rename_i hk
    have hx := hop x (by rw [ho]; simp [Op.operands])
    have OVm : ∀ (y : Option Operand), (∀ z, y = some z → z ∈ o.op.operands) → OV p (y.map (a.ev E.gl)) (y.map b.eval) := by
     intro y hy
     cases y with
     | none => trivial
     | some z => exact hop z (hy z rfl)
    refine make_sound (SimV.slice (by simpa using hk) hx (OVm lo fun z hz => ?_) (OVm hi fun z hz => ?_)) (fun w => ?_) hw ha h hg
    ·rw [ho]; simp [Op.operands, hz]
    ·rw [ho]; simp [Op.operands, hz]
    ·simp only [execOp, ho, Sem.run_bind, Sem.run_pure, Option.map_none]
 | convert sd d x =>
  simp only [ho] at h
  split at h
  ·exact gen_sound hE hw ha hop h hg
  ·split at h <;> (try (cases h; done))
   rename_i hs
   have hs : E.P.underlying sd = some .string := by
    unfold isStr at hs
    split at hs
    ·assumption
    ·cases hs
   have hx := hop x (by rw [ho]; simp [Op.operands])
   refine make_sound (SimV.bytes (sd := sd) hs hx) (fun w => ?_) hw ha h hg
   simp only [execOp, ho, Sem.run_bind, Sem.run_pure]
 | _ => simp only [ho] at h; exact gen_sound hE hw ha hop h hg
end
end Go.Ex
