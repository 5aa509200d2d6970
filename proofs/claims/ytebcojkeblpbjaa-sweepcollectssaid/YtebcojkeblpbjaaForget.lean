/-
  The cache's forget, with entries: those go whose proxy isn't there, or whose membrane is dead.
  Conditions: as each theorem says.
-/
import Derived.Test.YtebcojkeblpbjaaMakeL
import Derived.Test.YtebcojkeblpbjaaCollect
namespace Go.Proofs.Ytebcojkeblpbjaa
open Go.ChangeShapes Go.WideShapes Go.ChangeAt Go.RowKit Go.Maps Go.Sort Go.Lib
set_option linter.unusedVariables false
/-- Does an entry stay? -/
def kp (s : St) (dd : Int → Bool) (m p : Int) : Bool := (look s.slots p).isSome && !dd m
def stayF (s : St) (dd : Int → Bool) (f : Int → Int → Option Int) : Int → Int → Option Int := fun m t => (f m t).filter (kp s dd m)
/-- Of f those entries are there that are still to come, or stay. -/
structure Fg (s : St) (dd : Int → Bool) (f : Int → Int → Option Int) (left : Lit → Bool) (D : DataW Unit) : Prop where
  hit : ∀ m t p, f m t = some p → (left (kE m t) = true ∨ kp s dd m p = true) → Maps.has D (kE m t) = true ∧ ∀ z, D.atKey (kE m t) z = .lit (.int .u64 p)
  all : ∀ kl, Maps.has D kl = true → ∃ m t p, kl = kE m t ∧ f m t = some p ∧ (left kl = true ∨ kp s dd m p = true)
theorem Fg.start {w : World} {c n : Nat} {s : St} {dd : Int → Bool} {f : Int → Int → Option Int} {D : DataW Unit} (h : ChD w c n f D) : Fg s dd f (Maps.has D) D :=
  ⟨fun m t p h1 _ => h.hit m t p h1, fun kl h1 => by obtain ⟨m, t, p, e, h2⟩ := h.all kl h1; exact ⟨m, t, p, e, h2, .inl h1⟩⟩
theorem kE_key (m t : Int) : WideAt.IsKeyLit (kE m t) := by simp [kE, WideAt.IsKeyLit]
theorem same_key {m t : Int} {z : Lit} (h : z ≠ kE m t) : z.sameKey (kE m t) = false := sameKey_ne h
theorem Fg.stays {s : St} {dd : Int → Bool} {f : Int → Int → Option Int} {left : Lit → Bool} {D : DataW Unit} {m t p : Int} (h : Fg s dd f left D) (hf : f m t = some p) (hw : ∀ m t p, f m t = some p → Ew m t) (hk : kp s dd m p = true) : Fg s dd f (fun z => left z && !z.sameKey (kE m t)) D := by
  refine ⟨fun m' t' p' h1 h2 => ?_, fun kl h1 => ?_⟩
  · refine h.hit m' t' p' h1 ?_
    rcases h2 with h2 | h2
    · left; simp at h2; exact h2.1
    · exact .inr h2
  · obtain ⟨m', t', p', e, h2, h3⟩ := h.all kl h1
    refine ⟨m', t', p', e, h2, ?_⟩
    by_cases e2 : kl = kE m t
    · right
      rw [e2] at e
      obtain ⟨rfl, rfl⟩ := kE_inj (hw _ _ _ hf) (hw _ _ _ h2) e
      rw [hf] at h2
      cases h2
      exact hk
    · rcases h3 with h3 | h3
      · left; simp [h3, same_key e2]
      · exact .inr h3
theorem Fg.goes {s : St} {dd : Int → Bool} {f : Int → Int → Option Int} {left : Lit → Bool} {D : DataW Unit} {m t p : Int} (h : Fg s dd f left D) (hf : f m t = some p) (hw : ∀ m t p, f m t = some p → Ew m t) (hk : kp s dd m p = false) : Fg s dd f (fun z => left z && !z.sameKey (kE m t)) (D.del (kE m t)) := by
  refine ⟨fun m' t' p' h1 h2 => ?_, fun kl h1 => ?_⟩
  · have hne : kE m' t' ≠ kE m t := by
      intro e
      obtain ⟨rfl, rfl⟩ := kE_inj (hw _ _ _ h1) (hw _ _ _ hf) e
      rw [hf] at h1
      cases h1
      rw [hk] at h2
      rcases h2 with h2 | h2
      · simp only [WideAt.sameKey_self (kE_key m' t')] at h2; simp at h2
      · cases h2
    obtain ⟨x, y⟩ := h.hit m' t' p' h1 (by
      rcases h2 with h2 | h2
      · left; simp at h2; exact h2.1
      · exact .inr h2)
    exact ⟨by rw [has_del_other hne]; exact x, fun z => by rw [atKey_del_other hne]; exact y z⟩
  · by_cases e2 : kl = kE m t
    · rw [e2, has_del_same] at h1; cases h1
    · rw [has_del_other e2] at h1
      obtain ⟨m', t', p', e, h2, h3⟩ := h.all kl h1
      refine ⟨m', t', p', e, h2, ?_⟩
      rcases h3 with h3 | h3
      · left; simp [h3, same_key e2]
      · exact .inr h3
theorem Fg.done {w : World} {c n : Nat} {s : St} {dd : Int → Bool} {f : Int → Int → Option Int} {left : Lit → Bool} {D : DataW Unit} (h : Fg s dd f left D) (hl : ∀ kl, left kl = false) (hr : ∀ m t p, f m t = some p → Ew m t ∧ 0 ≤ p ∧ p ≤ 18446744073709551615)
    (ho : w.ownsMap Try.prog 70 (plainElem Try.prog 28) c n D) : ChD w c n (stayF s dd f) D := by
  refine ⟨ho, fun m t p h1 => ?_, fun m t p h1 => ?_, fun kl h1 => ?_⟩
  · unfold stayF at h1
    exact hr m t p (Option.filter_eq_some_iff.1 h1).1
  · unfold stayF at h1
    obtain ⟨a, b⟩ := Option.filter_eq_some_iff.1 h1
    exact h.hit m t p a (.inr b)
  · obtain ⟨m, t, p, e, h2, h3⟩ := h.all kl h1
    refine ⟨m, t, p, e, ?_⟩
    rw [hl] at h3
    unfold stayF
    exact Option.filter_eq_some_iff.2 ⟨h2, by simpa using h3⟩
/-- What the step of the range has found. -/
theorem Fg.found {s : St} {dd : Int → Bool} {f : Int → Int → Option Int} {left : Lit → Bool} {D : DataW Unit} {key v : Value} {kl : Lit} {y : DataW Unit × List MemPlace} (h : Fg s dd f left D) (hw : ∀ m t p, f m t = some p → Ew m t) (hkey : keyOf Try.prog 70 key = some kl) (hv : plainElem Try.prog 28 v = some y) (hat : ∀ zd, D.atKey kl zd = y.1) (hlk : left kl = true) :
    ∃ m t p, f m t = some p ∧ kl = kE m t ∧ key = .agg #[.int .i64 m, .int .u64 t] ∧ v = .int .u64 p := by
  have hh : Maps.has D kl = true := by
    cases e : Maps.has D kl
    · have h1 := (hat .nil).symm.trans (atKey_of_not_has e .nil)
      have h2 := (hat (.agg [])).symm.trans (atKey_of_not_has e (.agg []))
      rw [h1] at h2
      cases h2
    · rfl
  obtain ⟨m, t, p, e, h1, _⟩ := h.all kl hh
  have w1 := hw _ _ _ h1
  obtain ⟨a, hva, hy, _⟩ := plainElem_int_inv Try.underlying28 hv
  have h3 := (h.hit m t p h1 (.inl (by rw [← e]; exact hlk))).2 .nil
  rw [← e, hat, hy] at h3
  simp at h3
  subst h3
  refine ⟨m, t, a, h1, e, ?_, hva⟩
  have k2 := keyE m t w1.1 (by have := w1.2.1; omega) w1.2.2.1 w1.2.2.2
  rw [e] at hkey
  exact lawE.inj hkey k2
theorem below_grown {W W' : World} (h : Below W.heap.size W W') (row : Option Nat) : W.grownBy W' row := ⟨h.os, h.tape, h.output, h.size, fun k hk _ => h.block k hk⟩
theorem two_cells {w : World} {b : Nat} {x y : Value} {t : TypeId} (h : w.heap[b]? = some (.cells #[x, y] t (0, 0))) : w.cell? ⟨b, 0, none⟩ = some x ∧ w.cell? ⟨b, 1, none⟩ = some y ∧ (∀ j, w.frozen? ⟨b, j, none⟩ = false) := by
  refine ⟨?_, ?_, fun j => frozen_of_row _ _ _ _ _ h⟩ <;> (rw [cell_of_row _ _ _ _ _ _ h]; rfl)
set_option maxRecDepth 100000 in
set_option maxHeartbeats 2000000 in
theorem forget_any {base ab cb dg n : Nat} {lb : Array Value} {w : World} {s : St} {dd : Int → Bool} {f : Int → Int → Option Int} (hA : Arn base ab w s) (hC : Ch w cb n f) (hD : ∀ W, w.grownBy W (some cb) → DeadF W dg lb dd) :
    Calls Try.prog 49 #[.map (some cb), .pointer (some ⟨ab, 0, none⟩), .func (.func dg) #[] lb] w fun e w' => e = .returned (.tuple #[]) ∧ Ch w' cb n (stayF s dd f) ∧ w.grownBy w' (some cb) := by
  obtain ⟨D0, hC⟩ := hC
  have ho := hC.own
  have hRG : Hid (∀ m t p, f m t = some p → Ew m t ∧ 0 ≤ p ∧ p ≤ 18446744073709551615) := hC.rng
  have hST : Fg s dd f (Maps.has D0) D0 := Fg.start hC
  have hcl := ho.lt
  obtain ⟨es0, clock0, hcb0, _⟩ := ho
  have HAN : Hid (∀ W, w.grownBy W (some cb) → Arn base ab W s) := fun W hg => hA.kept fun j cs t hj ht => hg.block j (lt_of_block hj) (fun e => by cases e; rw [hcb0] at hj; cases hj)
  have HDN : Hid (∀ W, w.grownBy W (some cb) → ∀ x, 0 ≤ x → x ≤ 3 → Calls Try.prog dg (#[.int .i64 x] ++ lb) W fun e w' => e = .returned (.bool (dd x)) ∧ ∃ q, w' = W.drewN q) := fun W hg x h0 h1 => (hD W hg).2 W x (Below.refl _ _) h0 h1
  have eD := (hD w (World.grownBy.refl w _)).1
  have ho := hC.own
  clear hA hC hD hcb0
  go_enter Try.func49, Try.ntmps49
  go_wp2_with (at_range; refine wpList_range_own _ rfl _ 55 rfl 70 28 keyedE Try.underlying55 _ cb n _ rfl ho ?_; intro w0 hrg0 hg0 hs0)
  go_frame
  go_loopw [6] (fun _ wr => ∃ (left : Lit → Bool) (cnt : Nat) (D : DataW Unit), wr.ranges Try.prog 70 (plainElem Try.prog 28) cb w.heap.size n D left cnt ∧ Fg s dd f left D ∧ w.grownBy wr (some cb))
    (fun _ wr => wr.rangeLeft cb w.heap.size)
  case atStart => exact ⟨_, _, _, hrg0, hST, hg0.but _⟩
  case round =>
    obtain ⟨left, cnt, D, hrg, hF, hgw⟩ := hrel
    have HF : Hid (Fg s dd f left D) := hF
    clear hF hST hrg0 hg0 hs0 ho
    go_wp2_with (at_next; refine wpList_next_ranges _ rfl _ rfl 70 keyedE (plainElem Try.prog 28) (id : Value → Value) (id : Value → Value) (fun key kl h => ⟨key, rfl⟩) (fun v y h => ⟨v, rfl⟩) cb w.heap.size n _ _ _ rfl hrg ?_ ?_)
    · intro _ hl0
      go_wp2
      go_end0
      exact ⟨rfl, ⟨D, HF.out.done hl0 hRG.out hrg.owns⟩, hgw⟩
    · intro key v kl yd yp w1 cnt1 hkey hlk hv hat hrg1 hlt hg1 hs1 hen
      obtain ⟨m, t, p, hf, hkl, hk, hv'⟩ := HF.out.found (y := (yd, yp)) (fun m t p h => (hRG.out m t p h).1) hkey hv hat hlk
      obtain ⟨⟨e1, e2, e3, e4⟩, p0, p1⟩ := hRG.out m t p hf
      change key = _ at hk
      change v = _ at hv'
      subst hk hv' hkl
      have HGW : Hid (w.grownBy w1 (some cb)) := hgw.andThen hg1 (fun j hj => by cases hj; exact Or.inl (Nat.le_refl _))
      have HGA : Hid (∀ W, Below w1.heap.size w1 W → w.grownBy W (some cb)) := fun W hb => HGW.out.andThen (below_grown hb none) (fun j hj => by cases hj)
      have HFF : Hid (f m t = some p) := hf
      have HKL : Hid (keyOf Try.prog 70 (.agg #[.int .i64 m, .int .u64 t]) = some (kE m t)) := hkey
      have HR1 : Hid (w1.ranges Try.prog 70 (plainElem Try.prog 28) cb w.heap.size n D (fun z => left z && !z.sameKey (kE m t)) cnt1) := hrg1
      have HRO : Hid (wr.ranges Try.prog 70 (plainElem Try.prog 28) cb w.heap.size n D left cnt) := hrg
      have hbA : ∀ o, Below w1.heap.size w1 (w1.alloc o) := fun o => (Below.refl _ _).alloc (Nat.le_refl _) _
      clear hf hkey hlk hv hat hrg1 hrg hg1 hgw hs1
      cases hlo : look s.slots p with
      | none =>
        have HK : Hid (kp s dd m p = false) := by unfold Hid kp; rw [hlo]; rfl
        have HG : Hid (∀ o, Calls Try.prog 28 #[.pointer (some ⟨ab, 0, none⟩), .int .u64 p] (w1.alloc o) fun e w' => e = .returned (.pointer none) ∧ ∃ q, w' = (w1.alloc o).drewN q) := fun o => get_ptr (HAN.out _ (HGA.out _ (hbA o))) p p0 p1 none hlo
        clear hlo
        go_wp2_with fail
        refine (HG.out _).mono ?_
        rintro e w5 ⟨rfl, q, hw5⟩
        have hb5 : Below w1.heap.size w1 w5 := by rw [hw5]; exact below_drewN ((Below.refl _ _).alloc (Nat.le_refl _) _) q
        have hcp : w5.heap[w1.heap.size]? = some (.cells #[.int .i64 m, .int .u64 t] 70 (0, 0)) := by rw [hw5]; exact heap_alloc_new w1 _
        obtain ⟨g0, g1, gf⟩ := two_cells hcp
        have hrg5 := HR1.out.kept (below_grown hb5 none) (by simp) (by simp)
        have hk5 := HKL.out
        clear hw5 HG hcp
        go_wp2_with (at_delete; refine wpList_delete_ranges _ rfl _ _ 55 70 rfl 28 keyedE Try.underlying55 _ cb w.heap.size n _ _ _ rfl hrg5 _ _ rfl hk5 ?_; intro w6 cnt6 hrg6 hle hturn; go_frame)
        rw [strike_twice] at hrg6
        go_roundw
        case rel => exact ⟨_, cnt6, _, hrg6, HF.out.goes HFF.out (fun m t p h => (hRG.out m t p h).1) HK.out, (HGA.out _ hb5).andThen hturn.grown (fun j hj => by cases hj; exact Or.inr rfl)⟩
        case measure => rw [hrg6.left_eq, HRO.out.left_eq]; omega
      | some ob =>
        have HG : Hid (∀ o, Calls Try.prog 28 #[.pointer (some ⟨ab, 0, none⟩), .int .u64 p] (w1.alloc o) fun e w' => e = .returned (.pointer (some ⟨ob.1, 0, none⟩)) ∧ ∃ q, w' = (w1.alloc o).drewN q) := fun o => get_ptr (HAN.out _ (HGA.out _ (hbA o))) p p0 p1 (some ob) hlo
        cases hdd : dd m with
        | true =>
          have HK : Hid (kp s dd m p = false) := by unfold Hid kp; rw [hlo, hdd]; rfl
          have HC : Hid (∀ W : World, Below w1.heap.size w1 W → Calls Try.prog dg (#[.int .i64 m] ++ lb) W fun e w' => e = .returned (.bool true) ∧ ∃ q, w' = W.drewN q) := fun W hW => by have := HDN.out W (HGA.out W hW) m e1 e2; rw [hdd] at this; exact this
          clear hlo hdd
          go_wp2_with fail
          refine (HG.out _).mono ?_
          rintro e w5 ⟨rfl, q, hw5⟩
          have hb5 : Below w1.heap.size w1 w5 := by rw [hw5]; exact below_drewN ((Below.refl _ _).alloc (Nat.le_refl _) _) q
          have hcp : w5.heap[w1.heap.size]? = some (.cells #[.int .i64 m, .int .u64 t] 70 (0, 0)) := by rw [hw5]; exact heap_alloc_new w1 _
          obtain ⟨g0, g1, gf⟩ := two_cells hcp
          clear hw5 HG
          go_wp2_with fail
          refine (HC.out _ hb5).mono ?_
          rintro e w6 ⟨rfl, q6, hw6⟩
          have hb6 : Below w1.heap.size w1 w6 := by rw [hw6]; exact below_drewN hb5 q6
          have hcp6 : w6.heap[w1.heap.size]? = some (.cells #[.int .i64 m, .int .u64 t] 70 (0, 0)) := by rw [hw6]; exact hcp
          have hrg5 := HR1.out.kept (below_grown hb6 none) (by simp) (by simp)
          clear g0 g1 gf hcp hb5 hw6 HC
          obtain ⟨g0, g1, gf⟩ := two_cells hcp6
          have hk5 := HKL.out
          clear hcp6
          go_wp2_with (at_delete; refine wpList_delete_ranges _ rfl _ _ 55 70 rfl 28 keyedE Try.underlying55 _ cb w.heap.size n _ _ _ rfl hrg5 _ _ rfl hk5 ?_; intro w7 cnt7 hrg7 hle hturn; go_frame)
          rw [strike_twice] at hrg7
          go_roundw
          case rel => exact ⟨_, cnt7, _, hrg7, HF.out.goes HFF.out (fun m t p h => (hRG.out m t p h).1) HK.out, (HGA.out _ hb6).andThen hturn.grown (fun j hj => by cases hj; exact Or.inr rfl)⟩
          case measure => rw [hrg7.left_eq, HRO.out.left_eq]; omega
        | false =>
          have HK : Hid (kp s dd m p = true) := by unfold Hid kp; rw [hlo, hdd]; rfl
          have HC : Hid (∀ W : World, Below w1.heap.size w1 W → Calls Try.prog dg (#[.int .i64 m] ++ lb) W fun e w' => e = .returned (.bool false) ∧ ∃ q, w' = W.drewN q) := fun W hW => by have := HDN.out W (HGA.out W hW) m e1 e2; rw [hdd] at this; exact this
          clear hlo hdd
          go_wp2_with fail
          refine (HG.out _).mono ?_
          rintro e w5 ⟨rfl, q, hw5⟩
          have hb5 : Below w1.heap.size w1 w5 := by rw [hw5]; exact below_drewN ((Below.refl _ _).alloc (Nat.le_refl _) _) q
          have hcp : w5.heap[w1.heap.size]? = some (.cells #[.int .i64 m, .int .u64 t] 70 (0, 0)) := by rw [hw5]; exact heap_alloc_new w1 _
          obtain ⟨g0, g1, gf⟩ := two_cells hcp
          clear hw5 HG
          go_wp2_with fail
          refine (HC.out _ hb5).mono ?_
          rintro e w6 ⟨rfl, q6, hw6⟩
          have hb6 : Below w1.heap.size w1 w6 := by rw [hw6]; exact below_drewN hb5 q6
          have hcp6 : w6.heap[w1.heap.size]? = some (.cells #[.int .i64 m, .int .u64 t] 70 (0, 0)) := by rw [hw6]; exact hcp
          have hrg5 := HR1.out.kept (below_grown hb6 none) (by simp) (by simp)
          clear g0 g1 gf hcp hb5 hw6 HC
          obtain ⟨g0, g1, gf⟩ := two_cells hcp6
          have hk5 := HKL.out
          clear hcp6
          go_wp2_with fail
          go_roundw
          case rel => exact ⟨_, cnt1, _, hrg5, HF.out.stays HFF.out (fun m t p h => (hRG.out m t p h).1) HK.out, HGA.out _ hb6⟩
          case measure => rw [hrg5.left_eq, HRO.out.left_eq]; omega
end Go.Proofs.Ytebcojkeblpbjaa
