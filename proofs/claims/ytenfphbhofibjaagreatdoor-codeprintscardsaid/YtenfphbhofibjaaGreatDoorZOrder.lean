/-
 Contracts of arena.Order and of what it calls (cmp.Compare at three types, cmp.Or): the order of two values by Kind, then N, then S; and that this order is a whole one.
 Conditions: as each theorem says.
-/
import Derived.Test.YtenfphbhofibjaaGreatDoorZBase
import Derived.Test.YtenfphbhofibjaaGreatDoorZMem
import Derived.WalkLawsBesides
import Derived.Shelf.SlSortCmp.QuietGrown
import Derived.Deep.RegionHeld3
set_option maxHeartbeats 1000000
set_option linter.unusedVariables false
namespace Go.Proofs.YtenfphbhofibjaaGreatDoor
open Go.ChangeShapes Go.WideShapes Go.ChangeAt Go.RowKit
def cmpI (a b : Int) : Int := if a < b then -1 else if b < a then 1 else 0
def cmpS (s t : ByteArray) : Int := if Op.bytesLess s.toList t.toList then -1 else if s.toList == t.toList then 0 else 1
def or3 (x y z : Int) : Int := if x != 0 then x else if y != 0 then y else z
theorem nanK (a : Int) (w : World) : Calls Tryz.prog 201 #[.int .u8 a] w fun e w' => e = .returned (.bool false) ∧ w' = w := by
 go_enter Tryz.func201, Tryz.ntmps201
 go_wp2
 go_ret
 exact ⟨ret_bool (by simp), rfl⟩
theorem nanN (a : Int) (w : World) : Calls Tryz.prog 202 #[.int .i64 a] w fun e w' => e = .returned (.bool false) ∧ w' = w := by
 go_enter Tryz.func202, Tryz.ntmps202
 go_wp2
 go_ret
 exact ⟨ret_bool (by simp), rfl⟩
theorem nanS (a : ByteArray) (w : World) : Calls Tryz.prog 203 #[.string a] w fun e w' => e = .returned (.bool false) ∧ w' = w := by
 go_enter Tryz.func203, Tryz.ntmps203
 go_wp2
 go_ret
 exact ⟨ret_bool (by simp), rfl⟩
theorem cmpK_any (a b : Int) (w : World) : Calls Tryz.prog 186 #[.int .u8 a, .int .u8 b] w fun e w' => e = .returned (.int .i64 (cmpI a b)) ∧ w' = w := by
 rcases Int.lt_trichotomy a b with h | h | h
 ·rw [cmpI, if_pos h]
  go_enter Tryz.func186, Tryz.ntmps186
  go_wp2_with (go_at_call 201; refine (nanK _ _).mono ?_; rintro e w ⟨rfl, rfl⟩)
  go_ret
  exact ⟨rfl, rfl⟩
 ·subst h
  rw [cmpI, if_neg (by omega), if_neg (by omega)]
  go_enter Tryz.func186, Tryz.ntmps186
  go_wp2_with (go_at_call 201; refine (nanK _ _).mono ?_; rintro e w ⟨rfl, rfl⟩)
  go_ret
  exact ⟨rfl, rfl⟩
 ·rw [cmpI, if_neg (by omega), if_pos h]
  have h' : ¬ a < b := by omega
  go_enter Tryz.func186, Tryz.ntmps186
  go_wp2_with (go_at_call 201; refine (nanK _ _).mono ?_; rintro e w ⟨rfl, rfl⟩)
  go_ret
  exact ⟨rfl, rfl⟩
theorem cmpN_any (a b : Int) (w : World) : Calls Tryz.prog 187 #[.int .i64 a, .int .i64 b] w fun e w' => e = .returned (.int .i64 (cmpI a b)) ∧ w' = w := by
 rcases Int.lt_trichotomy a b with h | h | h
 ·rw [cmpI, if_pos h]
  go_enter Tryz.func187, Tryz.ntmps187
  go_wp2_with (go_at_call 202; refine (nanN _ _).mono ?_; rintro e w ⟨rfl, rfl⟩)
  go_ret
  exact ⟨rfl, rfl⟩
 ·subst h
  rw [cmpI, if_neg (by omega), if_neg (by omega)]
  go_enter Tryz.func187, Tryz.ntmps187
  go_wp2_with (go_at_call 202; refine (nanN _ _).mono ?_; rintro e w ⟨rfl, rfl⟩)
  go_ret
  exact ⟨rfl, rfl⟩
 ·rw [cmpI, if_neg (by omega), if_pos h]
  have h' : ¬ a < b := by omega
  go_enter Tryz.func187, Tryz.ntmps187
  go_wp2_with (go_at_call 202; refine (nanN _ _).mono ?_; rintro e w ⟨rfl, rfl⟩)
  go_ret
  exact ⟨rfl, rfl⟩
theorem cmpS_any (s t : ByteArray) (w : World) : Calls Tryz.prog 188 #[.string s, .string t] w fun e w' => e = .returned (.int .i64 (cmpS s t)) ∧ w' = w := by
 unfold cmpS
 cases h : Op.bytesLess s.toList t.toList
 ·cases h2 : s.toList == t.toList
  ·go_enter Tryz.func188, Tryz.ntmps188
   go_wp2_with (go_at_call 203; refine (nanS _ _).mono ?_; rintro e w ⟨rfl, rfl⟩)
   go_ret
   exact ⟨rfl, rfl⟩
  ·go_enter Tryz.func188, Tryz.ntmps188
   go_wp2_with (go_at_call 203; refine (nanS _ _).mono ?_; rintro e w ⟨rfl, rfl⟩)
   go_ret
   exact ⟨rfl, rfl⟩
 ·go_enter Tryz.func188, Tryz.ntmps188
  go_wp2_with (go_at_call 203; refine (nanS _ _).mono ?_; rintro e w ⟨rfl, rfl⟩)
  go_ret
  exact ⟨rfl, rfl⟩
theorem or_any (b : Nat) (x y z : Int) (w : World) (h0 : w.cell? ⟨b, 0, none⟩ = some (.int .i64 x)) (h1 : w.cell? ⟨b, 1, none⟩ = some (.int .i64 y)) (h2 : w.cell? ⟨b, 2, none⟩ = some (.int .i64 z)) :
 Calls Tryz.prog 185 #[.slice (some ⟨b, 0, none⟩) 3 3] w fun e w' => e = .returned (.int .i64 (or3 x y z)) ∧ w' = w := by
 unfold or3
 cases gx : x != 0
 ·cases gy : y != 0
  ·cases gz : z != 0
   ·have hz : z = 0 := by simpa using gz
    simp only [Bool.false_eq_true, if_false, hz]
    go_enter Tryz.func185, Tryz.ntmps185
    go_wp2
    refine wp_loop_rounds 4 ?_
    rw [rounds_succ]
    go_wp2
    rw [rounds_succ]
    go_wp2
    rw [rounds_succ]
    go_wp2
    rw [rounds_succ]
    go_wp2
    go_ret
    exact ⟨rfl, rfl⟩
   ·go_enter Tryz.func185, Tryz.ntmps185
    go_wp2
    refine wp_loop_rounds 3 ?_
    rw [rounds_succ]
    go_wp2
    rw [rounds_succ]
    go_wp2
    rw [rounds_succ]
    go_wp2
    go_ret
    exact ⟨rfl, rfl⟩
  ·go_enter Tryz.func185, Tryz.ntmps185
   go_wp2
   refine wp_loop_rounds 2 ?_
   rw [rounds_succ]
   go_wp2
   rw [rounds_succ]
   go_wp2
   go_ret
   exact ⟨rfl, rfl⟩
 ·go_enter Tryz.func185, Tryz.ntmps185
  go_wp2
  refine wp_loop_rounds 1 ?_
  rw [rounds_succ]
  go_wp2
  go_ret
  exact ⟨rfl, rfl⟩
structure IsCmp {α : Type} (f : α → α → Int) : Prop where
 eq0 : ∀ a b, f a b = 0 ↔ a = b
 anti : ∀ a b, f b a = - f a b
 trans : ∀ a b c, f a b ≤ 0 → f b c ≤ 0 → f a c ≤ 0
theorem IsCmp.refl {α : Type} {f : α → α → Int} (h : IsCmp f) (a : α) : f a a = 0 := (h.eq0 a a).2 rfl
theorem IsCmp.strict {α : Type} {f : α → α → Int} (h : IsCmp f) (a b c : α) (h1 : f a b < 0) (h2 : f b c ≤ 0) : f a c < 0 := by
 have h3 := h.trans a b c (by omega) h2
 by_cases e : f a c = 0
 ·have := (h.eq0 a c).1 e; subst this
  have := h.anti a b; omega
 ·omega
def lexC {α β : Type} (f : α → α → Int) (g : β → β → Int) (p q : α × β) : Int := if f p.1 q.1 != 0 then f p.1 q.1 else g p.2 q.2
theorem IsCmp.lex {α β : Type} {f : α → α → Int} {g : β → β → Int} (hf : IsCmp f) (hg : IsCmp g) : IsCmp (lexC f g) := by
 have key : ∀ p q : α × β, (f p.1 q.1 ≠ 0 ∧ lexC f g p q = f p.1 q.1) ∨ (p.1 = q.1 ∧ lexC f g p q = g p.2 q.2) := by
  intro p q
  by_cases h : f p.1 q.1 = 0
  ·exact .inr ⟨(hf.eq0 _ _).1 h, by simp [lexC, h]⟩
  ·exact .inl ⟨h, by simp [lexC, h]⟩
 refine ⟨fun p q => ?_, fun p q => ?_, fun p q r h1 h2 => ?_⟩
 ·rcases key p q with ⟨h, e⟩ | ⟨h, e⟩
  ·rw [e]; exact ⟨fun x => absurd x h, fun x => by subst x; exact hf.refl _⟩
  ·rw [e, hg.eq0]; exact ⟨fun x => Prod.ext h x, fun x => by rw [x]⟩
 ·rcases key p q with ⟨h, e⟩ | ⟨h, e⟩
  ·rcases key q p with ⟨h', e'⟩ | ⟨h', e'⟩
   ·rw [e, e', hf.anti]
   ·exact absurd ((hf.eq0 _ _).2 h'.symm) h
  ·rcases key q p with ⟨h', e'⟩ | ⟨h', e'⟩
   ·exact absurd ((hf.eq0 _ _).2 h.symm) h'
   ·rw [e, e', hg.anti]
 ·rcases key p q with ⟨a, e⟩ | ⟨a, e⟩ <;> rcases key q r with ⟨b, e'⟩ | ⟨b, e'⟩ <;> rw [e] at h1 <;> rw [e'] at h2
  ·have := hf.strict p.1 q.1 r.1 (by omega) h2
   rcases key p r with ⟨c, e''⟩ | ⟨c, e''⟩
   ·rw [e'']; omega
   ·have := (hf.eq0 _ _).2 c; omega
  ·rcases key p r with ⟨c, e''⟩ | ⟨c, e''⟩
   ·rw [e'', ← b]; exact h1
   ·rw [← b] at c; exact absurd ((hf.eq0 _ _).2 c) a
  ·rcases key p r with ⟨c, e''⟩ | ⟨c, e''⟩
   ·rw [e'', a]; exact h2
   ·rw [a] at c; exact absurd ((hf.eq0 _ _).2 c) b
  ·rcases key p r with ⟨c, e''⟩ | ⟨c, e''⟩
   ·exact absurd ((hf.eq0 _ _).2 (a.trans b)) c
   ·rw [e'']; exact hg.trans _ _ _ h1 h2
theorem cmpI_three (a b : Int) : (a < b ∧ cmpI a b = -1) ∨ (a = b ∧ cmpI a b = 0) ∨ (b < a ∧ cmpI a b = 1) := by
 unfold cmpI
 rcases Int.lt_trichotomy a b with h | h | h
 ·exact .inl ⟨h, if_pos h⟩
 ·subst h; exact .inr (.inl ⟨rfl, by simp⟩)
 ·exact .inr (.inr ⟨h, by rw [if_neg (by omega), if_pos h]⟩)
theorem cmpI_is : IsCmp cmpI := by
 refine ⟨fun a b => ?_, fun a b => ?_, fun a b c h1 h2 => ?_⟩
 ·rcases cmpI_three a b with h | h | h <;> omega
 ·rcases cmpI_three a b with h | h | h <;> rcases cmpI_three b a with k | k | k <;> omega
 ·rcases cmpI_three a b with h | h | h <;> rcases cmpI_three b c with k | k | k <;> rcases cmpI_three a c with m | m | m <;> omega
theorem bl_irrefl (x : List UInt8) : Op.bytesLess x x = false := by
 induction x with
 | nil => rfl
 | cons a x ih => simp [Op.bytesLess, ih]
theorem bl_asymm (x y : List UInt8) : Op.bytesLess x y = true → Op.bytesLess y x = false := by
 induction x generalizing y with
 | nil => cases y <;> simp [Op.bytesLess]
 | cons a x ih =>
  cases y with
  | nil => simp [Op.bytesLess]
  | cons b y =>
   simp only [Op.bytesLess, Bool.or_eq_true, decide_eq_true_eq, Bool.and_eq_true, beq_iff_eq, Bool.or_eq_false_iff, decide_eq_false_iff_not, Bool.and_eq_false_imp]
   rintro (h | ⟨rfl, h⟩)
   ·refine ⟨fun h' => ?_, fun e => ?_⟩
    ·rw [UInt8.lt_iff_toNat_lt] at h h'; omega
    ·subst e; rw [UInt8.lt_iff_toNat_lt] at h; omega
   ·exact ⟨fun h' => by rw [UInt8.lt_iff_toNat_lt] at h'; omega, fun _ => ih y h⟩
theorem bl_total (x y : List UInt8) : Op.bytesLess x y = false → Op.bytesLess y x = false → x = y := by
 induction x generalizing y with
 | nil => cases y <;> simp [Op.bytesLess]
 | cons a x ih =>
  cases y with
  | nil => simp [Op.bytesLess]
  | cons b y =>
   simp only [Op.bytesLess, beq_iff_eq, Bool.or_eq_false_iff, decide_eq_false_iff_not, Bool.and_eq_false_imp]
   rintro ⟨h1, h2⟩ ⟨h3, h4⟩
   have e : a = b := by
    rw [UInt8.lt_iff_toNat_lt] at h1 h3
    exact UInt8.toNat_inj.1 (by omega)
   subst e
   rw [ih y (h2 rfl) (h4 rfl)]
theorem bl_trans (x y z : List UInt8) : Op.bytesLess x y = true → Op.bytesLess y z = true → Op.bytesLess x z = true := by
 induction x generalizing y z with
 | nil => cases y <;> cases z <;> simp [Op.bytesLess]
 | cons a x ih =>
  cases y with
  | nil => simp [Op.bytesLess]
  | cons b y =>
   cases z with
   | nil => simp [Op.bytesLess]
   | cons c z =>
    simp only [Op.bytesLess, Bool.or_eq_true, decide_eq_true_eq, Bool.and_eq_true, beq_iff_eq]
    rintro (h | ⟨rfl, h⟩) (k | ⟨rfl, k⟩)
    ·left; rw [UInt8.lt_iff_toNat_lt] at *; omega
    ·exact .inl h
    ·exact .inl k
    ·exact .inr ⟨rfl, ih _ _ h k⟩
def cmpL (x y : List UInt8) : Int := if Op.bytesLess x y then -1 else if x == y then 0 else 1
theorem cmpL_is : IsCmp cmpL := by
 have three : ∀ x y, (Op.bytesLess x y = true ∧ Op.bytesLess y x = false ∧ x ≠ y ∧ cmpL x y = -1) ∨ (x = y ∧ cmpL x y = 0) ∨ (Op.bytesLess x y = false ∧ Op.bytesLess y x = true ∧ x ≠ y ∧ cmpL x y = 1) := by
  intro x y
  cases h : Op.bytesLess x y
  ·by_cases e : x = y
   ·subst e; exact .inr (.inl ⟨rfl, by simp [cmpL, h]⟩)
   ·cases h2 : Op.bytesLess y x
    ·exact absurd (bl_total x y h h2) e
    ·exact .inr (.inr ⟨rfl, rfl, e, by simp [cmpL, h, e]⟩)
  ·refine .inl ⟨rfl, bl_asymm x y h, ?_, by simp [cmpL, h]⟩
   rintro rfl
   rw [bl_irrefl] at h; cases h
 refine ⟨fun x y => ?_, fun x y => ?_, fun x y z h1 h2 => ?_⟩
 ·rcases three x y with ⟨_, _, a, b⟩ | ⟨a, b⟩ | ⟨_, _, a, b⟩ <;> rw [b] <;> simp [a]
 ·rcases three x y with ⟨a1, a2, a, b⟩ | ⟨a, b⟩ | ⟨a1, a2, a, b⟩ <;> rcases three y x with ⟨c1, c2, c, d⟩ | ⟨c, d⟩ | ⟨c1, c2, c, d⟩ <;> rw [b, d] <;> first | rfl | exact absurd c.symm a | exact absurd a.symm c | (rw [a1] at c2; cases c2) | (rw [a2] at c1; cases c1)
 ·rcases three x y with ⟨a1, a2, a, b⟩ | ⟨a, b⟩ | ⟨a1, a2, a, b⟩
  ·rcases three y z with ⟨c1, c2, c, d⟩ | ⟨c, d⟩ | ⟨c1, c2, c, d⟩
   ·have := bl_trans _ _ _ a1 c1
    simp [cmpL, this]
   ·subst c; omega
   ·omega
  ·subst a; exact h2
  ·omega
def ordT : (Int × Int × List UInt8) → (Int × Int × List UInt8) → Int := lexC cmpI (lexC cmpI cmpL)
theorem ordT_is : IsCmp ordT := cmpI_is.lex (cmpI_is.lex cmpL_is)
def ordV (k n : Int) (s : ByteArray) (k' n' : Int) (s' : ByteArray) : Int := or3 (cmpI k k') (cmpI n n') (cmpS s s')
theorem three_grow (w : World) (a b c : Obj) : (((w.alloc a).alloc b).alloc c).drew = Go.Sort.grow (w.drewN 1) #[a, b, c] := by
 rw [Go.Sort.alloc_eq_grow, Go.Sort.alloc_eq_grow, Go.Sort.alloc_eq_grow, Go.Sort.grow_grow, Go.Sort.grow_grow]; rfl
theorem order_any (k n k' n' : Int) (s s' : ByteArray) (w : World) :
 Calls Tryz.prog 163 #[.agg #[.int .u8 k, .int .i64 n, .string s], .agg #[.int .u8 k', .int .i64 n', .string s']] w fun e w' => e = .returned (.int .i64 (ordV k n s k' n' s')) ∧ ∃ q os, w' = Go.Sort.grow (w.drewN q) os := by
 unfold ordV
 generalize hx : cmpI k k' = x
 generalize hy : cmpI n n' = y
 generalize hz : cmpS s s' = z
 have c1 := fun w => cmpK_any k k' w
 have c2 := fun w => cmpN_any n n' w
 have c3 := fun w => cmpS_any s s' w
 rw [hx] at c1
 rw [hy] at c2
 rw [hz] at c3
 have H1 : Hid (∀ w, Calls Tryz.prog 186 #[.int .u8 k, .int .u8 k'] w fun e w' => e = .returned (.int .i64 x) ∧ w' = w) := c1
 have H2 : Hid (∀ w, Calls Tryz.prog 187 #[.int .i64 n, .int .i64 n'] w fun e w' => e = .returned (.int .i64 y) ∧ w' = w) := c2
 have H3 : Hid (∀ w, Calls Tryz.prog 188 #[.string s, .string s'] w fun e w' => e = .returned (.int .i64 z) ∧ w' = w) := c3
 clear c1 c2 c3 hx hy hz
 go_enter Tryz.func163, Tryz.ntmps163
 go_wp2_with fail
 go_region_held3 (fun w' => w'.cell? ⟨w.heap.size, 0, none⟩ = some (.int .u8 k) ∧ w'.cell? ⟨w.heap.size, 1, none⟩ = some (.int .i64 n) ∧ w'.cell? ⟨w.heap.size, 2, none⟩ = some (.string s) ∧ w'.cell? ⟨w.heap.size + 1, 0, none⟩ = some (.int .u8 k') ∧ w'.cell? ⟨w.heap.size + 1, 1, none⟩ = some (.int .i64 n') ∧ w'.cell? ⟨w.heap.size + 1, 2, none⟩ = some (.string s'))
  (go_simp) (first | (go_at_call 186; refine (H1.out _).mono ?_; rintro e w' ⟨rfl, rfl⟩) | (go_at_call 187; refine (H2.out _).mono ?_; rintro e w' ⟨rfl, rfl⟩) | (go_at_call 188; refine (H3.out _).mono ?_; rintro e w' ⟨rfl, rfl⟩) | (go_at_call 185; refine (or_any _ x y z _ (by go_simp) (by go_simp) (by go_simp)).mono ?_; rintro e w' ⟨rfl, rfl⟩))
 all_goals
  go_wp2
  go_ret
  exact ⟨rfl, 1, _, three_grow _ _ _ _⟩
end Go.Proofs.YtenfphbhofibjaaGreatDoor
