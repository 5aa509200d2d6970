/-
  The walk of ArenaOrders (promise P3.3): it returns true for every two values, and writes nothing that was there before the call.
  Conditions: the arguments fit their kinds.
-/
import Derived.Test.YtbbmcggalffecaaAwake
import Derived.Test.YtbbmcggalffecaaOrder
import Derived.Deep.DeepCutAuto
namespace Go.Proofs.Ytbbmcggalffecaa
open Go.ChangeShapes Go.WideShapes Go.ChangeAt Go.RowKit
set_option linter.unusedVariables false
theorem below_grow (w : World) (q : Nat) (os : Array Obj) : Below w.heap.size w (Go.Sort.grow (w.drewN q) os) :=
  ⟨rfl, rfl, rfl, by show w.heap.size ≤ (w.heap ++ os).size; simp, fun k hk => Go.Sort.heap_grow_old (w.drewN q) os hk⟩
theorem order_below (k n k' n' r : Int) (s s' : ByteArray) (w : World) (hr : ordV k n s k' n' s' = r) :
    Calls Try.prog 14 #[.agg #[.int .u8 k, .int .i64 n, .string s], .agg #[.int .u8 k', .int .i64 n', .string s']] w fun e w' => e = .returned (.int .i64 r) ∧ Below w.heap.size w w' := by
  subst hr
  exact (order_any k n k' n' s s' w).mono fun e w' ⟨he, q, os, hw⟩ => ⟨he, by rw [hw]; exact below_grow w q os⟩
theorem bcell {W w1 : World} (hb : Below W.heap.size W w1) : (∀ b o, b < W.heap.size → w1.cell? ⟨b, o, none⟩ = W.cell? ⟨b, o, none⟩) ∧ (∀ b o, b < W.heap.size → w1.frozen? ⟨b, o, none⟩ = W.frozen? ⟨b, o, none⟩) :=
  ⟨fun b o h => hb.cell (p := ⟨b, o, none⟩) h, fun b o h => hb.frozen (p := ⟨b, o, none⟩) h⟩
/-- Three cells of a block: a value in memory. -/
def VAt (w : World) (b : Nat) (k n : Int) (s : ByteArray) : Prop := w.cell? ⟨b, 0, none⟩ = some (.int .u8 k) ∧ w.cell? ⟨b, 1, none⟩ = some (.int .i64 n) ∧ w.cell? ⟨b, 2, none⟩ = some (.string s)
theorem VAt.lt {w : World} {b : Nat} {k n : Int} {s : ByteArray} (h : VAt w b k n s) : b < w.heap.size := World.block_lt_of_cell? _ _ h.1
theorem VAt.below {w w' : World} {b : Nat} {k n : Int} {s : ByteArray} (h : VAt w b k n s) (hb : Below w.heap.size w w') : VAt w' b k n s :=
  ⟨(hb.cell h.lt).trans h.1, (hb.cell h.lt).trans h.2.1, (hb.cell h.lt).trans h.2.2⟩
theorem keep6 {w W : World} {p q : Nat} {k n k' n' : Int} {s s' : ByteArray} (x0 : w.cell? ⟨p, 0, none⟩ = some (.int .u8 k)) (x1 : w.cell? ⟨p, 1, none⟩ = some (.int .i64 n)) (x2 : w.cell? ⟨p, 2, none⟩ = some (.string s)) (y0 : w.cell? ⟨q, 0, none⟩ = some (.int .u8 k')) (y1 : w.cell? ⟨q, 1, none⟩ = some (.int .i64 n')) (y2 : w.cell? ⟨q, 2, none⟩ = some (.string s')) (hb : Below w.heap.size w W) :
    W.cell? ⟨p, 0, none⟩ = some (.int .u8 k) ∧ W.cell? ⟨p, 1, none⟩ = some (.int .i64 n) ∧ W.cell? ⟨p, 2, none⟩ = some (.string s) ∧ W.cell? ⟨q, 0, none⟩ = some (.int .u8 k') ∧ W.cell? ⟨q, 1, none⟩ = some (.int .i64 n') ∧ W.cell? ⟨q, 2, none⟩ = some (.string s') :=
  have X := VAt.below ⟨x0, x1, x2⟩ hb
  have Y := VAt.below ⟨y0, y1, y2⟩ hb
  ⟨X.1, X.2.1, X.2.2, Y.1, Y.2.1, Y.2.2⟩
set_option maxRecDepth 100000 in
set_option maxHeartbeats 2000000 in
theorem orders_f (k n k' n' : Int) (s s' : ByteArray) (w : World) (hk0 : 0 ≤ k) (hk1 : k ≤ 255) (hn0 : -9223372036854775808 ≤ n) (hn1 : n ≤ 9223372036854775807)
    (hk0' : 0 ≤ k') (hk1' : k' ≤ 255) (hn0' : -9223372036854775808 ≤ n') (hn1' : n' ≤ 9223372036854775807) :
    Calls Try.prog 4 #[.agg #[.int .u8 k, .int .i64 n, .string s], .agg #[.int .u8 k', .int .i64 n', .string s'], .bool false] w fun e w' => e = .returned (.bool true) ∧ Below w.heap.size w w' := by
  go_enter Try.func4, Try.ntmps4
  go_wp2_with fail
  refine (awake3 _).mono ?_
  rintro e w1 ⟨rfl, B1⟩
  have hsz := B1.size
  simp at hsz
  have X1 : VAt w1 w.heap.size k n s := VAt.below (w := (w.alloc (.cells #[.int .u8 k, .int .i64 n, .string s] 39)).alloc (.cells #[.int .u8 k', .int .i64 n', .string s'] 39)) ⟨by simp, by simp, by simp⟩ B1
  have Y1 : VAt w1 (w.heap.size + 1) k' n' s' := VAt.below (w := (w.alloc (.cells #[.int .u8 k, .int .i64 n, .string s] 39)).alloc (.cells #[.int .u8 k', .int .i64 n', .string s'] 39)) ⟨by simp, by simp, by simp⟩ B1
  have B2 : Below w.heap.size w w1 := (((Below.refl _ _).alloc (Nat.le_refl _) _).alloc (by simp) _).trans (B1.mono (by simp; omega))
  clear B1
  obtain ⟨x0, x1, x2⟩ := X1
  obtain ⟨y0, y1, y2⟩ := Y1
  go_upto_region 5 with fail
  go_cut [7, 8] (fun x y wc => ∃ (b7 b8 : Nat) (K N K' N' : Int) (S S' : ByteArray), x = .pointer (some ⟨b7, 0, none⟩) ∧ y = .pointer (some ⟨b8, 0, none⟩) ∧ Below w.heap.size w wc ∧ VAt wc b7 K N S ∧ VAt wc b8 K' N' S')
  case first =>
    go_region_held3 (fun w' => w'.cell? ⟨w.heap.size, 0, none⟩ = some (.int .u8 k) ∧ w'.cell? ⟨w.heap.size, 1, none⟩ = some (.int .i64 n) ∧ w'.cell? ⟨w.heap.size, 2, none⟩ = some (.string s) ∧ w'.cell? ⟨w.heap.size + 1, 0, none⟩ = some (.int .u8 k') ∧ w'.cell? ⟨w.heap.size + 1, 1, none⟩ = some (.int .i64 n') ∧ w'.cell? ⟨w.heap.size + 1, 2, none⟩ = some (.string s'))
      (exact keep6 x0 x1 x2 y0 y1 y2 (by repeat (first | exact Below.refl _ _ | refine Below.drew ?_ | refine Below.alloc ?_ (by simp <;> omega) _))) (first | (go_at_call 13; refine (make_any _ _ _ _ (by omega) (by omega) (by omega) (by omega)).mono ?_; rintro e w' ⟨rfl, rfl⟩))
    all_goals
      go_wp2_with fail
      go_meet
      case rel =>
        refine ⟨_, _, k % 5, mkN k n, k' % 5, mkN k' n', mkS k s, mkS k' s', rfl, rfl, ?_, ⟨by go_simp, by go_simp, by go_simp⟩, by go_simp, by go_simp, by go_simp⟩
        refine Below.drew ?_
        repeat (first | exact B2 | (refine Below.alloc ?_ (by (try simp) <;> omega) _))
  case rest =>
    obtain ⟨b7, b8, K, N, K', N', S, S', rfl, rfl, hb, X, Y⟩ := hcut
    obtain ⟨u0, u1, u2⟩ := X
    obtain ⟨v0, v1, v2⟩ := Y
    have l7 := World.block_lt_of_cell? _ _ u0
    have l8 := World.block_lt_of_cell? _ _ v0
    clear x0 x1 x2 y0 y1 y2 B2 hsz
    obtain ⟨r, hr⟩ : ∃ r, ordV K N S K' N' S' = r := ⟨_, rfl⟩
    have HR : Hid (ordV K N S K' N' S' = r) := hr
    go_wp2_with fail
    refine (order_below K N K' N' r S S' _ HR.out).mono ?_
    rintro e wd ⟨rfl, hd⟩
    obtain ⟨hc, hf⟩ := bcell hd
    have hbd := hb.trans (hd.mono hb.size)
    clear hd hb hf
    rw [ordV_is] at hr
    rcases cmpI_three K K' with ⟨a1, a2⟩ | ⟨rfl, a2⟩ | ⟨a1, a2⟩
    · have hr2 : r = -1 := by rw [← hr]; simp [ordT, lexC, a2]
      subst hr2
      have q1 : (K == K') = false := by rw [beq_eq_false_iff_ne]; omega
      clear hr HR a2
      go_wp2
      go_ret
      exact ⟨rfl, hbd⟩
    · rcases cmpI_three N N' with ⟨b1, b2⟩ | ⟨rfl, b2⟩ | ⟨b1, b2⟩
      · have hr2 : r = -1 := by rw [← hr]; simp [ordT, lexC, a2, b2]
        subst hr2
        have q1 : (N == N') = false := by rw [beq_eq_false_iff_ne]; omega
        clear hr HR a2 b2
        go_wp2
        go_ret
        exact ⟨rfl, hbd⟩
      · cases d1 : Op.bytesLess S.toList S'.toList
        · cases d2 : S.toList == S'.toList
          · have hr2 : r = 1 := by rw [← hr]; simp only [ordT, lexC, a2, b2, cmpL, d1, d2]; rfl
            subst hr2
            clear hr HR a2 b2
            go_wp2
            go_ret
            exact ⟨rfl, hbd⟩
          · have hr2 : r = 0 := by rw [← hr]; simp only [ordT, lexC, a2, b2, cmpL, d1, d2]; rfl
            subst hr2
            clear hr HR a2 b2
            go_wp2
            go_ret
            exact ⟨rfl, hbd⟩
        · have d2 : (S.toList == S'.toList) = false := by
            rw [beq_eq_false_iff_ne]; intro e; rw [e, bl_irrefl] at d1; cases d1
          have hr2 : r = -1 := by rw [← hr]; simp only [ordT, lexC, a2, b2, cmpL, d1]; rfl
          subst hr2
          clear hr HR a2 b2
          go_wp2
          go_ret
          exact ⟨rfl, hbd⟩
      · have hr2 : r = 1 := by rw [← hr]; simp [ordT, lexC, a2, b2]
        subst hr2
        have q1 : (N == N') = false := by rw [beq_eq_false_iff_ne]; omega
        have q2 : decide (N < N') = false := by simp; omega
        clear hr HR a2 b2
        go_wp2
        go_ret
        exact ⟨rfl, hbd⟩
    · have hr2 : r = 1 := by rw [← hr]; simp [ordT, lexC, a2]
      subst hr2
      have q1 : (K == K') = false := by rw [beq_eq_false_iff_ne]; omega
      have q2 : decide (K < K') = false := by simp; omega
      clear hr HR a2
      go_wp2
      go_ret
      exact ⟨rfl, hbd⟩
set_option maxRecDepth 100000 in
set_option maxHeartbeats 2000000 in
theorem orders_t (k n k' n' : Int) (s s' : ByteArray) (w : World) (hk0 : 0 ≤ k) (hk1 : k ≤ 255) (hn0 : -9223372036854775808 ≤ n) (hn1 : n ≤ 9223372036854775807)
    (hk0' : 0 ≤ k') (hk1' : k' ≤ 255) (hn0' : -9223372036854775808 ≤ n') (hn1' : n' ≤ 9223372036854775807) :
    Calls Try.prog 4 #[.agg #[.int .u8 k, .int .i64 n, .string s], .agg #[.int .u8 k', .int .i64 n', .string s'], .bool true] w fun e w' => e = .returned (.bool true) ∧ Below w.heap.size w w' := by
  go_enter Try.func4, Try.ntmps4
  go_wp2_with fail
  refine (awake3 _).mono ?_
  rintro e w1 ⟨rfl, B1⟩
  have hsz := B1.size
  simp at hsz
  have X1 : VAt w1 w.heap.size k n s := VAt.below (w := (w.alloc (.cells #[.int .u8 k, .int .i64 n, .string s] 39)).alloc (.cells #[.int .u8 k', .int .i64 n', .string s'] 39)) ⟨by simp, by simp, by simp⟩ B1
  have Y1 : VAt w1 (w.heap.size + 1) k' n' s' := VAt.below (w := (w.alloc (.cells #[.int .u8 k, .int .i64 n, .string s] 39)).alloc (.cells #[.int .u8 k', .int .i64 n', .string s'] 39)) ⟨by simp, by simp, by simp⟩ B1
  have B2 : Below w.heap.size w w1 := (((Below.refl _ _).alloc (Nat.le_refl _) _).alloc (by simp) _).trans (B1.mono (by simp; omega))
  have yf : w1.frozen? ⟨w.heap.size + 1, 0, none⟩ = false := (B1.frozen (p := ⟨w.heap.size + 1, 0, none⟩) (by simp)).trans (by simp)
  clear B1
  obtain ⟨x0, x1, x2⟩ := X1
  obtain ⟨y0, y1, y2⟩ := Y1
  go_upto_region 5 with fail
  have z0 := (World.cell?_setCell_far w1 ⟨w.heap.size + 1, 0, none⟩ ⟨w.heap.size, 0, none⟩ (.int .u8 k) (by simp)).trans x0
  have z1 := (World.cell?_setCell_far w1 ⟨w.heap.size + 1, 0, none⟩ ⟨w.heap.size, 1, none⟩ (.int .u8 k) (by simp)).trans x1
  have z2 := (World.cell?_setCell_far w1 ⟨w.heap.size + 1, 0, none⟩ ⟨w.heap.size, 2, none⟩ (.int .u8 k) (by simp)).trans x2
  have z3 := World.cell?_setCell_same w1 ⟨w.heap.size + 1, 0, none⟩ (.int .u8 k) y0
  have z4 := (World.cell?_setCell_other w1 ⟨w.heap.size + 1, 0, none⟩ ⟨w.heap.size + 1, 1, none⟩ (.int .u8 k) (by simp)).trans y1
  have z5 := (World.cell?_setCell_other w1 ⟨w.heap.size + 1, 0, none⟩ ⟨w.heap.size + 1, 2, none⟩ (.int .u8 k) (by simp)).trans y2
  have B3 := B2.setCell (p := ⟨w.heap.size + 1, 0, none⟩) (by simp) (.int .u8 k)
  have hs3 : w.heap.size + 1 + 1 ≤ (w1.setCell ⟨w.heap.size + 1, 0, none⟩ (.int .u8 k)).heap.size := by simpa using hsz
  clear x0 x1 x2 y0 y1 y2 B2 hsz yf
  generalize w1.setCell ⟨w.heap.size + 1, 0, none⟩ (.int .u8 k) = w2 at z0 z1 z2 z3 z4 z5 B3 hs3 ⊢
  go_cut [7, 8] (fun x y wc => ∃ (b7 b8 : Nat) (K N K' N' : Int) (S S' : ByteArray), x = .pointer (some ⟨b7, 0, none⟩) ∧ y = .pointer (some ⟨b8, 0, none⟩) ∧ Below w.heap.size w wc ∧ VAt wc b7 K N S ∧ VAt wc b8 K' N' S')
  case first =>
    go_region_held3 (fun w' => w'.cell? ⟨w.heap.size, 0, none⟩ = some (.int .u8 k) ∧ w'.cell? ⟨w.heap.size, 1, none⟩ = some (.int .i64 n) ∧ w'.cell? ⟨w.heap.size, 2, none⟩ = some (.string s) ∧ w'.cell? ⟨w.heap.size + 1, 0, none⟩ = some (.int .u8 k) ∧ w'.cell? ⟨w.heap.size + 1, 1, none⟩ = some (.int .i64 n') ∧ w'.cell? ⟨w.heap.size + 1, 2, none⟩ = some (.string s'))
      (exact keep6 z0 z1 z2 z3 z4 z5 (by repeat (first | exact Below.refl _ _ | refine Below.drew ?_ | refine Below.alloc ?_ (by simp <;> omega) _))) (first | (go_at_call 13; refine (make_any _ _ _ _ (by omega) (by omega) (by omega) (by omega)).mono ?_; rintro e w' ⟨rfl, rfl⟩))
    all_goals
      go_wp2_with fail
      go_meet
      case rel =>
        refine ⟨_, _, k % 5, mkN k n, k % 5, mkN k n', mkS k s, mkS k s', rfl, rfl, ?_, ⟨by go_simp, by go_simp, by go_simp⟩, by go_simp, by go_simp, by go_simp⟩
        refine Below.drew ?_
        repeat (first | exact B3 | (refine Below.alloc ?_ (by (try simp) <;> omega) _))
  case rest =>
    obtain ⟨b7, b8, K, N, K', N', S, S', rfl, rfl, hb, X, Y⟩ := hcut
    obtain ⟨u0, u1, u2⟩ := X
    obtain ⟨v0, v1, v2⟩ := Y
    have l7 := World.block_lt_of_cell? _ _ u0
    have l8 := World.block_lt_of_cell? _ _ v0
    clear z0 z1 z2 z3 z4 z5 B3 hs3
    obtain ⟨r, hr⟩ : ∃ r, ordV K N S K' N' S' = r := ⟨_, rfl⟩
    have HR : Hid (ordV K N S K' N' S' = r) := hr
    go_wp2_with fail
    refine (order_below K N K' N' r S S' _ HR.out).mono ?_
    rintro e wd ⟨rfl, hd⟩
    obtain ⟨hc, hf⟩ := bcell hd
    have hbd := hb.trans (hd.mono hb.size)
    clear hd hb hf
    rw [ordV_is] at hr
    rcases cmpI_three K K' with ⟨a1, a2⟩ | ⟨rfl, a2⟩ | ⟨a1, a2⟩
    · have hr2 : r = -1 := by rw [← hr]; simp [ordT, lexC, a2]
      subst hr2
      have q1 : (K == K') = false := by rw [beq_eq_false_iff_ne]; omega
      clear hr HR a2
      go_wp2
      go_ret
      exact ⟨rfl, hbd⟩
    · rcases cmpI_three N N' with ⟨b1, b2⟩ | ⟨rfl, b2⟩ | ⟨b1, b2⟩
      · have hr2 : r = -1 := by rw [← hr]; simp [ordT, lexC, a2, b2]
        subst hr2
        have q1 : (N == N') = false := by rw [beq_eq_false_iff_ne]; omega
        clear hr HR a2 b2
        go_wp2
        go_ret
        exact ⟨rfl, hbd⟩
      · cases d1 : Op.bytesLess S.toList S'.toList
        · cases d2 : S.toList == S'.toList
          · have hr2 : r = 1 := by rw [← hr]; simp only [ordT, lexC, a2, b2, cmpL, d1, d2]; rfl
            subst hr2
            clear hr HR a2 b2
            go_wp2
            go_ret
            exact ⟨rfl, hbd⟩
          · have hr2 : r = 0 := by rw [← hr]; simp only [ordT, lexC, a2, b2, cmpL, d1, d2]; rfl
            subst hr2
            clear hr HR a2 b2
            go_wp2
            go_ret
            exact ⟨rfl, hbd⟩
        · have d2 : (S.toList == S'.toList) = false := by
            rw [beq_eq_false_iff_ne]; intro e; rw [e, bl_irrefl] at d1; cases d1
          have hr2 : r = -1 := by rw [← hr]; simp only [ordT, lexC, a2, b2, cmpL, d1]; rfl
          subst hr2
          clear hr HR a2 b2
          go_wp2
          go_ret
          exact ⟨rfl, hbd⟩
      · have hr2 : r = 1 := by rw [← hr]; simp [ordT, lexC, a2, b2]
        subst hr2
        have q1 : (N == N') = false := by rw [beq_eq_false_iff_ne]; omega
        have q2 : decide (N < N') = false := by simp; omega
        clear hr HR a2 b2
        go_wp2
        go_ret
        exact ⟨rfl, hbd⟩
    · have hr2 : r = 1 := by rw [← hr]; simp [ordT, lexC, a2]
      subst hr2
      have q1 : (K == K') = false := by rw [beq_eq_false_iff_ne]; omega
      have q2 : decide (K < K') = false := by simp; omega
      clear hr HR a2
      go_wp2
      go_ret
      exact ⟨rfl, hbd⟩
theorem orders_any (k n k' n' : Int) (s s' : ByteArray) (b : Bool) (w : World) (hk0 : 0 ≤ k) (hk1 : k ≤ 255) (hn0 : -9223372036854775808 ≤ n) (hn1 : n ≤ 9223372036854775807)
    (hk0' : 0 ≤ k') (hk1' : k' ≤ 255) (hn0' : -9223372036854775808 ≤ n') (hn1' : n' ≤ 9223372036854775807) :
    Calls Try.prog 4 #[.agg #[.int .u8 k, .int .i64 n, .string s], .agg #[.int .u8 k', .int .i64 n', .string s'], .bool b] w fun e w' => e = .returned (.bool true) ∧ Below w.heap.size w w' := by
  cases b
  · exact orders_f k n k' n' s s' w hk0 hk1 hn0 hn1 hk0' hk1' hn0' hn1'
  · exact orders_t k n k' n' s s' w hk0 hk1 hn0 hn1 hk0' hk1' hn0' hn1'
end Go.Proofs.Ytbbmcggalffecaa
