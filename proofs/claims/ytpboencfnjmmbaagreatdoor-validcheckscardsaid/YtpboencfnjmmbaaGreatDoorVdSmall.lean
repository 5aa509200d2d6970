/-
  Package valid: regs, place, sized.
  Conditions: as each theorem says.
-/
import Derived.Test.YtpboencfnjmmbaaGreatDoorVdBase
namespace Go.Proofs.YtpboencfnjmmbaaGreatDoor
open Go.RowKit
set_option linter.unusedVariables false
set_option linter.unusedSimpArgs false
theorem bl0 (w : World) (o : Obj) : Below w.heap.size w (w.alloc o) := (Below.refl _ _).alloc (Nat.le_refl _) o
set_option maxRecDepth 100000 in
set_option maxHeartbeats 2000000 in
theorem regs_any {p r : Int} {hv cv iv lv v : Value} {l : List Int} {w : World} (h : ZSl w v l) :
    Calls Tryz.prog 63 #[.agg #[.int .i64 p, hv, .int .i64 r, cv, iv, lv], v] w fun e w' => e = .returned (.bool (l.all (inR r))) ∧ Below w.heap.size w w' := by
  have H := Lib.hid h
  clear h
  go_enter Tryz.func63, Tryz.ntmps63
  go_wp2_with fail
  refine (within_any (H.out.up (bl0 _ _))).mono ?_
  rintro e w1 ⟨rfl, rfl⟩
  go_wp2
  go_ret
  exact ⟨rfl, bl0 _ _⟩
theorem cell_new {w : World} {cs : Array Value} {t : TypeId} {k : Nat} {v : Value} (h : cs[k]? = some v) : (w.alloc (.cells cs t)).cell? ⟨w.heap.size, 0 + k, none⟩ = some v := by
  simp only [World.cell?, heap_alloc_new, Nat.zero_add]
  exact h
theorem one_int {w : World} {n : Int} : ZSl (w.alloc (.cells #[.int .i64 n] 3)) (.slice (some ⟨w.heap.size, 0, none⟩) 1 1) [n] :=
  ⟨_, _, rfl, Nat.le_refl _, by simp [maxLen], fun _ => ⟨_, 0, rfl, by simp, fun k m hk => by
    match k, hk with
    | 0, hk => simp at hk; subst hk; exact cell_new rfl⟩⟩
theorem two_int {w : World} {n m : Int} : ZSl (w.alloc (.cells #[.int .i64 n, .int .i64 m] 3)) (.slice (some ⟨w.heap.size, 0, none⟩) 2 2) [n, m] :=
  ⟨_, _, rfl, Nat.le_refl _, by simp [maxLen], fun _ => ⟨_, 0, rfl, by simp, fun k x hk => by
    match k, hk with
    | 0, hk => simp at hk; subst hk; exact cell_new rfl
    | 1, hk => simp at hk; subst hk; exact cell_new rfl⟩⟩
theorem three_int {w : World} {n m q : Int} : ZSl (w.alloc (.cells #[.int .i64 n, .int .i64 m, .int .i64 q] 3)) (.slice (some ⟨w.heap.size, 0, none⟩) 3 3) [n, m, q] :=
  ⟨_, _, rfl, Nat.le_refl _, by simp [maxLen], fun _ => ⟨_, 0, rfl, by simp, fun k x hk => by
    match k, hk with
    | 0, hk => simp at hk; subst hk; exact cell_new rfl
    | 1, hk => simp at hk; subst hk; exact cell_new rfl
    | 2, hk => simp at hk; subst hk; exact cell_new rfl⟩⟩
set_option maxRecDepth 100000 in
set_option maxHeartbeats 2000000 in
theorem place_any {p r n : Int} {hv cv lv : Value} {ad : Option Addr} {len cap : Nat} {w : World} :
    Calls Tryz.prog 66 #[.agg #[.int .i64 p, hv, .int .i64 r, cv, .slice ad len cap, lv], .int .i64 n] w fun e w' => e = .returned (.bool (inR len n)) ∧ Below w.heap.size w w' := by
  go_enter Tryz.func66, Tryz.ntmps66
  go_wp2_with fail
  have h1 := one_int (w := w.alloc (.cells #[.int .i64 p, hv, .int .i64 r, cv, .slice ad len cap, lv] 91)) (n := n)
  rw [show (w.alloc (.cells #[.int .i64 p, hv, .int .i64 r, cv, .slice ad len cap, lv] 91)).heap.size = w.heap.size + 1 from by simp] at h1
  refine (within_any h1).mono ?_
  clear h1
  rintro e w1 ⟨rfl, rfl⟩
  go_wp2
  go_ret
  exact ⟨by simp, (bl0 _ _).alloc (by simp) _⟩
def sizedF (f : VF) : Bool := !(decide (f.p < 0) || decide (f.r < 0) || decide (100 < f.r)) && (decide (f.p ≤ f.r - f.h.length) && decide (1 ≤ f.cd.length) && decide (f.cd.length ≤ 2000))
set_option maxRecDepth 100000 in
set_option maxHeartbeats 2000000 in
theorem sized_any {f : VF} {hv cv iv : Value} {w : World} (hI : VFin w f hv cv iv) (hok : f.ok) :
    Calls Tryz.prog 40 #[.agg #[.int .i64 f.p, hv, .int .i64 f.r, cv, iv]] w fun e w' => e = .returned (.bool (sizedF f)) ∧ Below w.heap.size w w' := by
  obtain ⟨ad, cap, rfl, hc1, hx1, _⟩ := hI.h
  obtain ⟨ad3, cap3, rfl, hc3, hx3, _⟩ := hI.i
  obtain ⟨ad2, cap2, rfl⟩ := hI.c
  have hp := hok.p
  have hr := hok.r
  unfold Z64 at hp hr
  unfold maxLen at hx1 hx3
  clear hI hok
  by_cases h1 : f.p < 0
  · have HZ : Hid (sizedF f = false) := by refine Lib.hid ?_; simp [sizedF, h1]
    go_enter Tryz.func40, Tryz.ntmps40
    go_wp2
    go_ret
    exact ⟨ret_bool HZ.out.symm, bl0 _ _⟩
  by_cases h2 : f.r < 0
  · have HZ : Hid (sizedF f = false) := by refine Lib.hid ?_; simp [sizedF, h2]
    go_enter Tryz.func40, Tryz.ntmps40
    go_wp2
    go_ret
    exact ⟨ret_bool HZ.out.symm, bl0 _ _⟩
  by_cases h3 : (100 : Int) < f.r
  · have HZ : Hid (sizedF f = false) := by refine Lib.hid ?_; simp [sizedF, h3]
    go_enter Tryz.func40, Tryz.ntmps40
    go_wp2
    go_ret
    exact ⟨ret_bool HZ.out.symm, bl0 _ _⟩
  have h4 : ¬ (f.r < f.p) ∨ True := .inr trivial
  have hhl : f.h.length ≤ 9223372036854775807 := by omega
  have hcl : f.cd.length ≤ 9223372036854775807 := by omega
  have HZ : Hid (sizedF f = (decide (f.p ≤ f.r - (f.h.length : Int)) && decide ((1 : Int) ≤ (f.cd.length : Int)) && decide ((f.cd.length : Int) ≤ 2000))) := by
    refine Lib.hid ?_
    have e1 : decide ((1 : Int) ≤ (f.cd.length : Int)) = decide (1 ≤ f.cd.length) := by rw [decide_eq_decide]; omega
    have e2 : decide ((f.cd.length : Int) ≤ 2000) = decide (f.cd.length ≤ 2000) := by rw [decide_eq_decide]; omega
    rw [e1, e2]
    simp [sizedF, h1, h2, h3]
  have hlo : -9223372036854775808 ≤ f.r - (f.h.length : Int) := by omega
  have hhi : f.r - (f.h.length : Int) ≤ 9223372036854775807 := by omega
  by_cases k1 : f.p ≤ f.r - (f.h.length : Int)
  · by_cases k2 : (1 : Int) ≤ (f.cd.length : Int)
    · by_cases k3 : (f.cd.length : Int) ≤ 2000
      · have HR : Hid (sizedF f = true) := Lib.hid (by rw [HZ.out, decide_eq_true k1, decide_eq_true k2, decide_eq_true k3]; rfl)
        go_enter Tryz.func40, Tryz.ntmps40
        go_wp2
        go_ret
        exact ⟨ret_bool HR.out.symm, bl0 _ _⟩
      · have HR : Hid (sizedF f = false) := Lib.hid (by rw [HZ.out, decide_eq_true k1, decide_eq_true k2, decide_eq_false k3]; rfl)
        go_enter Tryz.func40, Tryz.ntmps40
        go_wp2
        go_ret
        exact ⟨ret_bool HR.out.symm, bl0 _ _⟩
    · have HR : Hid (sizedF f = false) := Lib.hid (by rw [HZ.out, decide_eq_true k1, decide_eq_false k2]; rfl)
      go_enter Tryz.func40, Tryz.ntmps40
      go_wp2
      go_ret
      exact ⟨ret_bool HR.out.symm, bl0 _ _⟩
  · have HR : Hid (sizedF f = false) := Lib.hid (by rw [HZ.out, decide_eq_false k1]; rfl)
    go_enter Tryz.func40, Tryz.ntmps40
    go_wp2
    go_ret
    exact ⟨ret_bool HR.out.symm, bl0 _ _⟩
end Go.Proofs.YtpboencfnjmmbaaGreatDoor
