/-
  Package valid: fits: may an instruction stand there.
  Conditions: as each theorem says.
-/
import Derived.Test.YtpboencfnjmmbaaGreatDoorVdCloses
namespace Go.Proofs.YtpboencfnjmmbaaGreatDoor
open Go.RowKit
set_option linter.unusedVariables false
set_option linter.unusedSimpArgs false
def fitsF (fs : List VF) (f : VF) (x : VI) : Bool :=
  match x.op with
  | 0 => [x.a].all (inR f.r) && [x.b].all (inR f.nc)
  | 1 | 7 | 8 => [x.a, x.b].all (inR f.r)
  | 2 | 18 | 19 => [x.a].all (inR f.r)
  | 3 | 4 | 9 | 10 | 11 | 12 | 13 | 14 => [x.a, x.b, x.c].all (inR f.r)
  | 5 => closesF fs f.r x.a x.b
  | 6 => decide (0 ≤ x.c) && [x.a, x.b, wrap64 (x.b + x.c)].all (inR f.r)
  | 15 | 16 => inR f.cd.length x.a
  | 17 | 20 => [x.a].all (inR f.r) && inR f.cd.length x.b
  | 21 => true
  | _ => false
theorem heap3 (w : World) (A B C : Obj) : (((w.alloc A).alloc B).alloc C).heap[w.heap.size + 1 + 1]? = some C := by
  rw [show w.heap.size + 1 + 1 = ((w.alloc A).alloc B).heap.size from by simp]; exact heap_alloc_new _ _
theorem bl2 (w : World) (A B : Obj) : Below w.heap.size w ((w.alloc A).alloc B) := (bl0 _ _).alloc (by simp) _
theorem bl3 (w : World) (A B C : Obj) : Below w.heap.size w (((w.alloc A).alloc B).alloc C) := (bl2 _ _ _).alloc (by simp; omega) _
theorem bl3w {w w1 : World} {A B C : Obj} (h : Below (((w.alloc A).alloc B).alloc C).heap.size (((w.alloc A).alloc B).alloc C) w1) : Below w.heap.size w w1 := (bl3 w A B C).trans (h.mono (bl3 w A B C).size)
theorem bl2w {w w1 : World} {A B : Obj} (h : Below ((w.alloc A).alloc B).heap.size ((w.alloc A).alloc B) w1) : Below w.heap.size w w1 := (bl2 w A B).trans (h.mono (bl2 w A B).size)
theorem heap3_0 {w w1 : World} {A B C : Obj} (h : Below (((w.alloc A).alloc B).alloc C).heap.size (((w.alloc A).alloc B).alloc C) w1) : w1.heap[w.heap.size]? = some A ∧ w1.heap[w.heap.size + 1]? = some B := by
  have e0 : (((w.alloc A).alloc B).alloc C).heap[w.heap.size]? = some A := by rw [Below.heap_alloc _ _ _ (by simp; omega), Below.heap_alloc _ _ _ (by simp)]; exact heap_alloc_new _ _
  have e1 : (((w.alloc A).alloc B).alloc C).heap[w.heap.size + 1]? = some B := by
    rw [Below.heap_alloc _ _ _ (by simp), show w.heap.size + 1 = (w.alloc A).heap.size from by simp]; exact heap_alloc_new _ _
  exact ⟨(h.block _ (by simp; omega)).trans e0, (h.block _ (by simp)).trans e1⟩
theorem one_blk {w : World} {g : Nat} {n : Int} {fz : Nat × Nat} (h : w.heap[g]? = some (.cells #[.int .i64 n] 3 fz)) : ZSl w (.slice (some ⟨g, 0, none⟩) 1 1) [n] :=
  ⟨_, _, rfl, Nat.le_refl _, by simp [maxLen], fun _ => ⟨_, 0, rfl, lt_of_block h, fun k x hk => by
    match k, hk with
    | 0, hk => simp at hk; subst hk; simp only [World.cell?, h]; rfl⟩⟩
theorem two_blk {w : World} {g : Nat} {n m : Int} {fz : Nat × Nat} (h : w.heap[g]? = some (.cells #[.int .i64 n, .int .i64 m] 3 fz)) : ZSl w (.slice (some ⟨g, 0, none⟩) 2 2) [n, m] :=
  ⟨_, _, rfl, Nat.le_refl _, by simp [maxLen], fun _ => ⟨_, 0, rfl, lt_of_block h, fun k x hk => by
    match k, hk with
    | 0, hk => simp at hk; subst hk; simp only [World.cell?, h]; rfl
    | 1, hk => simp at hk; subst hk; simp only [World.cell?, h]; rfl⟩⟩
section
variable {fs : List VF} {f : VF} {adh adc adi : Option Addr} {caph capc capi sb : Nat} {a b c : Int} {w : World}
set_option maxRecDepth 100000 in
set_option maxHeartbeats 2000000 in
theorem fits_0 : Calls Tryz.prog 41 #[.agg #[.int .i64 f.p, .slice adh f.h.length caph, .int .i64 f.r, .slice adc f.nc capc, .slice adi f.cd.length capi, .slice (some ⟨sb, 0, none⟩) fs.length fs.length], .agg #[.int .u8 0, .int .i64 a, .int .i64 b, .int .i64 c]] w fun e w' => e = .returned (.bool (fitsF fs f ⟨0, a, b, c⟩)) ∧ Below w.heap.size w w' := by
  go_enter Tryz.func41, Tryz.ntmps41
  go_wp2_with fail
  refine (regs_any (one_blk (heap3 _ _ _ _))).mono ?_
  rintro e w1 ⟨rfl, h1⟩
  have HB : Hid (Below w.heap.size w w1) := bl3w h1
  obtain ⟨g0, g1⟩ := heap3_0 h1
  have c00 : w1.cell? ⟨w.heap.size, 0, none⟩ = some (.int .i64 f.p) := by simp [World.cell?, g0]
  have c01 : w1.cell? ⟨w.heap.size, 1, none⟩ = some (.slice adh f.h.length caph) := by simp [World.cell?, g0]
  have c02 : w1.cell? ⟨w.heap.size, 2, none⟩ = some (.int .i64 f.r) := by simp [World.cell?, g0]
  have c03 : w1.cell? ⟨w.heap.size, 3, none⟩ = some (.slice adc f.nc capc) := by simp [World.cell?, g0]
  have c04 : w1.cell? ⟨w.heap.size, 4, none⟩ = some (.slice adi f.cd.length capi) := by simp [World.cell?, g0]
  have c05 : w1.cell? ⟨w.heap.size, 5, none⟩ = some (.slice (some ⟨sb, 0, none⟩) fs.length fs.length) := by simp [World.cell?, g0]
  have c12 : w1.cell? ⟨w.heap.size + 1, 2, none⟩ = some (.int .i64 b) := by simp [World.cell?, g1]
  have HR : Hid (fitsF fs f ⟨0, a, b, c⟩ = ([a].all (inR f.r) && [b].all (inR f.nc))) := rfl
  clear h1 g0 g1
  generalize [a].all (inR f.r) = q at HR ⊢
  cases q
  · go_wp2
    go_ret
    exact ⟨ret_bool HR.out.symm, HB.out⟩
  · go_wp2_with fail
    refine (within_any (one_int (w := w1))).mono ?_
    rintro e w2 ⟨rfl, rfl⟩
    have HB2 : Hid (∀ o, Below w.heap.size w (w1.alloc o)) := fun o => HB.out.alloc HB.out.size o
    generalize [b].all (inR f.nc) = q2 at HR ⊢
    go_wp2
    go_ret
    exact ⟨ret_bool HR.out.symm, HB2.out _⟩
set_option maxRecDepth 100000 in
set_option maxHeartbeats 2000000 in
theorem fits_1 : Calls Tryz.prog 41 #[.agg #[.int .i64 f.p, .slice adh f.h.length caph, .int .i64 f.r, .slice adc f.nc capc, .slice adi f.cd.length capi, .slice (some ⟨sb, 0, none⟩) fs.length fs.length], .agg #[.int .u8 1, .int .i64 a, .int .i64 b, .int .i64 c]] w fun e w' => e = .returned (.bool (fitsF fs f ⟨1, a, b, c⟩)) ∧ Below w.heap.size w w' := by
  have HR : Hid (fitsF fs f ⟨1, a, b, c⟩ = [a, b].all (inR f.r)) := rfl
  go_enter Tryz.func41, Tryz.ntmps41
  go_wp2_with fail
  refine (regs_any (two_blk (heap3 _ _ _ _))).mono ?_
  rintro e w1 ⟨rfl, h1⟩
  have HB : Hid (Below w.heap.size w w1) := bl3w h1
  clear h1
  generalize [a, b].all (inR f.r) = q at HR ⊢
  go_wp2
  go_ret
  exact ⟨ret_bool HR.out.symm, HB.out⟩
set_option maxRecDepth 100000 in
set_option maxHeartbeats 2000000 in
theorem fits_2 : Calls Tryz.prog 41 #[.agg #[.int .i64 f.p, .slice adh f.h.length caph, .int .i64 f.r, .slice adc f.nc capc, .slice adi f.cd.length capi, .slice (some ⟨sb, 0, none⟩) fs.length fs.length], .agg #[.int .u8 2, .int .i64 a, .int .i64 b, .int .i64 c]] w fun e w' => e = .returned (.bool (fitsF fs f ⟨2, a, b, c⟩)) ∧ Below w.heap.size w w' := by
  have HR : Hid (fitsF fs f ⟨2, a, b, c⟩ = [a].all (inR f.r)) := rfl
  go_enter Tryz.func41, Tryz.ntmps41
  go_wp2_with fail
  refine (regs_any (one_blk (heap3 _ _ _ _))).mono ?_
  rintro e w1 ⟨rfl, h1⟩
  have HB : Hid (Below w.heap.size w w1) := bl3w h1
  clear h1
  generalize [a].all (inR f.r) = q at HR ⊢
  go_wp2
  go_ret
  exact ⟨ret_bool HR.out.symm, HB.out⟩
set_option maxRecDepth 100000 in
set_option maxHeartbeats 2000000 in
theorem fits_3 : Calls Tryz.prog 41 #[.agg #[.int .i64 f.p, .slice adh f.h.length caph, .int .i64 f.r, .slice adc f.nc capc, .slice adi f.cd.length capi, .slice (some ⟨sb, 0, none⟩) fs.length fs.length], .agg #[.int .u8 3, .int .i64 a, .int .i64 b, .int .i64 c]] w fun e w' => e = .returned (.bool (fitsF fs f ⟨3, a, b, c⟩)) ∧ Below w.heap.size w w' := by
  have HR : Hid (fitsF fs f ⟨3, a, b, c⟩ = [a, b, c].all (inR f.r)) := rfl
  go_enter Tryz.func41, Tryz.ntmps41
  go_wp2_with fail
  refine (regs_any (three_blk (heap3 _ _ _ _))).mono ?_
  rintro e w1 ⟨rfl, h1⟩
  have HB : Hid (Below w.heap.size w w1) := bl3w h1
  clear h1
  generalize [a, b, c].all (inR f.r) = q at HR ⊢
  go_wp2
  go_ret
  exact ⟨ret_bool HR.out.symm, HB.out⟩
set_option maxRecDepth 100000 in
set_option maxHeartbeats 2000000 in
theorem fits_4 : Calls Tryz.prog 41 #[.agg #[.int .i64 f.p, .slice adh f.h.length caph, .int .i64 f.r, .slice adc f.nc capc, .slice adi f.cd.length capi, .slice (some ⟨sb, 0, none⟩) fs.length fs.length], .agg #[.int .u8 4, .int .i64 a, .int .i64 b, .int .i64 c]] w fun e w' => e = .returned (.bool (fitsF fs f ⟨4, a, b, c⟩)) ∧ Below w.heap.size w w' := by
  have HR : Hid (fitsF fs f ⟨4, a, b, c⟩ = [a, b, c].all (inR f.r)) := rfl
  go_enter Tryz.func41, Tryz.ntmps41
  go_wp2_with fail
  refine (regs_any (three_blk (heap3 _ _ _ _))).mono ?_
  rintro e w1 ⟨rfl, h1⟩
  have HB : Hid (Below w.heap.size w w1) := bl3w h1
  clear h1
  generalize [a, b, c].all (inR f.r) = q at HR ⊢
  go_wp2
  go_ret
  exact ⟨ret_bool HR.out.symm, HB.out⟩
set_option maxRecDepth 100000 in
set_option maxHeartbeats 2000000 in
theorem fits_5 (hL : Lk w fs f (.slice adh f.h.length caph) (.slice adc f.nc capc) (.slice adi f.cd.length capi) (.slice (some ⟨sb, 0, none⟩) fs.length fs.length)) (hlen : fs.length ≤ 100) : Calls Tryz.prog 41 #[.agg #[.int .i64 f.p, .slice adh f.h.length caph, .int .i64 f.r, .slice adc f.nc capc, .slice adi f.cd.length capi, .slice (some ⟨sb, 0, none⟩) fs.length fs.length], .agg #[.int .u8 5, .int .i64 a, .int .i64 b, .int .i64 c]] w fun e w' => e = .returned (.bool (fitsF fs f ⟨5, a, b, c⟩)) ∧ Below w.heap.size w w' := by
  have HL := Lib.hid hL
  clear hL
  go_enter Tryz.func41, Tryz.ntmps41
  go_wp2_with fail
  refine (closes_any (HL.out.up (bl2 _ _ _)) hlen).mono ?_
  rintro e w1 ⟨rfl, h1⟩
  have HB : Hid (Below w.heap.size w w1) := bl2w h1
  clear h1
  go_wp2
  go_ret
  exact ⟨rfl, HB.out⟩
set_option maxRecDepth 100000 in
set_option maxHeartbeats 2000000 in
theorem fits_6 : Calls Tryz.prog 41 #[.agg #[.int .i64 f.p, .slice adh f.h.length caph, .int .i64 f.r, .slice adc f.nc capc, .slice adi f.cd.length capi, .slice (some ⟨sb, 0, none⟩) fs.length fs.length], .agg #[.int .u8 6, .int .i64 a, .int .i64 b, .int .i64 c]] w fun e w' => e = .returned (.bool (fitsF fs f ⟨6, a, b, c⟩)) ∧ Below w.heap.size w w' := by
  by_cases h0 : 0 ≤ c
  · have HR : Hid (fitsF fs f ⟨6, a, b, c⟩ = [a, b, wrap64 (b + c)].all (inR f.r)) := by refine Lib.hid ?_; simp only [fitsF, decide_eq_true h0, Bool.true_and]
    obtain ⟨d, hd⟩ : ∃ d, d = wrap64 (b + c) := ⟨_, rfl⟩
    rw [← hd] at HR
    go_enter Tryz.func41, Tryz.ntmps41
    go_wp2_with fail
    rw [← hd]
    refine (regs_any (three_blk (heap3 _ _ _ _))).mono ?_
    rintro e w1 ⟨rfl, h1⟩
    have HB : Hid (Below w.heap.size w w1) := bl3w h1
    clear h1 hd
    generalize [a, b, d].all (inR f.r) = q at HR ⊢
    go_wp2
    go_ret
    exact ⟨ret_bool HR.out.symm, HB.out⟩
  · have HR : Hid (fitsF fs f ⟨6, a, b, c⟩ = false) := by refine Lib.hid ?_; simp only [fitsF, decide_eq_false h0, Bool.false_and]
    go_enter Tryz.func41, Tryz.ntmps41
    go_wp2
    go_ret
    exact ⟨ret_bool HR.out.symm, bl2 _ _ _⟩
set_option maxRecDepth 100000 in
set_option maxHeartbeats 2000000 in
theorem fits_7 : Calls Tryz.prog 41 #[.agg #[.int .i64 f.p, .slice adh f.h.length caph, .int .i64 f.r, .slice adc f.nc capc, .slice adi f.cd.length capi, .slice (some ⟨sb, 0, none⟩) fs.length fs.length], .agg #[.int .u8 7, .int .i64 a, .int .i64 b, .int .i64 c]] w fun e w' => e = .returned (.bool (fitsF fs f ⟨7, a, b, c⟩)) ∧ Below w.heap.size w w' := by
  have HR : Hid (fitsF fs f ⟨7, a, b, c⟩ = [a, b].all (inR f.r)) := rfl
  go_enter Tryz.func41, Tryz.ntmps41
  go_wp2_with fail
  refine (regs_any (two_blk (heap3 _ _ _ _))).mono ?_
  rintro e w1 ⟨rfl, h1⟩
  have HB : Hid (Below w.heap.size w w1) := bl3w h1
  clear h1
  generalize [a, b].all (inR f.r) = q at HR ⊢
  go_wp2
  go_ret
  exact ⟨ret_bool HR.out.symm, HB.out⟩
set_option maxRecDepth 100000 in
set_option maxHeartbeats 2000000 in
theorem fits_8 : Calls Tryz.prog 41 #[.agg #[.int .i64 f.p, .slice adh f.h.length caph, .int .i64 f.r, .slice adc f.nc capc, .slice adi f.cd.length capi, .slice (some ⟨sb, 0, none⟩) fs.length fs.length], .agg #[.int .u8 8, .int .i64 a, .int .i64 b, .int .i64 c]] w fun e w' => e = .returned (.bool (fitsF fs f ⟨8, a, b, c⟩)) ∧ Below w.heap.size w w' := by
  have HR : Hid (fitsF fs f ⟨8, a, b, c⟩ = [a, b].all (inR f.r)) := rfl
  go_enter Tryz.func41, Tryz.ntmps41
  go_wp2_with fail
  refine (regs_any (two_blk (heap3 _ _ _ _))).mono ?_
  rintro e w1 ⟨rfl, h1⟩
  have HB : Hid (Below w.heap.size w w1) := bl3w h1
  clear h1
  generalize [a, b].all (inR f.r) = q at HR ⊢
  go_wp2
  go_ret
  exact ⟨ret_bool HR.out.symm, HB.out⟩
set_option maxRecDepth 100000 in
set_option maxHeartbeats 2000000 in
theorem fits_9 : Calls Tryz.prog 41 #[.agg #[.int .i64 f.p, .slice adh f.h.length caph, .int .i64 f.r, .slice adc f.nc capc, .slice adi f.cd.length capi, .slice (some ⟨sb, 0, none⟩) fs.length fs.length], .agg #[.int .u8 9, .int .i64 a, .int .i64 b, .int .i64 c]] w fun e w' => e = .returned (.bool (fitsF fs f ⟨9, a, b, c⟩)) ∧ Below w.heap.size w w' := by
  have HR : Hid (fitsF fs f ⟨9, a, b, c⟩ = [a, b, c].all (inR f.r)) := rfl
  go_enter Tryz.func41, Tryz.ntmps41
  go_wp2_with fail
  refine (regs_any (three_blk (heap3 _ _ _ _))).mono ?_
  rintro e w1 ⟨rfl, h1⟩
  have HB : Hid (Below w.heap.size w w1) := bl3w h1
  clear h1
  generalize [a, b, c].all (inR f.r) = q at HR ⊢
  go_wp2
  go_ret
  exact ⟨ret_bool HR.out.symm, HB.out⟩
set_option maxRecDepth 100000 in
set_option maxHeartbeats 2000000 in
theorem fits_10 : Calls Tryz.prog 41 #[.agg #[.int .i64 f.p, .slice adh f.h.length caph, .int .i64 f.r, .slice adc f.nc capc, .slice adi f.cd.length capi, .slice (some ⟨sb, 0, none⟩) fs.length fs.length], .agg #[.int .u8 10, .int .i64 a, .int .i64 b, .int .i64 c]] w fun e w' => e = .returned (.bool (fitsF fs f ⟨10, a, b, c⟩)) ∧ Below w.heap.size w w' := by
  have HR : Hid (fitsF fs f ⟨10, a, b, c⟩ = [a, b, c].all (inR f.r)) := rfl
  go_enter Tryz.func41, Tryz.ntmps41
  go_wp2_with fail
  refine (regs_any (three_blk (heap3 _ _ _ _))).mono ?_
  rintro e w1 ⟨rfl, h1⟩
  have HB : Hid (Below w.heap.size w w1) := bl3w h1
  clear h1
  generalize [a, b, c].all (inR f.r) = q at HR ⊢
  go_wp2
  go_ret
  exact ⟨ret_bool HR.out.symm, HB.out⟩
set_option maxRecDepth 100000 in
set_option maxHeartbeats 2000000 in
theorem fits_11 : Calls Tryz.prog 41 #[.agg #[.int .i64 f.p, .slice adh f.h.length caph, .int .i64 f.r, .slice adc f.nc capc, .slice adi f.cd.length capi, .slice (some ⟨sb, 0, none⟩) fs.length fs.length], .agg #[.int .u8 11, .int .i64 a, .int .i64 b, .int .i64 c]] w fun e w' => e = .returned (.bool (fitsF fs f ⟨11, a, b, c⟩)) ∧ Below w.heap.size w w' := by
  have HR : Hid (fitsF fs f ⟨11, a, b, c⟩ = [a, b, c].all (inR f.r)) := rfl
  go_enter Tryz.func41, Tryz.ntmps41
  go_wp2_with fail
  refine (regs_any (three_blk (heap3 _ _ _ _))).mono ?_
  rintro e w1 ⟨rfl, h1⟩
  have HB : Hid (Below w.heap.size w w1) := bl3w h1
  clear h1
  generalize [a, b, c].all (inR f.r) = q at HR ⊢
  go_wp2
  go_ret
  exact ⟨ret_bool HR.out.symm, HB.out⟩
set_option maxRecDepth 100000 in
set_option maxHeartbeats 2000000 in
theorem fits_12 : Calls Tryz.prog 41 #[.agg #[.int .i64 f.p, .slice adh f.h.length caph, .int .i64 f.r, .slice adc f.nc capc, .slice adi f.cd.length capi, .slice (some ⟨sb, 0, none⟩) fs.length fs.length], .agg #[.int .u8 12, .int .i64 a, .int .i64 b, .int .i64 c]] w fun e w' => e = .returned (.bool (fitsF fs f ⟨12, a, b, c⟩)) ∧ Below w.heap.size w w' := by
  have HR : Hid (fitsF fs f ⟨12, a, b, c⟩ = [a, b, c].all (inR f.r)) := rfl
  go_enter Tryz.func41, Tryz.ntmps41
  go_wp2_with fail
  refine (regs_any (three_blk (heap3 _ _ _ _))).mono ?_
  rintro e w1 ⟨rfl, h1⟩
  have HB : Hid (Below w.heap.size w w1) := bl3w h1
  clear h1
  generalize [a, b, c].all (inR f.r) = q at HR ⊢
  go_wp2
  go_ret
  exact ⟨ret_bool HR.out.symm, HB.out⟩
set_option maxRecDepth 100000 in
set_option maxHeartbeats 2000000 in
theorem fits_13 : Calls Tryz.prog 41 #[.agg #[.int .i64 f.p, .slice adh f.h.length caph, .int .i64 f.r, .slice adc f.nc capc, .slice adi f.cd.length capi, .slice (some ⟨sb, 0, none⟩) fs.length fs.length], .agg #[.int .u8 13, .int .i64 a, .int .i64 b, .int .i64 c]] w fun e w' => e = .returned (.bool (fitsF fs f ⟨13, a, b, c⟩)) ∧ Below w.heap.size w w' := by
  have HR : Hid (fitsF fs f ⟨13, a, b, c⟩ = [a, b, c].all (inR f.r)) := rfl
  go_enter Tryz.func41, Tryz.ntmps41
  go_wp2_with fail
  refine (regs_any (three_blk (heap3 _ _ _ _))).mono ?_
  rintro e w1 ⟨rfl, h1⟩
  have HB : Hid (Below w.heap.size w w1) := bl3w h1
  clear h1
  generalize [a, b, c].all (inR f.r) = q at HR ⊢
  go_wp2
  go_ret
  exact ⟨ret_bool HR.out.symm, HB.out⟩
set_option maxRecDepth 100000 in
set_option maxHeartbeats 2000000 in
theorem fits_14 : Calls Tryz.prog 41 #[.agg #[.int .i64 f.p, .slice adh f.h.length caph, .int .i64 f.r, .slice adc f.nc capc, .slice adi f.cd.length capi, .slice (some ⟨sb, 0, none⟩) fs.length fs.length], .agg #[.int .u8 14, .int .i64 a, .int .i64 b, .int .i64 c]] w fun e w' => e = .returned (.bool (fitsF fs f ⟨14, a, b, c⟩)) ∧ Below w.heap.size w w' := by
  have HR : Hid (fitsF fs f ⟨14, a, b, c⟩ = [a, b, c].all (inR f.r)) := rfl
  go_enter Tryz.func41, Tryz.ntmps41
  go_wp2_with fail
  refine (regs_any (three_blk (heap3 _ _ _ _))).mono ?_
  rintro e w1 ⟨rfl, h1⟩
  have HB : Hid (Below w.heap.size w w1) := bl3w h1
  clear h1
  generalize [a, b, c].all (inR f.r) = q at HR ⊢
  go_wp2
  go_ret
  exact ⟨ret_bool HR.out.symm, HB.out⟩
set_option maxRecDepth 100000 in
set_option maxHeartbeats 2000000 in
theorem fits_15 : Calls Tryz.prog 41 #[.agg #[.int .i64 f.p, .slice adh f.h.length caph, .int .i64 f.r, .slice adc f.nc capc, .slice adi f.cd.length capi, .slice (some ⟨sb, 0, none⟩) fs.length fs.length], .agg #[.int .u8 15, .int .i64 a, .int .i64 b, .int .i64 c]] w fun e w' => e = .returned (.bool (fitsF fs f ⟨15, a, b, c⟩)) ∧ Below w.heap.size w w' := by
  go_enter Tryz.func41, Tryz.ntmps41
  go_wp2_with fail
  refine place_any.mono ?_
  rintro e w1 ⟨rfl, h1⟩
  have HB : Hid (Below w.heap.size w w1) := bl2w h1
  clear h1
  go_wp2
  go_ret
  exact ⟨rfl, HB.out⟩
set_option maxRecDepth 100000 in
set_option maxHeartbeats 2000000 in
theorem fits_16 : Calls Tryz.prog 41 #[.agg #[.int .i64 f.p, .slice adh f.h.length caph, .int .i64 f.r, .slice adc f.nc capc, .slice adi f.cd.length capi, .slice (some ⟨sb, 0, none⟩) fs.length fs.length], .agg #[.int .u8 16, .int .i64 a, .int .i64 b, .int .i64 c]] w fun e w' => e = .returned (.bool (fitsF fs f ⟨16, a, b, c⟩)) ∧ Below w.heap.size w w' := by
  go_enter Tryz.func41, Tryz.ntmps41
  go_wp2_with fail
  refine place_any.mono ?_
  rintro e w1 ⟨rfl, h1⟩
  have HB : Hid (Below w.heap.size w w1) := bl2w h1
  clear h1
  go_wp2
  go_ret
  exact ⟨rfl, HB.out⟩
set_option maxRecDepth 100000 in
set_option maxHeartbeats 2000000 in
theorem fits_17 : Calls Tryz.prog 41 #[.agg #[.int .i64 f.p, .slice adh f.h.length caph, .int .i64 f.r, .slice adc f.nc capc, .slice adi f.cd.length capi, .slice (some ⟨sb, 0, none⟩) fs.length fs.length], .agg #[.int .u8 17, .int .i64 a, .int .i64 b, .int .i64 c]] w fun e w' => e = .returned (.bool (fitsF fs f ⟨17, a, b, c⟩)) ∧ Below w.heap.size w w' := by
  go_enter Tryz.func41, Tryz.ntmps41
  go_wp2_with fail
  refine (regs_any (one_blk (heap3 _ _ _ _))).mono ?_
  rintro e w1 ⟨rfl, h1⟩
  have HB : Hid (Below w.heap.size w w1) := bl3w h1
  obtain ⟨g0, g1⟩ := heap3_0 h1
  have c00 : w1.cell? ⟨w.heap.size, 0, none⟩ = some (.int .i64 f.p) := by simp [World.cell?, g0]
  have c01 : w1.cell? ⟨w.heap.size, 1, none⟩ = some (.slice adh f.h.length caph) := by simp [World.cell?, g0]
  have c02 : w1.cell? ⟨w.heap.size, 2, none⟩ = some (.int .i64 f.r) := by simp [World.cell?, g0]
  have c03 : w1.cell? ⟨w.heap.size, 3, none⟩ = some (.slice adc f.nc capc) := by simp [World.cell?, g0]
  have c04 : w1.cell? ⟨w.heap.size, 4, none⟩ = some (.slice adi f.cd.length capi) := by simp [World.cell?, g0]
  have c05 : w1.cell? ⟨w.heap.size, 5, none⟩ = some (.slice (some ⟨sb, 0, none⟩) fs.length fs.length) := by simp [World.cell?, g0]
  have c12 : w1.cell? ⟨w.heap.size + 1, 2, none⟩ = some (.int .i64 b) := by simp [World.cell?, g1]
  have HR : Hid (fitsF fs f ⟨17, a, b, c⟩ = ([a].all (inR f.r) && inR f.cd.length b)) := rfl
  clear h1 g0 g1
  generalize [a].all (inR f.r) = q at HR ⊢
  cases q
  · go_wp2
    go_ret
    exact ⟨ret_bool HR.out.symm, HB.out⟩
  · go_wp2_with fail
    refine place_any.mono ?_
    rintro e w2 ⟨rfl, h2⟩
    have HB2 : Hid (Below w.heap.size w w2) := HB.out.trans (h2.mono HB.out.size)
    clear h2
    generalize inR f.cd.length b = q2 at HR ⊢
    go_wp2
    go_ret
    exact ⟨ret_bool HR.out.symm, HB2.out⟩
set_option maxRecDepth 100000 in
set_option maxHeartbeats 2000000 in
theorem fits_18 : Calls Tryz.prog 41 #[.agg #[.int .i64 f.p, .slice adh f.h.length caph, .int .i64 f.r, .slice adc f.nc capc, .slice adi f.cd.length capi, .slice (some ⟨sb, 0, none⟩) fs.length fs.length], .agg #[.int .u8 18, .int .i64 a, .int .i64 b, .int .i64 c]] w fun e w' => e = .returned (.bool (fitsF fs f ⟨18, a, b, c⟩)) ∧ Below w.heap.size w w' := by
  have HR : Hid (fitsF fs f ⟨18, a, b, c⟩ = [a].all (inR f.r)) := rfl
  go_enter Tryz.func41, Tryz.ntmps41
  go_wp2_with fail
  refine (regs_any (one_blk (heap3 _ _ _ _))).mono ?_
  rintro e w1 ⟨rfl, h1⟩
  have HB : Hid (Below w.heap.size w w1) := bl3w h1
  clear h1
  generalize [a].all (inR f.r) = q at HR ⊢
  go_wp2
  go_ret
  exact ⟨ret_bool HR.out.symm, HB.out⟩
set_option maxRecDepth 100000 in
set_option maxHeartbeats 2000000 in
theorem fits_19 : Calls Tryz.prog 41 #[.agg #[.int .i64 f.p, .slice adh f.h.length caph, .int .i64 f.r, .slice adc f.nc capc, .slice adi f.cd.length capi, .slice (some ⟨sb, 0, none⟩) fs.length fs.length], .agg #[.int .u8 19, .int .i64 a, .int .i64 b, .int .i64 c]] w fun e w' => e = .returned (.bool (fitsF fs f ⟨19, a, b, c⟩)) ∧ Below w.heap.size w w' := by
  have HR : Hid (fitsF fs f ⟨19, a, b, c⟩ = [a].all (inR f.r)) := rfl
  go_enter Tryz.func41, Tryz.ntmps41
  go_wp2_with fail
  refine (regs_any (one_blk (heap3 _ _ _ _))).mono ?_
  rintro e w1 ⟨rfl, h1⟩
  have HB : Hid (Below w.heap.size w w1) := bl3w h1
  clear h1
  generalize [a].all (inR f.r) = q at HR ⊢
  go_wp2
  go_ret
  exact ⟨ret_bool HR.out.symm, HB.out⟩
set_option maxRecDepth 100000 in
set_option maxHeartbeats 2000000 in
theorem fits_20 : Calls Tryz.prog 41 #[.agg #[.int .i64 f.p, .slice adh f.h.length caph, .int .i64 f.r, .slice adc f.nc capc, .slice adi f.cd.length capi, .slice (some ⟨sb, 0, none⟩) fs.length fs.length], .agg #[.int .u8 20, .int .i64 a, .int .i64 b, .int .i64 c]] w fun e w' => e = .returned (.bool (fitsF fs f ⟨20, a, b, c⟩)) ∧ Below w.heap.size w w' := by
  go_enter Tryz.func41, Tryz.ntmps41
  go_wp2_with fail
  refine (regs_any (one_blk (heap3 _ _ _ _))).mono ?_
  rintro e w1 ⟨rfl, h1⟩
  have HB : Hid (Below w.heap.size w w1) := bl3w h1
  obtain ⟨g0, g1⟩ := heap3_0 h1
  have c00 : w1.cell? ⟨w.heap.size, 0, none⟩ = some (.int .i64 f.p) := by simp [World.cell?, g0]
  have c01 : w1.cell? ⟨w.heap.size, 1, none⟩ = some (.slice adh f.h.length caph) := by simp [World.cell?, g0]
  have c02 : w1.cell? ⟨w.heap.size, 2, none⟩ = some (.int .i64 f.r) := by simp [World.cell?, g0]
  have c03 : w1.cell? ⟨w.heap.size, 3, none⟩ = some (.slice adc f.nc capc) := by simp [World.cell?, g0]
  have c04 : w1.cell? ⟨w.heap.size, 4, none⟩ = some (.slice adi f.cd.length capi) := by simp [World.cell?, g0]
  have c05 : w1.cell? ⟨w.heap.size, 5, none⟩ = some (.slice (some ⟨sb, 0, none⟩) fs.length fs.length) := by simp [World.cell?, g0]
  have c12 : w1.cell? ⟨w.heap.size + 1, 2, none⟩ = some (.int .i64 b) := by simp [World.cell?, g1]
  have HR : Hid (fitsF fs f ⟨20, a, b, c⟩ = ([a].all (inR f.r) && inR f.cd.length b)) := rfl
  clear h1 g0 g1
  generalize [a].all (inR f.r) = q at HR ⊢
  cases q
  · go_wp2
    go_ret
    exact ⟨ret_bool HR.out.symm, HB.out⟩
  · go_wp2_with fail
    refine place_any.mono ?_
    rintro e w2 ⟨rfl, h2⟩
    have HB2 : Hid (Below w.heap.size w w2) := HB.out.trans (h2.mono HB.out.size)
    clear h2
    generalize inR f.cd.length b = q2 at HR ⊢
    go_wp2
    go_ret
    exact ⟨ret_bool HR.out.symm, HB2.out⟩
set_option maxRecDepth 100000 in
set_option maxHeartbeats 2000000 in
theorem fits_21 : Calls Tryz.prog 41 #[.agg #[.int .i64 f.p, .slice adh f.h.length caph, .int .i64 f.r, .slice adc f.nc capc, .slice adi f.cd.length capi, .slice (some ⟨sb, 0, none⟩) fs.length fs.length], .agg #[.int .u8 21, .int .i64 a, .int .i64 b, .int .i64 c]] w fun e w' => e = .returned (.bool (fitsF fs f ⟨21, a, b, c⟩)) ∧ Below w.heap.size w w' := by
  go_enter Tryz.func41, Tryz.ntmps41
  go_wp2
  go_ret
  exact ⟨rfl, bl2 _ _ _⟩
set_option maxRecDepth 100000 in
set_option maxHeartbeats 2000000 in
theorem fits_more {op : Int} (ho : 22 ≤ op) : Calls Tryz.prog 41 #[.agg #[.int .i64 f.p, .slice adh f.h.length caph, .int .i64 f.r, .slice adc f.nc capc, .slice adi f.cd.length capi, .slice (some ⟨sb, 0, none⟩) fs.length fs.length], .agg #[.int .u8 op, .int .i64 a, .int .i64 b, .int .i64 c]] w fun e w' => e = .returned (.bool false) ∧ Below w.heap.size w w' := by
  have n0 : (op == 0) = false := by simp; omega
  have n1 : (op == 1) = false := by simp; omega
  have n2 : (op == 2) = false := by simp; omega
  have n3 : (op == 3) = false := by simp; omega
  have n4 : (op == 4) = false := by simp; omega
  have n5 : (op == 5) = false := by simp; omega
  have n6 : (op == 6) = false := by simp; omega
  have n7 : (op == 7) = false := by simp; omega
  have n8 : (op == 8) = false := by simp; omega
  have n9 : (op == 9) = false := by simp; omega
  have n10 : (op == 10) = false := by simp; omega
  have n11 : (op == 11) = false := by simp; omega
  have n12 : (op == 12) = false := by simp; omega
  have n13 : (op == 13) = false := by simp; omega
  have n14 : (op == 14) = false := by simp; omega
  have n15 : (op == 15) = false := by simp; omega
  have n16 : (op == 16) = false := by simp; omega
  have n17 : (op == 17) = false := by simp; omega
  have n18 : (op == 18) = false := by simp; omega
  have n19 : (op == 19) = false := by simp; omega
  have n20 : (op == 20) = false := by simp; omega
  have n21 : (op == 21) = false := by simp; omega
  clear ho
  go_enter Tryz.func41, Tryz.ntmps41
  go_wp2
  go_ret
  exact ⟨rfl, bl2 _ _ _⟩
end
theorem fits_any {fs : List VF} {f : VF} {hv cv iv lv : Value} {x : VI} {w : World} (hL : Lk w fs f hv cv iv lv) (hlen : fs.length ≤ 100) :
    Calls Tryz.prog 41 #[.agg #[.int .i64 f.p, hv, .int .i64 f.r, cv, iv, lv], x.v] w fun e w' => e = .returned (.bool (fitsF fs f x)) ∧ Below w.heap.size w w' := by
  have hL0 := hL
  obtain ⟨hF, sb, cs, rfl, _, _⟩ := hL
  obtain ⟨adh, caph, rfl, _, _, _⟩ := hF.h
  obtain ⟨adc, capc, rfl⟩ := hF.c
  obtain ⟨adi, capi, rfl, _, _, _⟩ := hF.i
  clear hF
  obtain ⟨op, a, b, c⟩ := x
  match op with
  | 0 => exact fits_0
  | 1 => exact fits_1
  | 2 => exact fits_2
  | 3 => exact fits_3
  | 4 => exact fits_4
  | 5 => exact fits_5 hL0 hlen
  | 6 => exact fits_6
  | 7 => exact fits_7
  | 8 => exact fits_8
  | 9 => exact fits_9
  | 10 => exact fits_10
  | 11 => exact fits_11
  | 12 => exact fits_12
  | 13 => exact fits_13
  | 14 => exact fits_14
  | 15 => exact fits_15
  | 16 => exact fits_16
  | 17 => exact fits_17
  | 18 => exact fits_18
  | 19 => exact fits_19
  | 20 => exact fits_20
  | 21 => exact fits_21
  | op + 22 => exact fits_more (by show (22 : Int) ≤ ((op + 22 : Nat) : Int); omega)
end Go.Proofs.YtpboencfnjmmbaaGreatDoor
