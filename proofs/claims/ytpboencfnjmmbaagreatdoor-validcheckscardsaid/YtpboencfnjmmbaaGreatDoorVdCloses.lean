/-
  Package valid: closes.
  Conditions: as each theorem says.
-/
import Derived.Test.YtpboencfnjmmbaaGreatDoorVdSpans
namespace Go.Proofs.YtpboencfnjmmbaaGreatDoor
open Go.RowKit
set_option linter.unusedVariables false
set_option linter.unusedSimpArgs false
/-- What a look names. -/
structure Lk (w : World) (fs : List VF) (f : VF) (hv cv iv lv : Value) : Prop where
  f : VFin w f hv cv iv
  l : ∃ sb cs, lv = .slice (some ⟨sb, 0, none⟩) fs.length fs.length ∧ w.heap[sb]? = some (.cells cs 120 (0, 0)) ∧ SpC fs fs.length 0 cs
theorem three_blk {w : World} {g : Nat} {n m q : Int} {fz : Nat × Nat} (h : w.heap[g]? = some (.cells #[.int .i64 n, .int .i64 m, .int .i64 q] 3 fz)) : ZSl w (.slice (some ⟨g, 0, none⟩) 3 3) [n, m, q] :=
  ⟨_, _, rfl, Nat.le_refl _, by simp [maxLen], fun _ => ⟨_, 0, rfl, lt_of_block h, fun k x hk => by
    match k, hk with
    | 0, hk => simp at hk; subst hk; simp only [World.cell?, h]; rfl
    | 1, hk => simp at hk; subst hk; simp only [World.cell?, h]; rfl
    | 2, hk => simp at hk; subst hk; simp only [World.cell?, h]; rfl⟩⟩
theorem Lk.up {w w' : World} {fs : List VF} {f : VF} {hv cv iv lv : Value} (h : Lk w fs f hv cv iv lv) (hb : Below w.heap.size w w') : Lk w' fs f hv cv iv lv := by
  obtain ⟨h1, sb, cs, h2, h3, h4⟩ := h
  exact ⟨h1.up hb, sb, cs, h2, (hb.block _ (lt_of_block h3)).trans h3, h4⟩
def heldOf (fs : List VF) (b : Int) : List Int := ((fs[b.toNat]?).map (·.h)).getD []
def closesF (fs : List VF) (r a b : Int) : Bool := !decide (b = 0) && inR fs.length b && [a, lo (heldOf fs b), hi (heldOf fs b)].all (inR r)
set_option maxRecDepth 100000 in
set_option maxHeartbeats 2000000 in
theorem closes_any {fs : List VF} {f : VF} {hv cv iv lv : Value} {op : Nat} {a b c : Int} {w : World} (hL : Lk w fs f hv cv iv lv) (hlen : fs.length ≤ 100) :
    Calls Tryz.prog 65 #[.agg #[.int .i64 f.p, hv, .int .i64 f.r, cv, iv, lv], .agg #[.int .u8 (op : Int), .int .i64 a, .int .i64 b, .int .i64 c]] w fun e w' => e = .returned (.bool (closesF fs f.r a b)) ∧ Below w.heap.size w w' := by
  obtain ⟨hF, sb, cs, rfl, hsb, hsc⟩ := hL
  have HSB := Lib.hid hsb
  have HSC := Lib.hid hsc
  obtain ⟨adh, caph, rfl, _, _, _⟩ := hF.h
  obtain ⟨adc, capc, rfl⟩ := hF.c
  obtain ⟨adi, capi, rfl, _, _, _⟩ := hF.i
  have hbl := lt_of_block hsb
  clear hsb hsc hF
  by_cases hb0 : b = 0
  · subst hb0
    have HR : Hid (closesF fs f.r a 0 = false) := by refine Lib.hid ?_; simp [closesF]
    go_enter Tryz.func65, Tryz.ntmps65
    go_wp2
    go_ret
    exact ⟨ret_bool HR.out.symm, (bl0 _ _).alloc (by simp) _⟩
  have hne : (b == 0) = false := by simpa using hb0
  have HNE : Hid (¬ b = 0) := hb0
  clear hb0
  go_enter Tryz.func65, Tryz.ntmps65
  go_wp2_with fail
  obtain ⟨W1, hW1⟩ : ∃ W1, W1 = (w.alloc (.cells #[.int .i64 f.p, .slice adh f.h.length caph, .int .i64 f.r, .slice adc f.nc capc, .slice adi f.cd.length capi, .slice (some ⟨sb, 0, none⟩) fs.length fs.length] 91)).alloc (.cells #[.int .u8 (op : Int), .int .i64 a, .int .i64 b, .int .i64 c] 51) := ⟨_, rfl⟩
  have hz1 : W1.heap.size = w.heap.size + 1 + 1 := by rw [hW1]; simp
  have HB1 : Hid (Below w.heap.size w W1) := by rw [hW1]; exact (bl0 _ _).alloc (by simp) _
  have B0 : Hid (W1.heap[w.heap.size]? = some (.cells #[.int .i64 f.p, .slice adh f.h.length caph, .int .i64 f.r, .slice adc f.nc capc, .slice adi f.cd.length capi, .slice (some ⟨sb, 0, none⟩) fs.length fs.length] 91 (0, 0))) := by
    rw [hW1, Below.heap_alloc _ _ _ (by simp)]; exact heap_alloc_new _ _
  have B1 : Hid (W1.heap[w.heap.size + 1]? = some (.cells #[.int .u8 (op : Int), .int .i64 a, .int .i64 b, .int .i64 c] 51 (0, 0))) := by
    rw [hW1, show w.heap.size + 1 = (w.alloc (.cells #[.int .i64 f.p, .slice adh f.h.length caph, .int .i64 f.r, .slice adc f.nc capc, .slice adi f.cd.length capi, .slice (some ⟨sb, 0, none⟩) fs.length fs.length] 91)).heap.size from by simp]; exact heap_alloc_new _ _
  have h1 := one_int (w := W1) (n := b)
  rw [hz1] at h1
  rw [← hW1]
  have HZ1 := Lib.hid hz1
  clear hW1 hz1
  refine (within_any h1).mono ?_
  clear h1
  rintro e w2 ⟨rfl, rfl⟩
  by_cases hin : inR (fs.length : Int) b = true
  · have hbr : 0 ≤ b ∧ b < (fs.length : Int) := by simpa [inR] using hin
    obtain ⟨fb, hfb⟩ : ∃ fb, fs[b.toNat]? = some fb := ⟨_, List.getElem?_eq_getElem (by omega)⟩
    obtain ⟨d0, d1⟩ := HSC.out.2 b.toNat fb hfb
    have hlt : b.toNat < fs.length := by omega
    rw [show part fs.length 0 b.toNat fb.h = fb.h from by simp [part, hlt]] at d0 d1
    have HR : Hid (closesF fs f.r a b = [a, lo fb.h, hi fb.h].all (inR f.r)) := by refine Lib.hid ?_; simp only [closesF, heldOf, hfb, hin, decide_eq_false HNE.out]; simp
    obtain ⟨n, rfl⟩ : ∃ n : Nat, b = (n : Int) := ⟨b.toNat, by omega⟩
    rw [Int.toNat_natCast] at d0 d1
    rw [show [(n : Int)].all (inR (fs.length : Int)) = true from by simp [hin]]
    obtain ⟨W2, hW2⟩ : ∃ W2, W2 = W1.alloc (.cells #[.int .i64 (n : Int)] 3) := ⟨_, rfl⟩
    have HB2 : Hid (Below w.heap.size w W2) := by rw [hW2]; exact HB1.out.alloc HB1.out.size _
    have e0 := (show W2.heap[w.heap.size]? = W1.heap[w.heap.size]? from by rw [hW2, Below.heap_alloc _ _ _ (by rw [HZ1.out]; omega)]).trans B0.out
    have e1 := (show W2.heap[w.heap.size + 1]? = W1.heap[w.heap.size + 1]? from by rw [hW2, Below.heap_alloc _ _ _ (by rw [HZ1.out]; omega)]).trans B1.out
    have e2 : W2.heap[sb]? = _ := (HB2.out.block _ hbl).trans HSB.out
    have hz2 : W2.heap.size = w.heap.size + 1 + 1 + 1 := by rw [hW2]; simp [HZ1.out]
    have c00 : W2.cell? ⟨w.heap.size, 0, none⟩ = some (.int .i64 f.p) := by simp [World.cell?, e0]
    have c01 : W2.cell? ⟨w.heap.size, 1, none⟩ = some (.slice adh f.h.length caph) := by simp [World.cell?, e0]
    have c02 : W2.cell? ⟨w.heap.size, 2, none⟩ = some (.int .i64 f.r) := by simp [World.cell?, e0]
    have c03 : W2.cell? ⟨w.heap.size, 3, none⟩ = some (.slice adc f.nc capc) := by simp [World.cell?, e0]
    have c04 : W2.cell? ⟨w.heap.size, 4, none⟩ = some (.slice adi f.cd.length capi) := by simp [World.cell?, e0]
    have c05 : W2.cell? ⟨w.heap.size, 5, none⟩ = some (.slice (some ⟨sb, 0, none⟩) fs.length fs.length) := by simp [World.cell?, e0]
    have c11 : W2.cell? ⟨w.heap.size + 1, 1, none⟩ = some (.int .i64 a) := by simp [World.cell?, e1]
    have c12 : W2.cell? ⟨w.heap.size + 1, 2, none⟩ = some (.int .i64 (n : Int)) := by simp [World.cell?, e1]
    have g0 : W2.cell? ⟨sb, n * 2, none⟩ = some (.int .i64 (lo fb.h)) := by simp only [World.cell?, e2]; exact d0
    have g1 : W2.cell? ⟨sb, n * 2 + 1, none⟩ = some (.int .i64 (hi fb.h)) := by simp only [World.cell?, e2]; exact d1
    first | rw [← hW2] | skip
    generalize lo fb.h = L at *
    generalize hi fb.h = H at *
    have HZ2 := Lib.hid hz2
    clear hW2 e0 e1 e2 hin hfb d0 d1 hz2
    go_wp2_with fail
    obtain ⟨RR, hRR⟩ : ∃ RR, RR = [a, L, H].all (inR f.r) := ⟨_, rfl⟩
    have HRR := Lib.hid hRR
    rw [← hRR] at HR
    clear hRR
    have hidx : 0 ≤ (n : Int) ∧ (n : Int) < (fs.length : Int) := hbr
    have hb0 : w.heap.size < W2.heap.size := by rw [HZ2.out]; omega
    have hb1 : w.heap.size + 1 < W2.heap.size := by rw [HZ2.out]; omega
    have hb2 : sb < W2.heap.size := Nat.lt_of_lt_of_le hbl HB2.out.size
    refine region_sh (fun | 0 => some (.agg #[.int .i64 f.p, .slice adh f.h.length caph, .int .i64 f.r, .slice adc f.nc capc, .slice adi f.cd.length capi, .slice (some ⟨sb, 0, none⟩) fs.length fs.length]) | 1 => some (.pointer (some ⟨w.heap.size + 1, 1, none⟩)) | 2 => some (.int .i64 a) | 3 => some (.pointer (some ⟨w.heap.size, 5, none⟩)) | 4 => some (.slice (some ⟨sb, 0, none⟩) fs.length fs.length) | 5 => some (.pointer (some ⟨w.heap.size + 1, 2, none⟩)) | 6 => some (.int .i64 (n : Int)) | 7 => some (.pointer (some ⟨sb, n * 2, none⟩)) | 8 => some (.pointer (some ⟨sb, n * 2, none⟩)) | 9 => some (.int .i64 L) | 10 => some (.pointer (some ⟨w.heap.size, 5, none⟩)) | 11 => some (.slice (some ⟨sb, 0, none⟩) fs.length fs.length) | 12 => some (.pointer (some ⟨w.heap.size + 1, 2, none⟩)) | 13 => some (.int .i64 (n : Int)) | 14 => some (.pointer (some ⟨sb, n * 2, none⟩)) | 15 => some (.pointer (some ⟨sb, n * 2 + 1, none⟩)) | 16 => some (.int .i64 H) | 17 => some (.slice (some ⟨W2.heap.size, 0, none⟩) 3 3) | 18 => some (.bool (RR)) | 19 => some (.bool (RR)) | _ => none) (fun l a9 W => JB 17 (.cells #[.int .i64 a, .int .i64 L, .int .i64 H] 3) W2 l a9 W) (by kernel_rfl) (by kernel_rfl) (by kernel_rfl) (JB.start) ?_ ?_
    · intro hon q hq LL a1 W hC hl hBh hS hJ K hK
      have hqn : q < 20 := hq
      clear hq
      rcases (show q = 0 ∨ q = 1 ∨ q = 2 ∨ q = 3 ∨ q = 4 ∨ q = 5 ∨ q = 6 ∨ q = 7 ∨ q = 8 ∨ q = 9 ∨ q = 10 ∨ q = 11 ∨ q = 12 ∨ q = 13 ∨ q = 14 ∨ q = 15 ∨ q = 16 ∨ q = 17 ∨ q = 18 ∨ q = 19 from by omega) with rfl | rfl | rfl | rfl | rfl | rfl | rfl | rfl | rfl | rfl | rfl | rfl | rfl | rfl | rfl | rfl | rfl | rfl | rfl | rfl
      · have e2 := (eval_tmp a1 2).symm.trans ((hS.kept 2 (by kernel_rfl)).trans rfl)
        have qc00 : W.cell? ⟨w.heap.size, 0, none⟩ = some (.int .i64 f.p) := (vcell (hJ.b.block _ hb0)).trans c00
        have qc01 : W.cell? ⟨w.heap.size, 1, none⟩ = some (.slice adh f.h.length caph) := (vcell (hJ.b.block _ hb0)).trans c01
        have qc02 : W.cell? ⟨w.heap.size, 2, none⟩ = some (.int .i64 f.r) := (vcell (hJ.b.block _ hb0)).trans c02
        have qc03 : W.cell? ⟨w.heap.size, 3, none⟩ = some (.slice adc f.nc capc) := (vcell (hJ.b.block _ hb0)).trans c03
        have qc04 : W.cell? ⟨w.heap.size, 4, none⟩ = some (.slice adi f.cd.length capi) := (vcell (hJ.b.block _ hb0)).trans c04
        have qc05 : W.cell? ⟨w.heap.size, 5, none⟩ = some (.slice (some ⟨sb, 0, none⟩) fs.length fs.length) := (vcell (hJ.b.block _ hb0)).trans c05
        refine wpOp_step rfl (fun K' hK' => ?_)
        go_simp
        exact hK' _ _ (hK _ _ (hS.put hon (i := 0) rfl rfl (fun u hu => by cases hu; rfl)) (hJ.pure (by decide)))
      · have e3 := (eval_tmp a1 3).symm.trans ((hS.kept 3 (by kernel_rfl)).trans rfl)
        refine wpOp_step rfl (fun K' hK' => ?_)
        go_simp
        exact hK' _ _ (hK _ _ (hS.put hon (i := 1) rfl rfl (fun u hu => by cases hu; rfl)) (hJ.pure (by decide)))
      · have e19 := (eval_tmp a1 19).symm.trans (hS.get hBh (i := 2) rfl 1 (by simp) rfl rfl rfl)
        have qc11 : W.cell? ⟨w.heap.size + 1, 1, none⟩ = some (.int .i64 a) := (vcell (hJ.b.block _ hb1)).trans c11
        refine wpOp_step rfl (fun K' hK' => ?_)
        go_simp
        exact hK' _ _ (hK _ _ (hS.put hon (i := 2) rfl rfl (fun u hu => by cases hu; rfl)) (hJ.pure (by decide)))
      · have e2 := (eval_tmp a1 2).symm.trans ((hS.kept 2 (by kernel_rfl)).trans rfl)
        refine wpOp_step rfl (fun K' hK' => ?_)
        go_simp
        exact hK' _ _ (hK _ _ (hS.put hon (i := 3) rfl rfl (fun u hu => by cases hu; rfl)) (hJ.pure (by decide)))
      · have e21 := (eval_tmp a1 21).symm.trans (hS.get hBh (i := 4) rfl 3 (by simp) rfl rfl rfl)
        have qc05 : W.cell? ⟨w.heap.size, 5, none⟩ = some (.slice (some ⟨sb, 0, none⟩) fs.length fs.length) := (vcell (hJ.b.block _ hb0)).trans c05
        refine wpOp_step rfl (fun K' hK' => ?_)
        go_simp
        exact hK' _ _ (hK _ _ (hS.put hon (i := 4) rfl rfl (fun u hu => by cases hu; rfl)) (hJ.pure (by decide)))
      · have e3 := (eval_tmp a1 3).symm.trans ((hS.kept 3 (by kernel_rfl)).trans rfl)
        refine wpOp_step rfl (fun K' hK' => ?_)
        go_simp
        exact hK' _ _ (hK _ _ (hS.put hon (i := 5) rfl rfl (fun u hu => by cases hu; rfl)) (hJ.pure (by decide)))
      · have e23 := (eval_tmp a1 23).symm.trans (hS.get hBh (i := 6) rfl 5 (by simp) rfl rfl rfl)
        have qc12 : W.cell? ⟨w.heap.size + 1, 2, none⟩ = some (.int .i64 (n : Int)) := (vcell (hJ.b.block _ hb1)).trans c12
        refine wpOp_step rfl (fun K' hK' => ?_)
        go_simp
        exact hK' _ _ (hK _ _ (hS.put hon (i := 6) rfl rfl (fun u hu => by cases hu; rfl)) (hJ.pure (by decide)))
      · have e22 := (eval_tmp a1 22).symm.trans (hS.get hBh (i := 7) rfl 4 (by simp) rfl rfl rfl)
        have e24 := (eval_tmp a1 24).symm.trans (hS.get hBh (i := 7) rfl 6 (by simp) rfl rfl rfl)
        refine wpOp_step rfl (fun K' hK' => ?_)
        go_simp
        exact hK' _ _ (hK _ _ (hS.put hon (i := 7) rfl rfl (fun u hu => by cases hu; rfl)) (hJ.pure (by decide)))
      · have e25 := (eval_tmp a1 25).symm.trans (hS.get hBh (i := 8) rfl 7 (by simp) rfl rfl rfl)
        refine wpOp_step rfl (fun K' hK' => ?_)
        go_simp
        exact hK' _ _ (hK _ _ (hS.put hon (i := 8) rfl rfl (fun u hu => by cases hu; rfl)) (hJ.pure (by decide)))
      · have e26 := (eval_tmp a1 26).symm.trans (hS.get hBh (i := 9) rfl 8 (by simp) rfl rfl rfl)
        have qg0 : W.cell? ⟨sb, n * 2, none⟩ = some (.int .i64 L) := (vcell (hJ.b.block _ hb2)).trans g0
        refine wpOp_step rfl (fun K' hK' => ?_)
        go_simp
        exact hK' _ _ (hK _ _ (hS.put hon (i := 9) rfl rfl (fun u hu => by cases hu; rfl)) (hJ.pure (by decide)))
      · have e2 := (eval_tmp a1 2).symm.trans ((hS.kept 2 (by kernel_rfl)).trans rfl)
        refine wpOp_step rfl (fun K' hK' => ?_)
        go_simp
        exact hK' _ _ (hK _ _ (hS.put hon (i := 10) rfl rfl (fun u hu => by cases hu; rfl)) (hJ.pure (by decide)))
      · have e28 := (eval_tmp a1 28).symm.trans (hS.get hBh (i := 11) rfl 10 (by simp) rfl rfl rfl)
        have qc05 : W.cell? ⟨w.heap.size, 5, none⟩ = some (.slice (some ⟨sb, 0, none⟩) fs.length fs.length) := (vcell (hJ.b.block _ hb0)).trans c05
        refine wpOp_step rfl (fun K' hK' => ?_)
        go_simp
        exact hK' _ _ (hK _ _ (hS.put hon (i := 11) rfl rfl (fun u hu => by cases hu; rfl)) (hJ.pure (by decide)))
      · have e3 := (eval_tmp a1 3).symm.trans ((hS.kept 3 (by kernel_rfl)).trans rfl)
        refine wpOp_step rfl (fun K' hK' => ?_)
        go_simp
        exact hK' _ _ (hK _ _ (hS.put hon (i := 12) rfl rfl (fun u hu => by cases hu; rfl)) (hJ.pure (by decide)))
      · have e30 := (eval_tmp a1 30).symm.trans (hS.get hBh (i := 13) rfl 12 (by simp) rfl rfl rfl)
        have qc12 : W.cell? ⟨w.heap.size + 1, 2, none⟩ = some (.int .i64 (n : Int)) := (vcell (hJ.b.block _ hb1)).trans c12
        refine wpOp_step rfl (fun K' hK' => ?_)
        go_simp
        exact hK' _ _ (hK _ _ (hS.put hon (i := 13) rfl rfl (fun u hu => by cases hu; rfl)) (hJ.pure (by decide)))
      · have e29 := (eval_tmp a1 29).symm.trans (hS.get hBh (i := 14) rfl 11 (by simp) rfl rfl rfl)
        have e31 := (eval_tmp a1 31).symm.trans (hS.get hBh (i := 14) rfl 13 (by simp) rfl rfl rfl)
        refine wpOp_step rfl (fun K' hK' => ?_)
        go_simp
        exact hK' _ _ (hK _ _ (hS.put hon (i := 14) rfl rfl (fun u hu => by cases hu; rfl)) (hJ.pure (by decide)))
      · have e32 := (eval_tmp a1 32).symm.trans (hS.get hBh (i := 15) rfl 14 (by simp) rfl rfl rfl)
        refine wpOp_step rfl (fun K' hK' => ?_)
        go_simp
        exact hK' _ _ (hK _ _ (hS.put hon (i := 15) rfl rfl (fun u hu => by cases hu; rfl)) (hJ.pure (by decide)))
      · have e33 := (eval_tmp a1 33).symm.trans (hS.get hBh (i := 16) rfl 15 (by simp) rfl rfl rfl)
        have qg1 : W.cell? ⟨sb, n * 2 + 1, none⟩ = some (.int .i64 H) := (vcell (hJ.b.block _ hb2)).trans g1
        refine wpOp_step rfl (fun K' hK' => ?_)
        go_simp
        exact hK' _ _ (hK _ _ (hS.put hon (i := 16) rfl rfl (fun u hu => by cases hu; rfl)) (hJ.pure (by decide)))
      · have e20 := (eval_tmp a1 20).symm.trans (hS.get hBh (i := 17) rfl 2 (by simp) rfl rfl rfl)
        have e27 := (eval_tmp a1 27).symm.trans (hS.get hBh (i := 17) rfl 9 (by simp) rfl rfl rfl)
        have e34 := (eval_tmp a1 34).symm.trans (hS.get hBh (i := 17) rfl 16 (by simp) rfl rfl rfl)
        refine wpOp_step rfl (fun K' hK' => ?_)
        go_simp
        rw [hJ.s hl]
        exact hK' _ _ (hK _ _ (hS.put hon (i := 17) rfl rfl (fun u hu => by cases hu; rfl)) (hJ.make hl))
      · have e18 := (eval_tmp a1 18).symm.trans (hS.get hBh (i := 18) rfl 0 (by simp) rfl rfl rfl)
        have e35 := (eval_tmp a1 35).symm.trans (hS.get hBh (i := 18) rfl 17 (by simp) rfl rfl rfl)
        have hl17 : LL 17 = true := hBh _ rfl ⟨17, .data⟩ (by simp) rfl
        have hz3 : ZSl W (.slice (some ⟨W2.heap.size, 0, none⟩) 3 3) [a, L, H] := three_blk (hJ.r hl17)
        refine wpOp_call (f := 63) (args := #[.agg #[.int .i64 f.p, .slice adh f.h.length caph, .int .i64 f.r, .slice adc f.nc capc, .slice adi f.cd.length capi, .slice (some ⟨sb, 0, none⟩) fs.length fs.length], .slice (some ⟨W2.heap.size, 0, none⟩) 3 3]) (R := fun u W3 => u = .bool (RR) ∧ Below W.heap.size W W3) rfl rfl (by simp [execOp, resolve, invoke, e18, e35, go_sem]) ((regs_any hz3).mono fun e W3 ⟨h1, h2⟩ => ⟨_, h1, by rw [HRR.out], h2⟩) ?_
        rintro u W3 ⟨rfl, r2⟩
        exact hK _ _ (hS.put hon (i := 18) rfl rfl (fun u hu => by cases hu; rfl)) (hJ.call (by decide) hl17 r2)
      · have e36 := (eval_tmp a1 36).symm.trans (hS.get hBh (i := 19) rfl 18 (by simp) rfl rfl rfl)
        refine wpOp_step rfl (fun K' hK' => ?_)
        go_simp
        exact hK' _ _ (hK _ _ (hS.put hon (i := 19) rfl rfl (fun u hu => by cases hu; rfl)) (hJ.pure (by decide)))
    · intro LL a1 wz hl hS hJ
      have hfr := hS.frame [18, 19, 20, 21, 22, 23, 24, 25, 26, 27, 28, 29, 30, 31, 32, 33, 34, 35, 36, 4] rfl
      obtain ⟨zz, hz⟩ : ∃ z : Nat → Value, z = fun k => a1.eval (.tmp k) := ⟨_, rfl⟩
      rw [← hz] at hfr
      have z4 : zz 4 = .bool (RR) := by rw [hz]; exact hS.val 19 _ 4 _ rfl rfl rfl (hl 19 (by decide))
      first | refine (‹∀ (a : Act) (w : World), Code.wp Tryz.prog _ _ a w → _› a1 wz ?_) | skip
      rw [hfr]
      have HBZ : Hid (Below w.heap.size w wz) := HB2.out.trans (hJ.b.mono HB2.out.size)
      clear hfr hz hS hJ hl
      simp only [over, List.setIfInBounds_toArray, List.set_cons_zero, List.set_cons_succ, z4]
      clear z4
      go_wp2
      go_ret
      exact ⟨ret_bool HR.out.symm, HBZ.out⟩
  · have hin2 : inR (fs.length : Int) b = false := by simpa using hin
    have HR : Hid (closesF fs f.r a b = false) := by refine Lib.hid ?_; simp [closesF, hin2]
    rw [show [b].all (inR (fs.length : Int)) = false from by simp [hin2]]
    have HB2 : Hid (∀ o, Below w.heap.size w (W1.alloc o)) := fun o => HB1.out.alloc HB1.out.size o
    clear hin hin2
    go_wp2
    go_ret
    exact ⟨ret_bool HR.out.symm, HB2.out _⟩
end Go.Proofs.YtpboencfnjmmbaaGreatDoor
