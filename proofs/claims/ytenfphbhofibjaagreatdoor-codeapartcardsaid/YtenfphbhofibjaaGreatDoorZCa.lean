/-
 Instructions' texts tell which instruction it was; an array of three small numbers opened.
 Conditions: as each theorem says.
-/
import Derived.Test.YtenfphbhofibjaaGreatDoorZCd
import Derived.WideKeyArr2
import Derived.Test.YtenfphbhofibjaaGreatDoorZAw9
import Derived.Test.YtenfphbhofibjaaGreatDoorZSm
import Derived.Test.YtenfphbhofibjaaGreatDoorZFd
namespace Go.Proofs.YtenfphbhofibjaaGreatDoor
open Go.RowKit TM Go.Lib
set_option linter.unusedVariables false
set_option linter.unusedSimpArgs false
def numVal (l : List UInt8) : Nat := l.foldl (fun a c => a * 10 + (c.toNat - 48)) 0
theorem numVal_digits (u : Nat) : numVal (decDigits u) = u := by
 induction u using Nat.strongRecOn with
 | ind u ih =>
  by_cases h : u < 10
  ·rw [decDigits_one h]
   simp [numVal, UInt8.toNat_ofNat']
   omega
  ·rw [decDigits, dif_neg h]
   have := ih (u / 10) (by omega)
   unfold numVal at this ⊢
   rw [List.foldl_append, this]
   simp [UInt8.toNat_ofNat']
   omega
theorem digits_ge (u : Nat) : ∀ c ∈ decDigits u, 48 ≤ c.toNat := by
 induction u using Nat.strongRecOn with
 | ind u ih =>
  by_cases h : u < 10
  ·rw [decDigits_one h]
   intro c hc
   simp at hc
   rw [hc]
   simp [UInt8.toNat_ofNat']
   omega
  ·rw [decDigits, dif_neg h]
   intro c hc
   rcases List.mem_append.1 hc with hc | hc
   ·exact ih (u / 10) (by omega) c hc
   ·simp at hc
    rw [hc]
    simp [UInt8.toNat_ofNat']
    omega
theorem itoa_inj (n m : Int) (h : itoa n = itoa m) : n = m := by
 unfold itoa at h
 split at h <;> split at h
 ·have := congrArg numVal (List.cons.inj h).2
  rw [numVal_digits, numVal_digits] at this
  omega
 ·exact absurd (digits_ge m.toNat 45 (h ▸ by simp)) (by decide)
 ·exact absurd (digits_ge n.toNat 45 (h.symm ▸ by simp)) (by decide)
 ·have := congrArg numVal h
  rw [numVal_digits, numVal_digits] at this
  omega
theorem itoa_no (n : Int) : (32 : UInt8) ∉ itoa n := by
 unfold itoa
 split
 ·intro h
  rcases List.mem_cons.1 h with h | h
  ·exact absurd h (by decide)
  ·exact absurd (digits_ge _ _ h) (by decide)
 ·intro h
  exact absurd (digits_ge _ _ h) (by decide)
theorem cut_eq : ∀ {x y r s : List UInt8}, (32 : UInt8) ∉ x → (32 : UInt8) ∉ y → x ++ 32 :: r = y ++ 32 :: s → x = y ∧ r = s
 | [], [], r, s, _, _, h => by simp at h; exact ⟨rfl, h⟩
 | [], b :: y, r, s, _, hy, h => by simp at h; exact absurd (by rw [← h.1]; simp) hy
 | a :: x, [], r, s, hx, _, h => by simp at h; exact absurd (by rw [h.1]; simp) hx
 | a :: x, b :: y, r, s, hx, hy, h => by
  simp only [List.cons_append, List.cons.injEq] at h
  obtain ⟨h1, h2⟩ := cut_eq (fun k => hx (by simp [k])) (fun k => hy (by simp [k])) h.2
  exact ⟨by rw [h.1, h1], h2⟩
set_option maxRecDepth 100000 in
theorem opT_no : ∀ i, i < 22 → (32 : UInt8) ∉ opT.getD i [] := by decide
set_option maxRecDepth 100000 in
theorem opT_inj : ∀ i, i < 22 → ∀ j, j < 22 → opT.getD i [] = opT.getD j [] → i = j := by decide
theorem ins_inj {i j : Nat} {a b c a' b' c' : Int} (hi : i < 22) (hj : j < 22) (h : insT i a b c = insT j a' b' c') : i = j ∧ a = a' ∧ b = b' ∧ c = c' := by
 simp only [insT, hi, hj, if_true, numsT] at h
 simp only [List.cons_append, List.append_assoc, List.append_nil] at h
 obtain ⟨h1, h⟩ := cut_eq (opT_no i hi) (opT_no j hj) h
 obtain ⟨h2, h⟩ := cut_eq (itoa_no a) (itoa_no a') h
 obtain ⟨h3, h⟩ := cut_eq (itoa_no b) (itoa_no b') h
 exact ⟨opT_inj i hi j hj h1, itoa_inj _ _ h2, itoa_inj _ _ h3, itoa_inj _ _ h⟩
set_option maxRecDepth 100000 in
theorem arrKey3 : Go.WideMaps.ArrKey Tryz.prog 80 79 3 := ⟨Tryz.underlying80, by kernel_rfl, by kernel_rfl, by kernel_rfl⟩
set_option maxRecDepth 1000000 in
theorem open_i8x3 {H : Type} {enc : TypeId × Value → H} {W : World} {base b0 : Nat} {sp : Nat → Bool} {held : Bool} {v : Value} {d : DataW H} {p : List MemPlace} (hval : Value.okWide Tryz.prog W .any b0 80 v) (h : DataW.Trod enc Tryz.prog W base sp held 80 v d p) :
 ∃ a b c : Int, v = .agg #[.int .i8 a, .int .i8 b, .int .i8 c] ∧ (-128 ≤ a ∧ a ≤ 127) ∧ (-128 ≤ b ∧ b ≤ 127) ∧ (-128 ≤ c ∧ c ≤ 127) := by
 obtain ⟨xs, rfl, hn⟩ := Go.WideMaps.okWide_arr arrKey3 hval
 obtain ⟨fuel, hf⟩ := h
 cases fuel with
 | zero => simp [DataW.trod] at hf
 | succ m =>
  rw [DataW.trod_step] at hf
  unfold DataW.trodStep at hf
  simp only [arrKey3.hu, Value.cells] at hf
  rw [if_pos (by rw [arrKey3.size]; simpa using hn)] at hf
  simp only [Option.map_eq_some_iff] at hf
  obtain ⟨ys, hy, -⟩ := hf
  rw [arrKey3.one, show List.range 3 = [0, 1, 2] from rfl] at hy
  simp only [List.mapM_cons, bind, Option.bind_eq_some_iff, pure] at hy
  obtain ⟨y0, h0, z0, ⟨y1, h1, z1, ⟨y2, h2, z2, -, -⟩, -⟩, -⟩ := hy
  obtain ⟨a, ea, -, wa⟩ := DataW.trod_int Tryz.underlying79 h0
  obtain ⟨b, eb, -, wb⟩ := DataW.trod_int Tryz.underlying79 h1
  obtain ⟨c, ec, -, wc⟩ := DataW.trod_int Tryz.underlying79 h2
  obtain ⟨l⟩ := xs
  match l, hn, ea, eb, ec with
  | [x, y, z], _, ea, eb, ec =>
   simp at ea eb ec
   subst ea eb ec
   simp [Lit.wf, IntKind.min, IntKind.max, IntKind.signed, IntKind.bits] at wa wb wc
   exact ⟨a, b, c, rfl, wa, wb, wc⟩
end Go.Proofs.YtenfphbhofibjaaGreatDoor
namespace Go.Proofs.YtenfphbhofibjaaGreatDoor
open Go.RowKit LM TM PM
set_option linter.unusedVariables false
set_option linter.unusedSimpArgs false
def In8 (n : Int) : Prop := -128 ≤ n ∧ n ≤ 127
theorem ins_same {i j : Nat} {a b c a' b' c' : Int} (hi : i < 22) (hj : j < 22) : ((⟨(insT i a b c).toArray⟩ : ByteArray).toList == (⟨(insT j a' b' c').toArray⟩ : ByteArray).toList) = decide (i = j ∧ a = a' ∧ b = b' ∧ c = c') := by
 rw [Bool.eq_iff_iff, decide_eq_true_iff, beq_iff_eq, ByteArray.toList_eq, ByteArray.toList_eq]
 constructor
 ·intro h
  exact ins_inj hi hj (by simpa using h)
 ·rintro ⟨rfl, rfl, rfl, rfl⟩; rfl
theorem ifs1 {α : Type} {s : Prop} [Decidable s] (X : Bool → α) : (if s then X true else X false) = X (decide s) := by
 by_cases s <;> simp [*]
theorem ifs3 {α : Type} {q r s : Prop} [Decidable q] [Decidable r] [Decidable s] (X : Bool → α) : (if q then if r then if s then X true else X false else X false else X false) = X (decide (q ∧ r ∧ s)) := by
 by_cases q <;> by_cases r <;> by_cases s <;> simp [*]
theorem ifs4 {α : Type} {p q r s : Prop} [Decidable p] [Decidable q] [Decidable r] [Decidable s] (X : Bool → α) : (if p then if q then if r then if s then X true else X false else X false else X false else X false) = X (decide (p ∧ q ∧ r ∧ s)) := by
 by_cases p <;> by_cases q <;> by_cases r <;> by_cases s <;> simp [*]
theorem wp_named {P : Program} {c : Code} {Q : Exit → Act → World → Prop} {a : Act} {w : World} (h : ∀ w1, w1 = w → Code.wp P c Q a w1) : Code.wp P c Q a w := h w rfl
set_option maxRecDepth 100000 in
set_option maxHeartbeats 4000000 in
theorem codeApart_any {a b s : Nat} {l0 l1 l2 m0 m1 m2 : Int} (w : World) (hL : Lz w) (ha : a ≤ 255) (hb : b ≤ 255) (hs : s ≤ 255) (h0 : In8 l0) (h1 : In8 l1) (h2 : In8 l2) (k0 : In8 m0) (k1 : In8 m1) (k2 : In8 m2) :
 Calls Tryz.prog 14 #[.int .u8 (a : Int), .int .u8 (b : Int), .agg #[.int .i8 l0, .int .i8 l1, .int .i8 l2], .agg #[.int .i8 m0, .int .i8 m1, .int .i8 m2], .int .u8 (s : Int)] w fun e w' => e = .returned (.bool true) ∧ Below w.heap.size w w' := by
 have HL : Hid (Lz w) := hL
 clear hL
 unfold In8 at h0 h1 h2 k0 k1 k2
 have hms : (s : Int).tmod 4 = ((s % 4 : Nat) : Int) := rfl
 have hma : (a : Int).tmod 22 = ((a % 22 : Nat) : Int) := rfl
 have hmb : (b : Int).tmod 22 = ((b % 22 : Nat) : Int) := rfl
 go_enter Tryz.func14, Tryz.ntmps14
 go_wp2_with fail
 refine (awake9 _ (HL.out.below (((Below.refl _ _).alloc (Nat.le_refl _) _).alloc (by simp) _))).mono ?_
 rintro e w0 ⟨rfl, b1⟩
 obtain ⟨hb0, hb1, hbw⟩ := two_blk b1
 have HBw0 : Hid (Below w.heap.size w w0) := hbw
 have HLw0 : Hid (Lz w0) := HL.out.below hbw
 have hlt0 := lt_of_block hb0
 have hlt1 := lt_of_block hb1
 have hn01 : w.heap.size ≠ w.heap.size + 1 := by omega
 obtain ⟨c00, c01, c02, cf0⟩ := three hb0
 obtain ⟨c10, c11, c12, cf1⟩ := three hb1
 have HLw := HL
 clear b1 hbw HL
 by_cases hs0 : s % 4 = 0
 ·have hg : ¬ ((0 : Int) < (s : Int) % 4) := by omega
  have hg1 : ¬ ((1 : Int) < (s : Int) % 4) := by omega
  go_wp2_with fail
  refine wp_named (fun w1 hw1 => ?_)
  have HX : Hid (w1.heap[w0.heap.size]? = some (.cells #[.int .u8 (((a % 22 : Nat) : Int)), .int .i64 l0, .int .i64 l1, .int .i64 l2] 66 (0, 0))) := by rw [hw1, Below.heap_alloc _ _ _ (by simp)]; exact heap_alloc_new _ _
  have HY : Hid (w1.heap[w0.heap.size + 1]? = some (.cells #[.int .u8 (((b % 22 : Nat) : Int)), .int .i64 m0, .int .i64 m1, .int .i64 m2] 66 (0, 0))) := by rw [hw1, show w0.heap.size + 1 = (w0.alloc (.cells #[.int .u8 (((a % 22 : Nat) : Int)), .int .i64 l0, .int .i64 l1, .int .i64 l2] 66)).heap.size from by simp]; exact heap_alloc_new _ _
  have HBW : Hid (Below w.heap.size w w1) := by rw [hw1]; exact (HBw0.out.alloc HBw0.out.size _).alloc (by have := HBw0.out.size; simp; omega) _
  have HL1 : Hid (Lz w1) := by rw [hw1]; exact (HLw0.out.below (((Below.refl _ _).alloc (Nat.le_refl _) _).alloc (by simp) _))
  have hgx := lt_of_block HX.out
  have hgy := lt_of_block HY.out
  obtain ⟨TX, hTX⟩ : ∃ T : ByteArray, T = ⟨(insT (a % 22) l0 l1 l2).toArray⟩ := ⟨_, rfl⟩
  obtain ⟨TY, hTY⟩ : ∃ T : ByteArray, T = ⟨(insT (b % 22) m0 m1 m2).toArray⟩ := ⟨_, rfl⟩
  have HS1 : Hid (∀ W, Below w1.heap.size w1 W → Calls Tryz.prog 42 #[.agg #[.int .u8 (((a % 22 : Nat) : Int)), .int .i64 l0, .int .i64 l1, .int .i64 l2]] W fun e w' => e = .returned (.string TX) ∧ Below W.heap.size W w') := fun W hW => by rw [hTX]; exact insString_any W (HL1.out.below hW).c (by omega) (by unfold InZ; omega) (by unfold InZ; omega) (by unfold InZ; omega)
  have HS2 : Hid (∀ W, Below w1.heap.size w1 W → Calls Tryz.prog 42 #[.agg #[.int .u8 (((b % 22 : Nat) : Int)), .int .i64 m0, .int .i64 m1, .int .i64 m2]] W fun e w' => e = .returned (.string TY) ∧ Below W.heap.size W w') := fun W hW => by rw [hTY]; exact insString_any W (HL1.out.below hW).c (by omega) (by unfold InZ; omega) (by unfold InZ; omega) (by unfold InZ; omega)
  have HQ : Hid ((TX.toList == TY.toList) = decide (a % 22 = b % 22 ∧ l0 = m0 ∧ l1 = m1 ∧ l2 = m2)) := by rw [hTX, hTY]; exact ins_same (Nat.mod_lt _ (by decide)) (Nat.mod_lt _ (by decide))
  clear hw1 hTX hTY
  refine region_sh (fun | 0 => some (.agg #[.int .u8 (((a % 22 : Nat) : Int)), .int .i64 l0, .int .i64 l1, .int .i64 l2]) | 1 => some (.string TX) | 2 => some (.agg #[.int .u8 (((b % 22 : Nat) : Int)), .int .i64 m0, .int .i64 m1, .int .i64 m2]) | 3 => some (.string TY) | 4 => some (.bool (decide (a % 22 = b % 22 ∧ l0 = m0 ∧ l1 = m1 ∧ l2 = m2))) | 5 => some (.agg #[.int .u8 (((a % 22 : Nat) : Int)), .int .i64 l0, .int .i64 l1, .int .i64 l2]) | 6 => some (.agg #[.int .u8 (((b % 22 : Nat) : Int)), .int .i64 m0, .int .i64 m1, .int .i64 m2]) | 7 => some (.bool (decide (a % 22 = b % 22 ∧ l0 = m0 ∧ l1 = m1 ∧ l2 = m2))) | 8 => some (.bool true) | 9 => some (.bool true) | _ => none) (fun _ _ W => Below w1.heap.size w1 W) (by kernel_rfl) (by kernel_rfl) (by kernel_rfl) ((Below.refl _ _).drew) ?_ ?_
  ·intro hon q hq L a1 W hC hl hBh hS hJ K hK
   have hqn : q < 10 := hq
   clear hq
   rcases (show q = 0 ∨ q = 1 ∨ q = 2 ∨ q = 3 ∨ q = 4 ∨ q = 5 ∨ q = 6 ∨ q = 7 ∨ q = 8 ∨ q = 9 from by omega) with rfl | rfl | rfl | rfl | rfl | rfl | rfl | rfl | rfl | rfl
   ·have e11 := (eval_tmp a1 11).symm.trans ((hS.kept 11 (by kernel_rfl)).trans rfl)
    have hbx : W.heap[w0.heap.size]? = _ := (hJ.block _ hgx).trans HX.out
    have hc0 : W.cell? ⟨w0.heap.size, 0, none⟩ = some (.int .u8 (((a % 22 : Nat) : Int))) := by simp [World.cell?, hbx]
    have hc1 : W.cell? ⟨w0.heap.size, 1, none⟩ = some (.int .i64 l0) := by simp [World.cell?, hbx]
    have hc2 : W.cell? ⟨w0.heap.size, 2, none⟩ = some (.int .i64 l1) := by simp [World.cell?, hbx]
    have hc3 : W.cell? ⟨w0.heap.size, 3, none⟩ = some (.int .i64 l2) := by simp [World.cell?, hbx]
    refine wpOp_step rfl (fun K' hK' => ?_)
    go_simp
    exact hK' _ _ (hK _ _ (hS.put hon (i := 0) rfl rfl (fun u hu => by cases hu; rfl)) hJ)
   ·have e52 := (eval_tmp a1 52).symm.trans (hS.get hBh (i := 1) rfl 0 (by simp) rfl rfl rfl)
    refine wpOp_call (f := 42) (args := #[.agg #[.int .u8 (((a % 22 : Nat) : Int)), .int .i64 l0, .int .i64 l1, .int .i64 l2]]) (R := fun u W2 => u = .string TX ∧ Below W.heap.size W W2) rfl rfl (by simp [execOp, resolve, invoke, e52, go_sem]) (((HS1).out W hJ).mono fun e W2 ⟨h1, h2⟩ => ⟨_, h1, rfl, h2⟩) ?_
    rintro u W2 ⟨rfl, r2⟩
    exact hK _ _ (hS.put hon (i := 1) rfl rfl (fun u hu => by cases hu; rfl)) (hJ.trans (r2.mono hJ.size))
   ·have e12 := (eval_tmp a1 12).symm.trans ((hS.kept 12 (by kernel_rfl)).trans rfl)
    have hbx : W.heap[w0.heap.size + 1]? = _ := (hJ.block _ hgy).trans HY.out
    have hc0 : W.cell? ⟨w0.heap.size + 1, 0, none⟩ = some (.int .u8 (((b % 22 : Nat) : Int))) := by simp [World.cell?, hbx]
    have hc1 : W.cell? ⟨w0.heap.size + 1, 1, none⟩ = some (.int .i64 m0) := by simp [World.cell?, hbx]
    have hc2 : W.cell? ⟨w0.heap.size + 1, 2, none⟩ = some (.int .i64 m1) := by simp [World.cell?, hbx]
    have hc3 : W.cell? ⟨w0.heap.size + 1, 3, none⟩ = some (.int .i64 m2) := by simp [World.cell?, hbx]
    refine wpOp_step rfl (fun K' hK' => ?_)
    go_simp
    exact hK' _ _ (hK _ _ (hS.put hon (i := 2) rfl rfl (fun u hu => by cases hu; rfl)) hJ)
   ·have e54 := (eval_tmp a1 54).symm.trans (hS.get hBh (i := 3) rfl 2 (by simp) rfl rfl rfl)
    refine wpOp_call (f := 42) (args := #[.agg #[.int .u8 (((b % 22 : Nat) : Int)), .int .i64 m0, .int .i64 m1, .int .i64 m2]]) (R := fun u W2 => u = .string TY ∧ Below W.heap.size W W2) rfl rfl (by simp [execOp, resolve, invoke, e54, go_sem]) (((HS2).out W hJ).mono fun e W2 ⟨h1, h2⟩ => ⟨_, h1, rfl, h2⟩) ?_
    rintro u W2 ⟨rfl, r2⟩
    exact hK _ _ (hS.put hon (i := 3) rfl rfl (fun u hu => by cases hu; rfl)) (hJ.trans (r2.mono hJ.size))
   ·have e53 := (eval_tmp a1 53).symm.trans (hS.get hBh (i := 4) rfl 1 (by simp) rfl rfl rfl)
    have e55 := (eval_tmp a1 55).symm.trans (hS.get hBh (i := 4) rfl 3 (by simp) rfl rfl rfl)
    refine wpOp_step rfl (fun K' hK' => ?_)
    go_simp
    rw [HQ.out]
    exact hK' _ _ (hK _ _ (hS.put hon (i := 4) rfl rfl (fun u hu => by cases hu; rfl)) hJ)
   ·have e11 := (eval_tmp a1 11).symm.trans ((hS.kept 11 (by kernel_rfl)).trans rfl)
    have hbx : W.heap[w0.heap.size]? = _ := (hJ.block _ hgx).trans HX.out
    have hc0 : W.cell? ⟨w0.heap.size, 0, none⟩ = some (.int .u8 (((a % 22 : Nat) : Int))) := by simp [World.cell?, hbx]
    have hc1 : W.cell? ⟨w0.heap.size, 1, none⟩ = some (.int .i64 l0) := by simp [World.cell?, hbx]
    have hc2 : W.cell? ⟨w0.heap.size, 2, none⟩ = some (.int .i64 l1) := by simp [World.cell?, hbx]
    have hc3 : W.cell? ⟨w0.heap.size, 3, none⟩ = some (.int .i64 l2) := by simp [World.cell?, hbx]
    refine wpOp_step rfl (fun K' hK' => ?_)
    go_simp
    exact hK' _ _ (hK _ _ (hS.put hon (i := 5) rfl rfl (fun u hu => by cases hu; rfl)) hJ)
   ·have e12 := (eval_tmp a1 12).symm.trans ((hS.kept 12 (by kernel_rfl)).trans rfl)
    have hbx : W.heap[w0.heap.size + 1]? = _ := (hJ.block _ hgy).trans HY.out
    have hc0 : W.cell? ⟨w0.heap.size + 1, 0, none⟩ = some (.int .u8 (((b % 22 : Nat) : Int))) := by simp [World.cell?, hbx]
    have hc1 : W.cell? ⟨w0.heap.size + 1, 1, none⟩ = some (.int .i64 m0) := by simp [World.cell?, hbx]
    have hc2 : W.cell? ⟨w0.heap.size + 1, 2, none⟩ = some (.int .i64 m1) := by simp [World.cell?, hbx]
    have hc3 : W.cell? ⟨w0.heap.size + 1, 3, none⟩ = some (.int .i64 m2) := by simp [World.cell?, hbx]
    refine wpOp_step rfl (fun K' hK' => ?_)
    go_simp
    exact hK' _ _ (hK _ _ (hS.put hon (i := 6) rfl rfl (fun u hu => by cases hu; rfl)) hJ)
   ·have e57 := (eval_tmp a1 57).symm.trans (hS.get hBh (i := 7) rfl 5 (by simp) rfl rfl rfl)
    have e58 := (eval_tmp a1 58).symm.trans (hS.get hBh (i := 7) rfl 6 (by simp) rfl rfl rfl)
    refine wpOp_step rfl (fun K' hK' => ?_)
    go_simp
    rw [ifs4 (fun v => Result.ok (Next.value (Value.bool v)) W), show decide ((a : Int) % 22 = (b : Int) % 22 ∧ l0 = m0 ∧ l1 = m1 ∧ l2 = m2) = decide (a % 22 = b % 22 ∧ l0 = m0 ∧ l1 = m1 ∧ l2 = m2) from decide_eq_decide.2 (by omega)]
    exact hK' _ _ (hK _ _ (hS.put hon (i := 7) rfl rfl (fun u hu => by cases hu; rfl)) hJ)
   ·have e56 := (eval_tmp a1 56).symm.trans (hS.get hBh (i := 8) rfl 4 (by simp) rfl rfl rfl)
    have e59 := (eval_tmp a1 59).symm.trans (hS.get hBh (i := 8) rfl 7 (by simp) rfl rfl rfl)
    refine wpOp_step rfl (fun K' hK' => ?_)
    go_simp
    exact hK' _ _ (hK _ _ (hS.put hon (i := 8) rfl rfl (fun u hu => by cases hu; rfl)) hJ)
   ·have e60 := (eval_tmp a1 60).symm.trans (hS.get hBh (i := 9) rfl 8 (by simp) rfl rfl rfl)
    refine wpOp_step rfl (fun K' hK' => ?_)
    go_simp
    exact hK' _ _ (hK _ _ (hS.put hon (i := 9) rfl rfl (fun u hu => by cases hu; rfl)) hJ)
  ·intro L a1 wz hl hS hJ
   have hfr := hS.frame [52, 53, 54, 55, 56, 57, 58, 59, 60, 10] rfl
   obtain ⟨zz, hz⟩ : ∃ z : Nat → Value, z = fun k => a1.eval (.tmp k) := ⟨_, rfl⟩
   rw [← hz] at hfr
   have z8 : zz 10 = .bool true := by rw [hz]; exact hS.val 9 _ 10 _ rfl rfl rfl (hl 9 (by decide))
   refine (‹∀ (a : Act) (w : World), Code.wp Tryz.prog _ _ a w → _› a1 wz ?_)
   rw [hfr]
   have HBZ2 : Hid (Below w.heap.size w wz) := HBW.out.trans (hJ.mono HBW.out.size)
   clear hfr hz hS hJ hl
   simp only [over, List.setIfInBounds_toArray, List.set_cons_zero, List.set_cons_succ, z8]
   clear z8
   go_wp2
   go_ret
   exact ⟨rfl, HBZ2.out⟩
 by_cases hs1 : s % 4 = 1
 ·have hg : (0 : Int) < (s : Int) % 4 := by omega
  have hg1 : ¬ ((1 : Int) < (s : Int) % 4) := by omega
  go_wp2_with fail
  refine wp_named (fun w1 hw1 => ?_)
  have HX : Hid (w1.heap[w0.heap.size]? = some (.cells #[.int .u8 (((a % 22 : Nat) : Int)), .int .i64 l0, .int .i64 l1, .int .i64 l2] 66 (0, 0))) := by rw [hw1, Below.heap_alloc _ _ _ (by simp)]; exact heap_alloc_new _ _
  have HY : Hid (w1.heap[w0.heap.size + 1]? = some (.cells #[.int .u8 (((a % 22 : Nat) : Int)), .int .i64 m0, .int .i64 m1, .int .i64 m2] 66 (0, 0))) := by rw [hw1, show w0.heap.size + 1 = (w0.alloc (.cells #[.int .u8 (((a % 22 : Nat) : Int)), .int .i64 l0, .int .i64 l1, .int .i64 l2] 66)).heap.size from by simp]; exact heap_alloc_new _ _
  have HBW : Hid (Below w.heap.size w w1) := by rw [hw1]; exact (HBw0.out.alloc HBw0.out.size _).alloc (by have := HBw0.out.size; simp; omega) _
  have HL1 : Hid (Lz w1) := by rw [hw1]; exact (HLw0.out.below (((Below.refl _ _).alloc (Nat.le_refl _) _).alloc (by simp) _))
  have hgx := lt_of_block HX.out
  have hgy := lt_of_block HY.out
  obtain ⟨TX, hTX⟩ : ∃ T : ByteArray, T = ⟨(insT (a % 22) l0 l1 l2).toArray⟩ := ⟨_, rfl⟩
  obtain ⟨TY, hTY⟩ : ∃ T : ByteArray, T = ⟨(insT (a % 22) m0 m1 m2).toArray⟩ := ⟨_, rfl⟩
  have HS1 : Hid (∀ W, Below w1.heap.size w1 W → Calls Tryz.prog 42 #[.agg #[.int .u8 (((a % 22 : Nat) : Int)), .int .i64 l0, .int .i64 l1, .int .i64 l2]] W fun e w' => e = .returned (.string TX) ∧ Below W.heap.size W w') := fun W hW => by rw [hTX]; exact insString_any W (HL1.out.below hW).c (by omega) (by unfold InZ; omega) (by unfold InZ; omega) (by unfold InZ; omega)
  have HS2 : Hid (∀ W, Below w1.heap.size w1 W → Calls Tryz.prog 42 #[.agg #[.int .u8 (((a % 22 : Nat) : Int)), .int .i64 m0, .int .i64 m1, .int .i64 m2]] W fun e w' => e = .returned (.string TY) ∧ Below W.heap.size W w') := fun W hW => by rw [hTY]; exact insString_any W (HL1.out.below hW).c (by omega) (by unfold InZ; omega) (by unfold InZ; omega) (by unfold InZ; omega)
  have HQ : Hid ((TX.toList == TY.toList) = decide (a % 22 = a % 22 ∧ l0 = m0 ∧ l1 = m1 ∧ l2 = m2)) := by rw [hTX, hTY]; exact ins_same (Nat.mod_lt _ (by decide)) (Nat.mod_lt _ (by decide))
  clear hw1 hTX hTY
  refine region_sh (fun | 0 => some (.agg #[.int .u8 (((a % 22 : Nat) : Int)), .int .i64 l0, .int .i64 l1, .int .i64 l2]) | 1 => some (.string TX) | 2 => some (.agg #[.int .u8 (((a % 22 : Nat) : Int)), .int .i64 m0, .int .i64 m1, .int .i64 m2]) | 3 => some (.string TY) | 4 => some (.bool (decide (a % 22 = a % 22 ∧ l0 = m0 ∧ l1 = m1 ∧ l2 = m2))) | 5 => some (.agg #[.int .u8 (((a % 22 : Nat) : Int)), .int .i64 l0, .int .i64 l1, .int .i64 l2]) | 6 => some (.agg #[.int .u8 (((a % 22 : Nat) : Int)), .int .i64 m0, .int .i64 m1, .int .i64 m2]) | 7 => some (.bool (decide (a % 22 = a % 22 ∧ l0 = m0 ∧ l1 = m1 ∧ l2 = m2))) | 8 => some (.bool true) | 9 => some (.bool true) | _ => none) (fun _ _ W => Below w1.heap.size w1 W) (by kernel_rfl) (by kernel_rfl) (by kernel_rfl) ((Below.refl _ _).drew) ?_ ?_
  ·intro hon q hq L a1 W hC hl hBh hS hJ K hK
   have hqn : q < 10 := hq
   clear hq
   rcases (show q = 0 ∨ q = 1 ∨ q = 2 ∨ q = 3 ∨ q = 4 ∨ q = 5 ∨ q = 6 ∨ q = 7 ∨ q = 8 ∨ q = 9 from by omega) with rfl | rfl | rfl | rfl | rfl | rfl | rfl | rfl | rfl | rfl
   ·have e11 := (eval_tmp a1 11).symm.trans ((hS.kept 11 (by kernel_rfl)).trans rfl)
    have hbx : W.heap[w0.heap.size]? = _ := (hJ.block _ hgx).trans HX.out
    have hc0 : W.cell? ⟨w0.heap.size, 0, none⟩ = some (.int .u8 (((a % 22 : Nat) : Int))) := by simp [World.cell?, hbx]
    have hc1 : W.cell? ⟨w0.heap.size, 1, none⟩ = some (.int .i64 l0) := by simp [World.cell?, hbx]
    have hc2 : W.cell? ⟨w0.heap.size, 2, none⟩ = some (.int .i64 l1) := by simp [World.cell?, hbx]
    have hc3 : W.cell? ⟨w0.heap.size, 3, none⟩ = some (.int .i64 l2) := by simp [World.cell?, hbx]
    refine wpOp_step rfl (fun K' hK' => ?_)
    go_simp
    exact hK' _ _ (hK _ _ (hS.put hon (i := 0) rfl rfl (fun u hu => by cases hu; rfl)) hJ)
   ·have e52 := (eval_tmp a1 52).symm.trans (hS.get hBh (i := 1) rfl 0 (by simp) rfl rfl rfl)
    refine wpOp_call (f := 42) (args := #[.agg #[.int .u8 (((a % 22 : Nat) : Int)), .int .i64 l0, .int .i64 l1, .int .i64 l2]]) (R := fun u W2 => u = .string TX ∧ Below W.heap.size W W2) rfl rfl (by simp [execOp, resolve, invoke, e52, go_sem]) (((HS1).out W hJ).mono fun e W2 ⟨h1, h2⟩ => ⟨_, h1, rfl, h2⟩) ?_
    rintro u W2 ⟨rfl, r2⟩
    exact hK _ _ (hS.put hon (i := 1) rfl rfl (fun u hu => by cases hu; rfl)) (hJ.trans (r2.mono hJ.size))
   ·have e12 := (eval_tmp a1 12).symm.trans ((hS.kept 12 (by kernel_rfl)).trans rfl)
    have hbx : W.heap[w0.heap.size + 1]? = _ := (hJ.block _ hgy).trans HY.out
    have hc0 : W.cell? ⟨w0.heap.size + 1, 0, none⟩ = some (.int .u8 (((a % 22 : Nat) : Int))) := by simp [World.cell?, hbx]
    have hc1 : W.cell? ⟨w0.heap.size + 1, 1, none⟩ = some (.int .i64 m0) := by simp [World.cell?, hbx]
    have hc2 : W.cell? ⟨w0.heap.size + 1, 2, none⟩ = some (.int .i64 m1) := by simp [World.cell?, hbx]
    have hc3 : W.cell? ⟨w0.heap.size + 1, 3, none⟩ = some (.int .i64 m2) := by simp [World.cell?, hbx]
    refine wpOp_step rfl (fun K' hK' => ?_)
    go_simp
    exact hK' _ _ (hK _ _ (hS.put hon (i := 2) rfl rfl (fun u hu => by cases hu; rfl)) hJ)
   ·have e54 := (eval_tmp a1 54).symm.trans (hS.get hBh (i := 3) rfl 2 (by simp) rfl rfl rfl)
    refine wpOp_call (f := 42) (args := #[.agg #[.int .u8 (((a % 22 : Nat) : Int)), .int .i64 m0, .int .i64 m1, .int .i64 m2]]) (R := fun u W2 => u = .string TY ∧ Below W.heap.size W W2) rfl rfl (by simp [execOp, resolve, invoke, e54, go_sem]) (((HS2).out W hJ).mono fun e W2 ⟨h1, h2⟩ => ⟨_, h1, rfl, h2⟩) ?_
    rintro u W2 ⟨rfl, r2⟩
    exact hK _ _ (hS.put hon (i := 3) rfl rfl (fun u hu => by cases hu; rfl)) (hJ.trans (r2.mono hJ.size))
   ·have e53 := (eval_tmp a1 53).symm.trans (hS.get hBh (i := 4) rfl 1 (by simp) rfl rfl rfl)
    have e55 := (eval_tmp a1 55).symm.trans (hS.get hBh (i := 4) rfl 3 (by simp) rfl rfl rfl)
    refine wpOp_step rfl (fun K' hK' => ?_)
    go_simp
    rw [HQ.out]
    exact hK' _ _ (hK _ _ (hS.put hon (i := 4) rfl rfl (fun u hu => by cases hu; rfl)) hJ)
   ·have e11 := (eval_tmp a1 11).symm.trans ((hS.kept 11 (by kernel_rfl)).trans rfl)
    have hbx : W.heap[w0.heap.size]? = _ := (hJ.block _ hgx).trans HX.out
    have hc0 : W.cell? ⟨w0.heap.size, 0, none⟩ = some (.int .u8 (((a % 22 : Nat) : Int))) := by simp [World.cell?, hbx]
    have hc1 : W.cell? ⟨w0.heap.size, 1, none⟩ = some (.int .i64 l0) := by simp [World.cell?, hbx]
    have hc2 : W.cell? ⟨w0.heap.size, 2, none⟩ = some (.int .i64 l1) := by simp [World.cell?, hbx]
    have hc3 : W.cell? ⟨w0.heap.size, 3, none⟩ = some (.int .i64 l2) := by simp [World.cell?, hbx]
    refine wpOp_step rfl (fun K' hK' => ?_)
    go_simp
    exact hK' _ _ (hK _ _ (hS.put hon (i := 5) rfl rfl (fun u hu => by cases hu; rfl)) hJ)
   ·have e12 := (eval_tmp a1 12).symm.trans ((hS.kept 12 (by kernel_rfl)).trans rfl)
    have hbx : W.heap[w0.heap.size + 1]? = _ := (hJ.block _ hgy).trans HY.out
    have hc0 : W.cell? ⟨w0.heap.size + 1, 0, none⟩ = some (.int .u8 (((a % 22 : Nat) : Int))) := by simp [World.cell?, hbx]
    have hc1 : W.cell? ⟨w0.heap.size + 1, 1, none⟩ = some (.int .i64 m0) := by simp [World.cell?, hbx]
    have hc2 : W.cell? ⟨w0.heap.size + 1, 2, none⟩ = some (.int .i64 m1) := by simp [World.cell?, hbx]
    have hc3 : W.cell? ⟨w0.heap.size + 1, 3, none⟩ = some (.int .i64 m2) := by simp [World.cell?, hbx]
    refine wpOp_step rfl (fun K' hK' => ?_)
    go_simp
    exact hK' _ _ (hK _ _ (hS.put hon (i := 6) rfl rfl (fun u hu => by cases hu; rfl)) hJ)
   ·have e57 := (eval_tmp a1 57).symm.trans (hS.get hBh (i := 7) rfl 5 (by simp) rfl rfl rfl)
    have e58 := (eval_tmp a1 58).symm.trans (hS.get hBh (i := 7) rfl 6 (by simp) rfl rfl rfl)
    refine wpOp_step rfl (fun K' hK' => ?_)
    go_simp
    rw [ifs3 (fun v => Result.ok (Next.value (Value.bool v)) W), show decide (l0 = m0 ∧ l1 = m1 ∧ l2 = m2) = decide (a % 22 = a % 22 ∧ l0 = m0 ∧ l1 = m1 ∧ l2 = m2) from decide_eq_decide.2 (by omega)]
    exact hK' _ _ (hK _ _ (hS.put hon (i := 7) rfl rfl (fun u hu => by cases hu; rfl)) hJ)
   ·have e56 := (eval_tmp a1 56).symm.trans (hS.get hBh (i := 8) rfl 4 (by simp) rfl rfl rfl)
    have e59 := (eval_tmp a1 59).symm.trans (hS.get hBh (i := 8) rfl 7 (by simp) rfl rfl rfl)
    refine wpOp_step rfl (fun K' hK' => ?_)
    go_simp
    exact hK' _ _ (hK _ _ (hS.put hon (i := 8) rfl rfl (fun u hu => by cases hu; rfl)) hJ)
   ·have e60 := (eval_tmp a1 60).symm.trans (hS.get hBh (i := 9) rfl 8 (by simp) rfl rfl rfl)
    refine wpOp_step rfl (fun K' hK' => ?_)
    go_simp
    exact hK' _ _ (hK _ _ (hS.put hon (i := 9) rfl rfl (fun u hu => by cases hu; rfl)) hJ)
  ·intro L a1 wz hl hS hJ
   have hfr := hS.frame [52, 53, 54, 55, 56, 57, 58, 59, 60, 10] rfl
   obtain ⟨zz, hz⟩ : ∃ z : Nat → Value, z = fun k => a1.eval (.tmp k) := ⟨_, rfl⟩
   rw [← hz] at hfr
   have z8 : zz 10 = .bool true := by rw [hz]; exact hS.val 9 _ 10 _ rfl rfl rfl (hl 9 (by decide))
   refine (‹∀ (a : Act) (w : World), Code.wp Tryz.prog _ _ a w → _› a1 wz ?_)
   rw [hfr]
   have HBZ2 : Hid (Below w.heap.size w wz) := HBW.out.trans (hJ.mono HBW.out.size)
   clear hfr hz hS hJ hl
   simp only [over, List.setIfInBounds_toArray, List.set_cons_zero, List.set_cons_succ, z8]
   clear z8
   go_wp2
   go_ret
   exact ⟨rfl, HBZ2.out⟩
 ·have hg : (0 : Int) < (s : Int) % 4 := by omega
  have hg1 : (1 : Int) < (s : Int) % 4 := by omega
  go_wp2_with fail
  go_region
  obtain ⟨w9, hw9⟩ : ∃ w9, w9 = ((w0.setCell ⟨w.heap.size + 1, 0, none⟩ (.int .i8 l0)).setCell ⟨w.heap.size + 1, 1, none⟩ (.int .i8 l1)).drew := ⟨_, rfl⟩
  have hk9 : ∀ k, k ≠ w.heap.size + 1 → w9.heap[k]? = w0.heap[k]? := fun k hk => by rw [hw9]; exact (block_set_ne hk _).trans (block_set_ne hk _)
  have hb19 : w9.heap[w.heap.size + 1]? = some (.cells #[.int .i8 l0, .int .i8 l1, .int .i8 m2] 80 (0, 0)) := by rw [hw9]; exact block_set_same (block_set_same hb1 _) _
  have hs9 : w9.heap.size = w0.heap.size := by rw [hw9]; simp [World.setCell, World.drew]
  have hb09 := (hk9 _ (by omega)).trans hb0
  have HBw9 : Hid (Below w.heap.size w w9) := by rw [hw9]; exact ⟨HBw0.out.os, HBw0.out.tape, HBw0.out.output, by simp [World.setCell, World.drew]; exact HBw0.out.size, fun k hk => by rw [← hw9, hk9 k (by omega)]; exact HBw0.out.block k hk⟩
  have HLw9 : Hid (Lz w9) := HLw.out.below HBw9.out
  clear hs9
  have hlt90 := lt_of_block hb09
  have hlt91 := lt_of_block hb19
  rw [← hw9]
  clear hw9 c00 c01 c02 cf0 c10 c11 c12 cf1 hk9
  obtain ⟨c00, c01, c02, cf0⟩ := three hb09
  obtain ⟨c10, c11, c12, cf1⟩ := three hb19
  go_wp2_with fail
  refine wp_named (fun w1 hw1 => ?_)
  have HX : Hid (w1.heap[w9.heap.size]? = some (.cells #[.int .u8 (((a % 22 : Nat) : Int)), .int .i64 l0, .int .i64 l1, .int .i64 l2] 66 (0, 0))) := by rw [hw1, Below.heap_alloc _ _ _ (by simp)]; exact heap_alloc_new _ _
  have HY : Hid (w1.heap[w9.heap.size + 1]? = some (.cells #[.int .u8 (((a % 22 : Nat) : Int)), .int .i64 l0, .int .i64 l1, .int .i64 m2] 66 (0, 0))) := by rw [hw1, show w9.heap.size + 1 = (w9.alloc (.cells #[.int .u8 (((a % 22 : Nat) : Int)), .int .i64 l0, .int .i64 l1, .int .i64 l2] 66)).heap.size from by simp]; exact heap_alloc_new _ _
  have HBW : Hid (Below w.heap.size w w1) := by rw [hw1]; exact (HBw9.out.alloc HBw9.out.size _).alloc (by have := HBw9.out.size; simp; omega) _
  have HL1 : Hid (Lz w1) := by rw [hw1]; exact (HLw9.out.below (((Below.refl _ _).alloc (Nat.le_refl _) _).alloc (by simp) _))
  have hgx := lt_of_block HX.out
  have hgy := lt_of_block HY.out
  obtain ⟨TX, hTX⟩ : ∃ T : ByteArray, T = ⟨(insT (a % 22) l0 l1 l2).toArray⟩ := ⟨_, rfl⟩
  obtain ⟨TY, hTY⟩ : ∃ T : ByteArray, T = ⟨(insT (a % 22) l0 l1 m2).toArray⟩ := ⟨_, rfl⟩
  have HS1 : Hid (∀ W, Below w1.heap.size w1 W → Calls Tryz.prog 42 #[.agg #[.int .u8 (((a % 22 : Nat) : Int)), .int .i64 l0, .int .i64 l1, .int .i64 l2]] W fun e w' => e = .returned (.string TX) ∧ Below W.heap.size W w') := fun W hW => by rw [hTX]; exact insString_any W (HL1.out.below hW).c (by omega) (by unfold InZ; omega) (by unfold InZ; omega) (by unfold InZ; omega)
  have HS2 : Hid (∀ W, Below w1.heap.size w1 W → Calls Tryz.prog 42 #[.agg #[.int .u8 (((a % 22 : Nat) : Int)), .int .i64 l0, .int .i64 l1, .int .i64 m2]] W fun e w' => e = .returned (.string TY) ∧ Below W.heap.size W w') := fun W hW => by rw [hTY]; exact insString_any W (HL1.out.below hW).c (by omega) (by unfold InZ; omega) (by unfold InZ; omega) (by unfold InZ; omega)
  have HQ : Hid ((TX.toList == TY.toList) = decide (a % 22 = a % 22 ∧ l0 = l0 ∧ l1 = l1 ∧ l2 = m2)) := by rw [hTX, hTY]; exact ins_same (Nat.mod_lt _ (by decide)) (Nat.mod_lt _ (by decide))
  clear hw1 hTX hTY
  refine region_sh (fun | 0 => some (.agg #[.int .u8 (((a % 22 : Nat) : Int)), .int .i64 l0, .int .i64 l1, .int .i64 l2]) | 1 => some (.string TX) | 2 => some (.agg #[.int .u8 (((a % 22 : Nat) : Int)), .int .i64 l0, .int .i64 l1, .int .i64 m2]) | 3 => some (.string TY) | 4 => some (.bool (decide (a % 22 = a % 22 ∧ l0 = l0 ∧ l1 = l1 ∧ l2 = m2))) | 5 => some (.agg #[.int .u8 (((a % 22 : Nat) : Int)), .int .i64 l0, .int .i64 l1, .int .i64 l2]) | 6 => some (.agg #[.int .u8 (((a % 22 : Nat) : Int)), .int .i64 l0, .int .i64 l1, .int .i64 m2]) | 7 => some (.bool (decide (a % 22 = a % 22 ∧ l0 = l0 ∧ l1 = l1 ∧ l2 = m2))) | 8 => some (.bool true) | 9 => some (.bool true) | _ => none) (fun _ _ W => Below w1.heap.size w1 W) (by kernel_rfl) (by kernel_rfl) (by kernel_rfl) ((Below.refl _ _).drew) ?_ ?_
  ·intro hon q hq L a1 W hC hl hBh hS hJ K hK
   have hqn : q < 10 := hq
   clear hq
   rcases (show q = 0 ∨ q = 1 ∨ q = 2 ∨ q = 3 ∨ q = 4 ∨ q = 5 ∨ q = 6 ∨ q = 7 ∨ q = 8 ∨ q = 9 from by omega) with rfl | rfl | rfl | rfl | rfl | rfl | rfl | rfl | rfl | rfl
   ·have e11 := (eval_tmp a1 11).symm.trans ((hS.kept 11 (by kernel_rfl)).trans rfl)
    have hbx : W.heap[w9.heap.size]? = _ := (hJ.block _ hgx).trans HX.out
    have hc0 : W.cell? ⟨w9.heap.size, 0, none⟩ = some (.int .u8 (((a % 22 : Nat) : Int))) := by simp [World.cell?, hbx]
    have hc1 : W.cell? ⟨w9.heap.size, 1, none⟩ = some (.int .i64 l0) := by simp [World.cell?, hbx]
    have hc2 : W.cell? ⟨w9.heap.size, 2, none⟩ = some (.int .i64 l1) := by simp [World.cell?, hbx]
    have hc3 : W.cell? ⟨w9.heap.size, 3, none⟩ = some (.int .i64 l2) := by simp [World.cell?, hbx]
    refine wpOp_step rfl (fun K' hK' => ?_)
    go_simp
    exact hK' _ _ (hK _ _ (hS.put hon (i := 0) rfl rfl (fun u hu => by cases hu; rfl)) hJ)
   ·have e52 := (eval_tmp a1 52).symm.trans (hS.get hBh (i := 1) rfl 0 (by simp) rfl rfl rfl)
    refine wpOp_call (f := 42) (args := #[.agg #[.int .u8 (((a % 22 : Nat) : Int)), .int .i64 l0, .int .i64 l1, .int .i64 l2]]) (R := fun u W2 => u = .string TX ∧ Below W.heap.size W W2) rfl rfl (by simp [execOp, resolve, invoke, e52, go_sem]) (((HS1).out W hJ).mono fun e W2 ⟨h1, h2⟩ => ⟨_, h1, rfl, h2⟩) ?_
    rintro u W2 ⟨rfl, r2⟩
    exact hK _ _ (hS.put hon (i := 1) rfl rfl (fun u hu => by cases hu; rfl)) (hJ.trans (r2.mono hJ.size))
   ·have e12 := (eval_tmp a1 12).symm.trans ((hS.kept 12 (by kernel_rfl)).trans rfl)
    have hbx : W.heap[w9.heap.size + 1]? = _ := (hJ.block _ hgy).trans HY.out
    have hc0 : W.cell? ⟨w9.heap.size + 1, 0, none⟩ = some (.int .u8 (((a % 22 : Nat) : Int))) := by simp [World.cell?, hbx]
    have hc1 : W.cell? ⟨w9.heap.size + 1, 1, none⟩ = some (.int .i64 l0) := by simp [World.cell?, hbx]
    have hc2 : W.cell? ⟨w9.heap.size + 1, 2, none⟩ = some (.int .i64 l1) := by simp [World.cell?, hbx]
    have hc3 : W.cell? ⟨w9.heap.size + 1, 3, none⟩ = some (.int .i64 m2) := by simp [World.cell?, hbx]
    refine wpOp_step rfl (fun K' hK' => ?_)
    go_simp
    exact hK' _ _ (hK _ _ (hS.put hon (i := 2) rfl rfl (fun u hu => by cases hu; rfl)) hJ)
   ·have e54 := (eval_tmp a1 54).symm.trans (hS.get hBh (i := 3) rfl 2 (by simp) rfl rfl rfl)
    refine wpOp_call (f := 42) (args := #[.agg #[.int .u8 (((a % 22 : Nat) : Int)), .int .i64 l0, .int .i64 l1, .int .i64 m2]]) (R := fun u W2 => u = .string TY ∧ Below W.heap.size W W2) rfl rfl (by simp [execOp, resolve, invoke, e54, go_sem]) (((HS2).out W hJ).mono fun e W2 ⟨h1, h2⟩ => ⟨_, h1, rfl, h2⟩) ?_
    rintro u W2 ⟨rfl, r2⟩
    exact hK _ _ (hS.put hon (i := 3) rfl rfl (fun u hu => by cases hu; rfl)) (hJ.trans (r2.mono hJ.size))
   ·have e53 := (eval_tmp a1 53).symm.trans (hS.get hBh (i := 4) rfl 1 (by simp) rfl rfl rfl)
    have e55 := (eval_tmp a1 55).symm.trans (hS.get hBh (i := 4) rfl 3 (by simp) rfl rfl rfl)
    refine wpOp_step rfl (fun K' hK' => ?_)
    go_simp
    rw [HQ.out]
    exact hK' _ _ (hK _ _ (hS.put hon (i := 4) rfl rfl (fun u hu => by cases hu; rfl)) hJ)
   ·have e11 := (eval_tmp a1 11).symm.trans ((hS.kept 11 (by kernel_rfl)).trans rfl)
    have hbx : W.heap[w9.heap.size]? = _ := (hJ.block _ hgx).trans HX.out
    have hc0 : W.cell? ⟨w9.heap.size, 0, none⟩ = some (.int .u8 (((a % 22 : Nat) : Int))) := by simp [World.cell?, hbx]
    have hc1 : W.cell? ⟨w9.heap.size, 1, none⟩ = some (.int .i64 l0) := by simp [World.cell?, hbx]
    have hc2 : W.cell? ⟨w9.heap.size, 2, none⟩ = some (.int .i64 l1) := by simp [World.cell?, hbx]
    have hc3 : W.cell? ⟨w9.heap.size, 3, none⟩ = some (.int .i64 l2) := by simp [World.cell?, hbx]
    refine wpOp_step rfl (fun K' hK' => ?_)
    go_simp
    exact hK' _ _ (hK _ _ (hS.put hon (i := 5) rfl rfl (fun u hu => by cases hu; rfl)) hJ)
   ·have e12 := (eval_tmp a1 12).symm.trans ((hS.kept 12 (by kernel_rfl)).trans rfl)
    have hbx : W.heap[w9.heap.size + 1]? = _ := (hJ.block _ hgy).trans HY.out
    have hc0 : W.cell? ⟨w9.heap.size + 1, 0, none⟩ = some (.int .u8 (((a % 22 : Nat) : Int))) := by simp [World.cell?, hbx]
    have hc1 : W.cell? ⟨w9.heap.size + 1, 1, none⟩ = some (.int .i64 l0) := by simp [World.cell?, hbx]
    have hc2 : W.cell? ⟨w9.heap.size + 1, 2, none⟩ = some (.int .i64 l1) := by simp [World.cell?, hbx]
    have hc3 : W.cell? ⟨w9.heap.size + 1, 3, none⟩ = some (.int .i64 m2) := by simp [World.cell?, hbx]
    refine wpOp_step rfl (fun K' hK' => ?_)
    go_simp
    exact hK' _ _ (hK _ _ (hS.put hon (i := 6) rfl rfl (fun u hu => by cases hu; rfl)) hJ)
   ·have e57 := (eval_tmp a1 57).symm.trans (hS.get hBh (i := 7) rfl 5 (by simp) rfl rfl rfl)
    have e58 := (eval_tmp a1 58).symm.trans (hS.get hBh (i := 7) rfl 6 (by simp) rfl rfl rfl)
    refine wpOp_step rfl (fun K' hK' => ?_)
    go_simp
    rw [ifs1 (fun v => Result.ok (Next.value (Value.bool v)) W), show decide (l2 = m2) = decide (a % 22 = a % 22 ∧ l0 = l0 ∧ l1 = l1 ∧ l2 = m2) from decide_eq_decide.2 (by omega)]
    exact hK' _ _ (hK _ _ (hS.put hon (i := 7) rfl rfl (fun u hu => by cases hu; rfl)) hJ)
   ·have e56 := (eval_tmp a1 56).symm.trans (hS.get hBh (i := 8) rfl 4 (by simp) rfl rfl rfl)
    have e59 := (eval_tmp a1 59).symm.trans (hS.get hBh (i := 8) rfl 7 (by simp) rfl rfl rfl)
    refine wpOp_step rfl (fun K' hK' => ?_)
    go_simp
    exact hK' _ _ (hK _ _ (hS.put hon (i := 8) rfl rfl (fun u hu => by cases hu; rfl)) hJ)
   ·have e60 := (eval_tmp a1 60).symm.trans (hS.get hBh (i := 9) rfl 8 (by simp) rfl rfl rfl)
    refine wpOp_step rfl (fun K' hK' => ?_)
    go_simp
    exact hK' _ _ (hK _ _ (hS.put hon (i := 9) rfl rfl (fun u hu => by cases hu; rfl)) hJ)
  ·intro L a1 wz hl hS hJ
   have hfr := hS.frame [52, 53, 54, 55, 56, 57, 58, 59, 60, 10] rfl
   obtain ⟨zz, hz⟩ : ∃ z : Nat → Value, z = fun k => a1.eval (.tmp k) := ⟨_, rfl⟩
   rw [← hz] at hfr
   have z8 : zz 10 = .bool true := by rw [hz]; exact hS.val 9 _ 10 _ rfl rfl rfl (hl 9 (by decide))
   refine (‹∀ (a : Act) (w : World), Code.wp Tryz.prog _ _ a w → _› a1 wz ?_)
   rw [hfr]
   have HBZ2 : Hid (Below w.heap.size w wz) := HBW.out.trans (hJ.mono HBW.out.size)
   clear hfr hz hS hJ hl
   simp only [over, List.setIfInBounds_toArray, List.set_cons_zero, List.set_cons_succ, z8]
   clear z8
   go_wp2
   go_ret
   exact ⟨rfl, HBZ2.out⟩
end Go.Proofs.YtenfphbhofibjaaGreatDoor
