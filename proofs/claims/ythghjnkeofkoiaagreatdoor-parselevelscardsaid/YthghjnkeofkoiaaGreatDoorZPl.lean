/-
  A region that draws its order, in which texts are put together, Parse is called, and its three answers are taken apart.
  Conditions: as each theorem says. (No program is named here.)
-/
import Derived.Test.YthghjnkeofkoiaaGreatDoorZPbD
import Derived.Test.YthghjnkeofkoiaaGreatDoorZPz
namespace Go.Proofs.YthghjnkeofkoiaaGreatDoor
set_option linter.unusedVariables false
def pv (p q r : Value) : Nat → Value
  | 0 => .tuple #[p, q, r]
  | 1 => .tuple #[p, q, r]
  | 2 => p
  | 3 => q
  | 4 => r
  | 5 => p
  | 6 => q
  | _ => r
structure JP (wr : World) (ic : Nat) (sl : Nat → Nat) (R : Value → Value → Value → World → Prop) (L : Nat → Bool) (a : Act) (W : World) : Prop where
  n : L ic = false → W = wr.drew
  c : L ic = true → ∃ p q r, R p q r W ∧ ∀ j, j < 8 → L (ic + j) = true → a.eval (.tmp (sl j)) = pv p q r j
section
variable {wr W W' : World} {ic : Nat} {sl : Nat → Nat} {R : Value → Value → Value → World → Prop} {L : Nat → Bool} {a : Act}
theorem JP.start (a : Act) : JP wr ic sl R (fun _ => false) a wr.drew := ⟨fun _ => rfl, fun h => by simp at h⟩
theorem JP.pure (h : JP wr ic sl R L a W) {i d : Nat} {u : Value} (hi : i < ic) (hd : ∀ j, j < 8 → sl j ≠ d) : JP wr ic sl R (more L i) (a.put (some d) u) W := by
  refine ⟨fun q => h.n (by rwa [more_ne _ (by omega)] at q), fun q => ?_⟩
  obtain ⟨p, q2, r, h1, h2⟩ := h.c (by rwa [more_ne _ (by omega)] at q)
  exact ⟨p, q2, r, h1, fun j hj hl => (eval_other (hd j hj)).trans (h2 j hj (by rwa [more_ne _ (by omega)] at hl))⟩
theorem JP.call (h : JP wr ic sl R L a W) (hn : ∀ j, j < 8 → L (ic + j) = false) (hs : sl 0 < a.tmps.size) {p q r : Value} (hR : R p q r W') : JP wr ic sl R (more L ic) (a.put (some (sl 0)) (.tuple #[p, q, r])) W' := by
  refine ⟨fun h => (by rw [more_self] at h; cases h), fun _ => ⟨p, q, r, hR, fun j hj hl => ?_⟩⟩
  by_cases h0 : j = 0
  · subst h0
    rw [eval_put _ _ _ _ hs, if_pos rfl]
    rfl
  · rw [more_ne _ (by omega), hn j hj] at hl
    cases hl
theorem JP.next {p q r : Value} (h1 : R p q r W) (h2 : ∀ j, j < 8 → L (ic + j) = true → a.eval (.tmp (sl j)) = pv p q r j) (hc : L ic = true) (k : Nat) (hk : 0 < k) (hk8 : k < 8) (hs : sl k < a.tmps.size) (hd : ∀ j, j < 8 → j ≠ k → sl j ≠ sl k) : JP wr ic sl R (more L (ic + k)) (a.put (some (sl k)) (pv p q r k)) W := by
  refine ⟨fun h => (by rw [more_ne _ (by omega), hc] at h; cases h), fun _ => ⟨p, q, r, h1, fun j hj hl2 => ?_⟩⟩
  by_cases h0 : j = k
  · subst h0
    rw [eval_put _ _ _ _ hs, if_pos rfl]
  · rw [more_ne _ (by omega)] at hl2
    exact (eval_other (hd j hj h0)).trans (h2 j hj hl2)
end
end Go.Proofs.YthghjnkeofkoiaaGreatDoor

namespace Go.Proofs.YthghjnkeofkoiaaGreatDoor
open Go.RowKit LM TM PM
set_option linter.unusedVariables false
set_option linter.unusedSimpArgs false
def sgL (i : Nat) : List UInt8 := ([[43], [45], [42], [61, 61], [33, 61], [60]] : List (List UInt8)).getD i []
def sgB (i : Nat) : ByteArray := ⟨(sgL i).toArray⟩
def lvl (i : Nat) : Nat := ([1, 1, 2, 0, 0, 0] : List Nat).getD i 0
def lev1 (i k : Nat) : List UInt8 := [97, 32] ++ sgL i ++ [32, 98, 32] ++ sgL k ++ [32, 99, 59]
def lev2 (i k : Nat) : List UInt8 := [40, 97, 32] ++ sgL i ++ [32, 98, 41, 32] ++ sgL k ++ [32, 99, 59]
def lev3 (i k : Nat) : List UInt8 := [97, 32] ++ sgL i ++ [32, 40, 98, 32] ++ sgL k ++ [32, 99, 41, 59]
def badAt (r : PR (List TS)) (a e : Nat) : Bool := match r with
  | .bad x y => decide (x = a) && decide (y = e)
  | .ok _ _ => false
theorem badAt_ok {r : PR (List TS)} {a e : Nat} (h : badAt r a e = true) : r = .bad a e := by
  cases r with
  | ok _ _ => cases h
  | bad x y => simp [badAt] at h; rw [h.1, h.2]
def levOk (i k : Nat) : Bool := decide ((sgL i).length ≤ 2) && (if lvl i = 0 ∧ lvl k = 0 then badAt (PG (lev1 i k)) (5 + (sgL i).length) 1 else bothSame (PG (lev1 i k)) (PG (if lvl i < lvl k then lev3 i k else lev2 i k)))
set_option maxRecDepth 100000 in
theorem lev_all : ((List.range 6).all fun i => (List.range 6).all fun k => levOk i k) = true := by kernel_rfl
theorem lev_any {i k : Nat} (hi : i < 6) (hk : k < 6) : levOk i k = true := List.all_eq_true.1 (List.all_eq_true.1 lev_all i (by simpa using hi)) k (by simpa using hk)
theorem sg_len {i : Nat} (hi : i < 6) : (sgL i).length ≤ 2 := by
  have h := lev_any hi hi
  unfold levOk at h
  rw [Bool.and_eq_true] at h
  exact of_decide_eq_true h.1
def LevR (i k : Nat) (w : World) (p q r : Value) (w' : World) : Prop := Below w.heap.size w w' ∧ ((lvl i = 0 ∧ lvl k = 0 ∧ p = .slice none 0 0 ∧ q = .int .i64 ((5 + (sgL i).length : Nat) : Int) ∧ r = .int .i64 1) ∨
  (¬ (lvl i = 0 ∧ lvl k = 0) ∧ q = .int .i64 0 ∧ r = .int .i64 0 ∧ ∃ l m x, PG (if lvl i < lvl k then lev3 i k else lev2 i k) = .ok m x ∧ sameSs l m = true ∧ Lie (RS p l) w.heap.size w'.heap.size w'))
theorem lev_parse {i k : Nat} (hi : i < 6) (hk : k < 6) {s : ByteArray} (hs : s.data.toList = lev1 i k) (w : World) (hL : Lv w) : Calls Tryz.prog 23 #[.string s] w fun e w' => ∃ v, e = .returned v ∧ ∃ p q r, v = .tuple #[p, q, r] ∧ LevR i k w p q r w' := by
  have h := lev_any hi hk
  have h1 := sg_len hi
  have h2 := sg_len hk
  have hl : (lev1 i k).length ≤ 8192 := by simp only [lev1, List.length_append, List.length_cons, List.length_nil]; omega
  unfold levOk at h
  rw [Bool.and_eq_true] at h
  by_cases hA : lvl i = 0 ∧ lvl k = 0
  · have h3 := h.2
    rw [if_pos hA] at h3
    refine (pg_bad hs (badAt_ok h3) hl w hL).mono ?_
    rintro e w' ⟨rfl, hb⟩
    exact ⟨_, rfl, _, _, _, rfl, hb, .inl ⟨hA.1, hA.2, rfl, rfl, rfl⟩⟩
  · have h3 := h.2
    rw [if_neg hA] at h3
    obtain ⟨l, r, m, q, e1, e2, e3⟩ := bothSame_ok h3
    refine (pg_ok hs e1 hl w hL).mono ?_
    rintro e w' ⟨v, rfl, hv, hb⟩
    exact ⟨_, rfl, _, _, _, rfl, hb, .inr ⟨hA, rfl, rfl, l, m, q, e2, e3, hv⟩⟩
set_option maxRecDepth 100000 in
set_option maxHeartbeats 2000000 in
theorem levels_any (n0 n1 : Nat) (hn0 : n0 ≤ 255) (hn1 : n1 ≤ 255) (w : World) (hL : Lw w) : Calls Tryz.prog 8 #[.int .u8 (n0 : Int), .int .u8 (n1 : Int)] w fun e w' => e = .returned (.bool true) ∧ Below w.heap.size w w' := by
  have HL : Hid (Lw w) := hL
  have hi6 : n0 % 6 < 6 := Nat.mod_lt _ (by decide)
  have hk6 : n1 % 6 < 6 := Nat.mod_lt _ (by decide)
  have htm0 : ((n0 : Int)).tmod 6 = ((n0 % 6 : Nat) : Int) := by rw [Int.tmod_eq_emod_of_nonneg (by omega)]; omega
  have htm1 : ((n1 : Int)).tmod 6 = ((n1 % 6 : Nat) : Int) := by rw [Int.tmod_eq_emod_of_nonneg (by omega)]; omega
  clear hL
  go_enter Tryz.func8, Tryz.ntmps8
  go_wp2_with fail
  refine (awake7 _ HL.out).mono ?_
  rintro e w1 ⟨rfl, b1⟩
  have HB1 : Hid (Below w.heap.size w w1) := b1
  have HL1 : Hid (Lw w1) := HL.out.below b1
  clear b1 HL
  generalize n0 % 6 = i at *
  generalize n1 % 6 = k at *
  go_wp2_with fail
  obtain ⟨wr, hwr⟩ : ∃ wr, ((w1.alloc (.cells #[.string ⟨#[43]⟩, .string ⟨#[45]⟩, .string ⟨#[42]⟩, .string ⟨#[61, 61]⟩, .string ⟨#[33, 61]⟩, .string ⟨#[60]⟩] 9)).alloc (.cells #[.int .i64 1, .int .i64 1, .int .i64 2, .int .i64 0, .int .i64 0, .int .i64 0] 3)) = wr := ⟨_, rfl⟩
  have hbw : Below w1.heap.size w1 wr := by rw [← hwr]; exact ((Below.refl _ _).alloc (Nat.le_refl _) _).alloc (by simp) _
  have HBW : Hid (Below w.heap.size w wr) := HB1.out.trans (hbw.mono HB1.out.size)
  have HLW : Hid (Lw wr) := HL1.out.below hbw
  have HS : Hid (∀ W, Below wr.heap.size wr W → ∀ j, j < 6 → W.cell? ⟨w1.heap.size, j, none⟩ = some (.string (sgB j))) := by
    intro W hb j hj
    have hk : W.heap[w1.heap.size]? = some (.cells #[.string ⟨#[43]⟩, .string ⟨#[45]⟩, .string ⟨#[42]⟩, .string ⟨#[61, 61]⟩, .string ⟨#[33, 61]⟩, .string ⟨#[60]⟩] 9 (0, 0)) := by
      rw [hb.block _ (by rw [← hwr]; simp; omega), ← hwr, Below.heap_alloc _ _ _ (by simp)]
      exact heap_alloc_new _ _
    rcases (show j = 0 ∨ j = 1 ∨ j = 2 ∨ j = 3 ∨ j = 4 ∨ j = 5 from by omega) with rfl | rfl | rfl | rfl | rfl | rfl <;> (simp only [World.cell?, hk]; rfl)
  have HN : Hid (∀ W, Below wr.heap.size wr W → ∀ j, j < 6 → W.cell? ⟨w1.heap.size + 1, j, none⟩ = some (.int .i64 (lvl j : Int))) := by
    intro W hb j hj
    have hk : W.heap[w1.heap.size + 1]? = some (.cells #[.int .i64 1, .int .i64 1, .int .i64 2, .int .i64 0, .int .i64 0, .int .i64 0] 3 (0, 0)) := by
      rw [hb.block _ (by rw [← hwr]; simp), ← hwr]
      have := heap_alloc_new (w1.alloc (.cells #[.string ⟨#[43]⟩, .string ⟨#[45]⟩, .string ⟨#[42]⟩, .string ⟨#[61, 61]⟩, .string ⟨#[33, 61]⟩, .string ⟨#[60]⟩] 9)) (.cells #[.int .i64 1, .int .i64 1, .int .i64 2, .int .i64 0, .int .i64 0, .int .i64 0] 3)
      rwa [show (w1.alloc (.cells #[.string ⟨#[43]⟩, .string ⟨#[45]⟩, .string ⟨#[42]⟩, .string ⟨#[61, 61]⟩, .string ⟨#[33, 61]⟩, .string ⟨#[60]⟩] 9)).heap.size = w1.heap.size + 1 from by simp] at this
    rcases (show j = 0 ∨ j = 1 ∨ j = 2 ∨ j = 3 ∨ j = 4 ∨ j = 5 from by omega) with rfl | rfl | rfl | rfl | rfl | rfl <;> (simp only [World.cell?, hk]; rfl)
  have hsz : w1.heap.size + 1 < wr.heap.size := by rw [← hwr]; simp
  have hbi : (sgB i).size ≤ 2 := sg_len hi6
  have hbk : (sgB k).size ≤ 2 := sg_len hk6
  rw [hwr]
  clear hwr hbw HB1 HL1
  refine region_sh (fun | 0 => some (.slice (some ⟨w1.heap.size, 0, none⟩) 6 6) | 1 => some (.int .i64 (i : Int)) | 2 => some (.pointer (some ⟨w1.heap.size, i, none⟩)) | 3 => some (.string (sgB i)) | 4 => some (.string (⟨#[97, 32]⟩ ++ sgB i)) | 5 => some (.string (⟨#[97, 32]⟩ ++ sgB i ++ ⟨#[32, 98, 32]⟩)) | 6 => some (.slice (some ⟨w1.heap.size, 0, none⟩) 6 6) | 7 => some (.int .i64 (k : Int)) | 8 => some (.pointer (some ⟨w1.heap.size, k, none⟩)) | 9 => some (.string (sgB k)) | 10 => some (.string (⟨#[97, 32]⟩ ++ sgB i ++ ⟨#[32, 98, 32]⟩ ++ sgB k)) | 11 => some (.string (⟨#[97, 32]⟩ ++ sgB i ++ ⟨#[32, 98, 32]⟩ ++ sgB k ++ ⟨#[32, 99, 59]⟩)) | _ => none) (JP wr 12 (fun | 0 => 39 | 1 => 26 | 2 => 40 | 3 => 41 | 4 => 42 | 5 => 9 | 6 => 10 | _ => 11) (LevR i k wr.drew)) (by kernel_rfl) (by kernel_rfl) (by kernel_rfl) (JP.start _) ?_ ?_
  · intro hon q hq L a1 W hC hl hBh hS hJ K hK
    have hqn : q < 20 := hq
    clear hq
    rcases (show q = 0 ∨ q = 1 ∨ q = 2 ∨ q = 3 ∨ q = 4 ∨ q = 5 ∨ q = 6 ∨ q = 7 ∨ q = 8 ∨ q = 9 ∨ q = 10 ∨ q = 11 ∨ q = 12 ∨ q = 13 ∨ q = 14 ∨ q = 15 ∨ q = 16 ∨ q = 17 ∨ q = 18 ∨ q = 19 from by omega) with rfl | rfl | rfl | rfl | rfl | rfl | rfl | rfl | rfl | rfl | rfl | rfl | rfl | rfl | rfl | rfl | rfl | rfl | rfl | rfl
    · have e5 := (eval_tmp a1 5).symm.trans ((hS.kept 5 (by kernel_rfl)).trans rfl)
      refine wpOp_step rfl (fun K' hK' => ?_)
      go_simp
      exact hK' _ _ (hK _ _ (hS.put hon (i := 0) rfl rfl (fun u hu => by cases hu; rfl)) (hJ.pure (by decide) (by decide)))
    · have e7 := (eval_tmp a1 7).symm.trans ((hS.kept 7 (by kernel_rfl)).trans rfl)
      refine wpOp_step rfl (fun K' hK' => ?_)
      go_simp
      exact hK' _ _ (hK _ _ (hS.put hon (i := 1) rfl rfl (fun u hu => by cases hu; rfl)) (hJ.pure (by decide) (by decide)))
    · have e27 := (eval_tmp a1 27).symm.trans (hS.get hBh (i := 2) rfl 0 (by simp) rfl rfl rfl)
      have e28 := (eval_tmp a1 28).symm.trans (hS.get hBh (i := 2) rfl 1 (by simp) rfl rfl rfl)
      refine wpOp_step rfl (fun K' hK' => ?_)
      go_simp
      rw [if_pos (by omega)]
      exact hK' _ _ (hK _ _ (hS.put hon (i := 2) rfl rfl (fun u hu => by cases hu; rfl)) (hJ.pure (by decide) (by decide)))
    · have e29 := (eval_tmp a1 29).symm.trans (hS.get hBh (i := 3) rfl 2 (by simp) rfl rfl rfl)
      have c4 : L 4 = false := closed_not hC hl (i := 4) (j := 3) rfl (g := .data) (by simp) rfl
      have c5 : L 5 = false := closed_not hC c4 (i := 5) (j := 4) rfl (g := .data) (by simp) rfl
      have c10 : L 10 = false := closed_not hC c5 (i := 10) (j := 5) rfl (g := .data) (by simp) rfl
      have c11 : L 11 = false := closed_not hC c10 (i := 11) (j := 10) rfl (g := .data) (by simp) rfl
      have c12 : L 12 = false := closed_not hC c11 (i := 12) (j := 11) rfl (g := .data) (by simp) rfl
      obtain rfl := hJ.n c12
      have hcl := HS.out wr.drew ⟨rfl, rfl, rfl, Nat.le_refl _, fun _ _ => rfl⟩ i hi6
      refine wpOp_step rfl (fun K' hK' => ?_)
      go_simp
      exact hK' _ _ (hK _ _ (hS.put hon (i := 3) rfl rfl (fun u hu => by cases hu; rfl)) (hJ.pure (by decide) (by decide)))
    · have e30 := (eval_tmp a1 30).symm.trans (hS.get hBh (i := 4) rfl 3 (by simp) rfl rfl rfl)
      refine wpOp_step rfl (fun K' hK' => ?_)
      go_simp
      rw [if_neg (by omega)]
      exact hK' _ _ (hK _ _ (hS.put hon (i := 4) rfl rfl (fun u hu => by cases hu; rfl)) (hJ.pure (by decide) (by decide)))
    · have e31 := (eval_tmp a1 31).symm.trans (hS.get hBh (i := 5) rfl 4 (by simp) rfl rfl rfl)
      refine wpOp_step rfl (fun K' hK' => ?_)
      go_simp
      rw [if_neg (by omega)]
      exact hK' _ _ (hK _ _ (hS.put hon (i := 5) rfl rfl (fun u hu => by cases hu; rfl)) (hJ.pure (by decide) (by decide)))
    · have e5 := (eval_tmp a1 5).symm.trans ((hS.kept 5 (by kernel_rfl)).trans rfl)
      refine wpOp_step rfl (fun K' hK' => ?_)
      go_simp
      exact hK' _ _ (hK _ _ (hS.put hon (i := 6) rfl rfl (fun u hu => by cases hu; rfl)) (hJ.pure (by decide) (by decide)))
    · have e8 := (eval_tmp a1 8).symm.trans ((hS.kept 8 (by kernel_rfl)).trans rfl)
      refine wpOp_step rfl (fun K' hK' => ?_)
      go_simp
      exact hK' _ _ (hK _ _ (hS.put hon (i := 7) rfl rfl (fun u hu => by cases hu; rfl)) (hJ.pure (by decide) (by decide)))
    · have e33 := (eval_tmp a1 33).symm.trans (hS.get hBh (i := 8) rfl 6 (by simp) rfl rfl rfl)
      have e34 := (eval_tmp a1 34).symm.trans (hS.get hBh (i := 8) rfl 7 (by simp) rfl rfl rfl)
      refine wpOp_step rfl (fun K' hK' => ?_)
      go_simp
      rw [if_pos (by omega)]
      exact hK' _ _ (hK _ _ (hS.put hon (i := 8) rfl rfl (fun u hu => by cases hu; rfl)) (hJ.pure (by decide) (by decide)))
    · have e35 := (eval_tmp a1 35).symm.trans (hS.get hBh (i := 9) rfl 8 (by simp) rfl rfl rfl)
      have c10 : L 10 = false := closed_not hC hl (i := 10) (j := 9) rfl (g := .data) (by simp) rfl
      have c11 : L 11 = false := closed_not hC c10 (i := 11) (j := 10) rfl (g := .data) (by simp) rfl
      have c12 : L 12 = false := closed_not hC c11 (i := 12) (j := 11) rfl (g := .data) (by simp) rfl
      obtain rfl := hJ.n c12
      have hcl := HS.out wr.drew ⟨rfl, rfl, rfl, Nat.le_refl _, fun _ _ => rfl⟩ k hk6
      refine wpOp_step rfl (fun K' hK' => ?_)
      go_simp
      exact hK' _ _ (hK _ _ (hS.put hon (i := 9) rfl rfl (fun u hu => by cases hu; rfl)) (hJ.pure (by decide) (by decide)))
    · have e32 := (eval_tmp a1 32).symm.trans (hS.get hBh (i := 10) rfl 5 (by simp) rfl rfl rfl)
      have e36 := (eval_tmp a1 36).symm.trans (hS.get hBh (i := 10) rfl 9 (by simp) rfl rfl rfl)
      refine wpOp_step rfl (fun K' hK' => ?_)
      go_simp
      rw [if_neg (by omega)]
      exact hK' _ _ (hK _ _ (hS.put hon (i := 10) rfl rfl (fun u hu => by cases hu; rfl)) (hJ.pure (by decide) (by decide)))
    · have e37 := (eval_tmp a1 37).symm.trans (hS.get hBh (i := 11) rfl 10 (by simp) rfl rfl rfl)
      refine wpOp_step rfl (fun K' hK' => ?_)
      go_simp
      rw [if_neg (by omega)]
      exact hK' _ _ (hK _ _ (hS.put hon (i := 11) rfl rfl (fun u hu => by cases hu; rfl)) (hJ.pure (by decide) (by decide)))
    · have ea := (eval_tmp a1 38).symm.trans (hS.get hBh (i := 12) rfl 11 (by simp) rfl rfl rfl)
      obtain rfl := hJ.n hl
      refine wpOp_call (f := 23) (args := #[.string (⟨#[97, 32]⟩ ++ sgB i ++ ⟨#[32, 98, 32]⟩ ++ sgB k ++ ⟨#[32, 99, 59]⟩)]) (R := fun v W => ∃ p q r, v = .tuple #[p, q, r] ∧ (LevR i k wr.drew) p q r W) rfl rfl (by simp [execOp, resolve, invoke, ea, go_sem]) (lev_parse hi6 hk6 (by rw [apL, apL, apL, apL]; rfl) wr.drew (HLW.out.v.below ⟨rfl, rfl, rfl, Nat.le_refl _, fun _ _ => rfl⟩)) ?_
      rintro v WQ ⟨p, q, r, rfl, hR⟩
      have n1 : L 13 = false := closed_not hC hl (i := 13) (j := 12) rfl (g := .data) (by simp) rfl
      have n2 : L 14 = false := closed_not hC n1 (i := 14) (j := 13) rfl (g := .data) (by simp) rfl
      have n3 : L 15 = false := closed_not hC n1 (i := 15) (j := 13) rfl (g := .data) (by simp) rfl
      have n4 : L 16 = false := closed_not hC n1 (i := 16) (j := 13) rfl (g := .data) (by simp) rfl
      have n5 : L 17 = false := closed_not hC n2 (i := 17) (j := 14) rfl (g := .data) (by simp) rfl
      have n6 : L 18 = false := closed_not hC n3 (i := 18) (j := 15) rfl (g := .data) (by simp) rfl
      have n7 : L 19 = false := closed_not hC n4 (i := 19) (j := 16) rfl (g := .data) (by simp) rfl
      exact hK _ _ (hS.put hon (i := 12) rfl rfl (fun u hu => by cases hu)) (hJ.call (fun j hj => by rcases (show j = 0 ∨ j = 1 ∨ j = 2 ∨ j = 3 ∨ j = 4 ∨ j = 5 ∨ j = 6 ∨ j = 7 from by omega) with rfl | rfl | rfl | rfl | rfl | rfl | rfl | rfl; exact hl; exact n1; exact n2; exact n3; exact n4; exact n5; exact n6; exact n7) (by rw [hS.size]; exact (by decide : (39 : Nat) < 118)) hR)
    · have dc : L 12 = true := hBh _ rfl ⟨12, .data⟩ (by simp) rfl
      obtain ⟨p, q, r, h1, h2⟩ := hJ.c dc
      have ev := (eval_tmp a1 39).symm.trans (h2 0 (by decide) dc)
      simp only [pv] at ev
      refine wpOp_step rfl (fun K' hK' => ?_)
      go_simp
      exact hK' _ _ (hK _ _ (hS.put hon (i := 13) rfl rfl (fun u hu => by cases hu)) (JP.next h1 h2 dc 1 (by decide) (by decide) (by rw [hS.size]; exact (by decide : (26 : Nat) < 118)) (by decide)))
    · have dc : L 13 = true := hBh _ rfl ⟨13, .data⟩ (by simp) rfl
      have d0 : L 12 = true := hC 13 _ rfl dc ⟨12, .data⟩ (by simp) rfl
      obtain ⟨p, q, r, h1, h2⟩ := hJ.c d0
      have ev := (eval_tmp a1 26).symm.trans (h2 1 (by decide) dc)
      simp only [pv] at ev
      refine wpOp_step rfl (fun K' hK' => ?_)
      go_simp
      exact hK' _ _ (hK _ _ (hS.put hon (i := 14) rfl rfl (fun u hu => by cases hu)) (JP.next h1 h2 d0 2 (by decide) (by decide) (by rw [hS.size]; exact (by decide : (40 : Nat) < 118)) (by decide)))
    · have dc : L 13 = true := hBh _ rfl ⟨13, .data⟩ (by simp) rfl
      have d0 : L 12 = true := hC 13 _ rfl dc ⟨12, .data⟩ (by simp) rfl
      obtain ⟨p, q, r, h1, h2⟩ := hJ.c d0
      have ev := (eval_tmp a1 26).symm.trans (h2 1 (by decide) dc)
      simp only [pv] at ev
      refine wpOp_step rfl (fun K' hK' => ?_)
      go_simp
      exact hK' _ _ (hK _ _ (hS.put hon (i := 15) rfl rfl (fun u hu => by cases hu)) (JP.next h1 h2 d0 3 (by decide) (by decide) (by rw [hS.size]; exact (by decide : (41 : Nat) < 118)) (by decide)))
    · have dc : L 13 = true := hBh _ rfl ⟨13, .data⟩ (by simp) rfl
      have d0 : L 12 = true := hC 13 _ rfl dc ⟨12, .data⟩ (by simp) rfl
      obtain ⟨p, q, r, h1, h2⟩ := hJ.c d0
      have ev := (eval_tmp a1 26).symm.trans (h2 1 (by decide) dc)
      simp only [pv] at ev
      refine wpOp_step rfl (fun K' hK' => ?_)
      go_simp
      exact hK' _ _ (hK _ _ (hS.put hon (i := 16) rfl rfl (fun u hu => by cases hu)) (JP.next h1 h2 d0 4 (by decide) (by decide) (by rw [hS.size]; exact (by decide : (42 : Nat) < 118)) (by decide)))
    · have dc : L 14 = true := hBh _ rfl ⟨14, .data⟩ (by simp) rfl
      have d1 : L 13 = true := hC 14 _ rfl dc ⟨13, .data⟩ (by simp) rfl
      have d0 : L 12 = true := hC 13 _ rfl d1 ⟨12, .data⟩ (by simp) rfl
      obtain ⟨p, q, r, h1, h2⟩ := hJ.c d0
      have ev := (eval_tmp a1 40).symm.trans (h2 2 (by decide) dc)
      simp only [pv] at ev
      refine wpOp_step rfl (fun K' hK' => ?_)
      go_simp
      exact hK' _ _ (hK _ _ (hS.put hon (i := 17) rfl rfl (fun u hu => by cases hu)) (JP.next h1 h2 d0 5 (by decide) (by decide) (by rw [hS.size]; exact (by decide : (9 : Nat) < 118)) (by decide)))
    · have dc : L 15 = true := hBh _ rfl ⟨15, .data⟩ (by simp) rfl
      have d1 : L 13 = true := hC 15 _ rfl dc ⟨13, .data⟩ (by simp) rfl
      have d0 : L 12 = true := hC 13 _ rfl d1 ⟨12, .data⟩ (by simp) rfl
      obtain ⟨p, q, r, h1, h2⟩ := hJ.c d0
      have ev := (eval_tmp a1 41).symm.trans (h2 3 (by decide) dc)
      simp only [pv] at ev
      refine wpOp_step rfl (fun K' hK' => ?_)
      go_simp
      exact hK' _ _ (hK _ _ (hS.put hon (i := 18) rfl rfl (fun u hu => by cases hu)) (JP.next h1 h2 d0 6 (by decide) (by decide) (by rw [hS.size]; exact (by decide : (10 : Nat) < 118)) (by decide)))
    · have dc : L 16 = true := hBh _ rfl ⟨16, .data⟩ (by simp) rfl
      have d1 : L 13 = true := hC 16 _ rfl dc ⟨13, .data⟩ (by simp) rfl
      have d0 : L 12 = true := hC 13 _ rfl d1 ⟨12, .data⟩ (by simp) rfl
      obtain ⟨p, q, r, h1, h2⟩ := hJ.c d0
      have ev := (eval_tmp a1 42).symm.trans (h2 4 (by decide) dc)
      simp only [pv] at ev
      refine wpOp_step rfl (fun K' hK' => ?_)
      go_simp
      exact hK' _ _ (hK _ _ (hS.put hon (i := 19) rfl rfl (fun u hu => by cases hu)) (JP.next h1 h2 d0 7 (by decide) (by decide) (by rw [hS.size]; exact (by decide : (11 : Nat) < 118)) (by decide)))
  · intro L a1 wz hl hS hJ
    obtain ⟨p, q, r, hR, h2⟩ := hJ.c (hl 12 (by decide))
    have hfr := hS.frame [27, 28, 29, 30, 31, 32, 33, 34, 35, 36, 37, 38, 39, 26, 40, 41, 42, 9, 10, 11] rfl
    obtain ⟨zz, hz⟩ : ∃ z : Nat → Value, z = fun k => a1.eval (.tmp k) := ⟨_, rfl⟩
    have z5 : zz 9 = p := by rw [hz]; exact h2 5 (by decide) (hl 17 (by decide))
    have z6 : zz 10 = q := by rw [hz]; exact h2 6 (by decide) (hl 18 (by decide))
    have z7 : zz 11 = r := by rw [hz]; exact h2 7 (by decide) (hl 19 (by decide))
    rw [← hz] at hfr
    rw [hfr]
    clear hfr hS hJ hl h2 hz
    simp only [over, List.setIfInBounds_toArray, List.set_cons_zero, List.set_cons_succ, z5, z6, z7]
    clear z5 z6 z7
    have hbz : Below wr.heap.size wr wz := ⟨hR.1.os, hR.1.tape, hR.1.output, hR.1.size, hR.1.block⟩
    have HBZ : Hid (Below w.heap.size w wz) := HBW.out.trans (hbz.mono HBW.out.size)
    have HLZ : Hid (Lw wz) := HLW.out.below hbz
    have s1 := HS.out wz hbz i hi6
    have s2 := HS.out wz hbz k hk6
    have m1 := HN.out wz hbz i hi6
    have m2 := HN.out wz hbz k hk6
    have hz1 : w1.heap.size + 1 < wz.heap.size := Nat.lt_of_lt_of_le hsz hbz.size
    have hgi := sg_len hi6
    have hgk := sg_len hk6
    have hsi : (sgB i).size = (sgL i).length := rfl
    have hsk : (sgB k).size = (sgL k).length := rfl
    clear hbz HBW HLW
    rcases hR.2 with ⟨hA1, hA2, rfl, rfl, rfl⟩ | ⟨hA, rfl, rfl, l, m, x, e2, e3, hv⟩
    · rw [hA1] at m1
      rw [hA2] at m2
      have hlen : (⟨#[97, 32]⟩ ++ sgB i ++ ⟨#[32, 98, 32]⟩ : ByteArray).size = 5 + (sgL i).length := by
        rw [bsz, apL, apL]
        show ([97, 32] ++ sgL i ++ [32, 98, 32]).length = _
        simp only [List.length_append, List.length_cons, List.length_nil]
        omega
      clear hR HS HN
      go_wp2
      go_ret
      exact ⟨rfl, HBZ.out⟩
    · have HV := Lib.hid hv
      have HE3 := Lib.hid e3
      obtain ⟨a3, c3, rfl, _⟩ := hv.at'
      clear hR HS HN hv e3
      by_cases hlt : lvl i < lvl k
      · rw [if_pos hlt] at e2
        have HE2 := Lib.hid e2
        clear e2
        by_cases h0 : lvl i = 0
        · have hk0 : ¬ ((lvl k : Int) = 0) := by omega
          have hk1 : 0 < (lvl k : Int) := by omega
          rw [h0] at m1
          clear hlt hA
          go_wp2_with fail
          go_region
          go_wp2_with fail
          go_region
          go_wp2_with fail
          go_region
          go_wp2_with fail
          have bd : Below wz.heap.size wz wz.drew.drew.drew := (Below.refl _ _).drew.drew.drew
          have g1 := sg_len hi6
          have g2 := sg_len hk6
          refine (pg_ok (x := lev3 i k) (by rw [apL, apL, apL, apL]; rfl) HE2.out (by simp only [lev3, List.length_append, List.length_cons, List.length_nil]; omega) _ (HLZ.out.v.below bd)).mono ?_
          rintro e w4 ⟨v4, rfl, hl4, b4⟩
          have b5 : Below wz.heap.size wz w4 := bd.trans b4
          have HB4 : Hid (Below w.heap.size w w4) := HBZ.out.trans (b5.mono HBZ.out.size)
          have HV4 := Lib.hid hl4
          have HV5 := Lib.hid (lie_up HV.out b5)
          obtain ⟨a4, c4, rfl, _⟩ := hl4.at'
          clear bd b4 b5 hl4 g1 g2 HBZ HLZ HV
          go_wp2_with fail
          have hc := same_any HV5.out (lie_up HV4.out (Below.refl _ _))
          rw [HE3.out] at hc
          refine hc.mono ?_
          rintro e w5 ⟨rfl, b5⟩
          have HB5 : Hid (Below w.heap.size w w5) := HB4.out.trans (b5.mono HB4.out.size)
          clear b5 hc
          go_wp2
          go_ret
          exact ⟨rfl, HB5.out⟩
        · have hi0 : ¬ ((lvl i : Int) = 0) := by omega
          have hk1 : (lvl i : Int) < (lvl k : Int) := by omega
          clear hlt hA
          go_wp2_with fail
          go_region
          go_wp2_with fail
          go_region
          go_wp2_with fail
          go_region
          go_wp2_with fail
          have bd : Below wz.heap.size wz wz.drew.drew.drew := (Below.refl _ _).drew.drew.drew
          have g1 := sg_len hi6
          have g2 := sg_len hk6
          refine (pg_ok (x := lev3 i k) (by rw [apL, apL, apL, apL]; rfl) HE2.out (by simp only [lev3, List.length_append, List.length_cons, List.length_nil]; omega) _ (HLZ.out.v.below bd)).mono ?_
          rintro e w4 ⟨v4, rfl, hl4, b4⟩
          have b5 : Below wz.heap.size wz w4 := bd.trans b4
          have HB4 : Hid (Below w.heap.size w w4) := HBZ.out.trans (b5.mono HBZ.out.size)
          have HV4 := Lib.hid hl4
          have HV5 := Lib.hid (lie_up HV.out b5)
          obtain ⟨a4, c4, rfl, _⟩ := hl4.at'
          clear bd b4 b5 hl4 g1 g2 HBZ HLZ HV
          go_wp2_with fail
          have hc := same_any HV5.out (lie_up HV4.out (Below.refl _ _))
          rw [HE3.out] at hc
          refine hc.mono ?_
          rintro e w5 ⟨rfl, b5⟩
          have HB5 : Hid (Below w.heap.size w w5) := HB4.out.trans (b5.mono HB4.out.size)
          clear b5 hc
          go_wp2
          go_ret
          exact ⟨rfl, HB5.out⟩
      · have hi0 : ¬ ((lvl i : Int) = 0) := by omega
        have hk1 : ¬ ((lvl i : Int) < (lvl k : Int)) := by omega
        rw [if_neg hlt] at e2
        have HE2 := Lib.hid e2
        clear e2
        clear hlt hA
        go_wp2_with fail
        go_region
        go_wp2_with fail
        go_region
        go_wp2_with fail
        have bd : Below wz.heap.size wz wz.drew.drew := (Below.refl _ _).drew.drew
        have g1 := sg_len hi6
        have g2 := sg_len hk6
        refine (pg_ok (x := lev2 i k) (by rw [apL, apL, apL, apL]; rfl) HE2.out (by simp only [lev2, List.length_append, List.length_cons, List.length_nil]; omega) _ (HLZ.out.v.below bd)).mono ?_
        rintro e w4 ⟨v4, rfl, hl4, b4⟩
        have b5 : Below wz.heap.size wz w4 := bd.trans b4
        have HB4 : Hid (Below w.heap.size w w4) := HBZ.out.trans (b5.mono HBZ.out.size)
        have HV4 := Lib.hid hl4
        have HV5 := Lib.hid (lie_up HV.out b5)
        obtain ⟨a4, c4, rfl, _⟩ := hl4.at'
        clear bd b4 b5 hl4 g1 g2 HBZ HLZ HV
        go_wp2_with fail
        have hc := same_any HV5.out (lie_up HV4.out (Below.refl _ _))
        rw [HE3.out] at hc
        refine hc.mono ?_
        rintro e w5 ⟨rfl, b5⟩
        have HB5 : Hid (Below w.heap.size w w5) := HB4.out.trans (b5.mono HB4.out.size)
        clear b5 hc
        go_wp2
        go_ret
        exact ⟨rfl, HB5.out⟩
end Go.Proofs.YthghjnkeofkoiaaGreatDoor
