/-
 slices.Index, slices.Contains at ops; the law CodeOps.
 Conditions: as each theorem says.
-/
import Derived.Test.YtenfphbhofibjaaGreatDoorZAw9
import Derived.Test.YtenfphbhofibjaaGreatDoorZSm
namespace Go.Proofs.YtenfphbhofibjaaGreatDoor
open Go.RowKit TM
set_option linter.unusedVariables false
set_option linter.unusedSimpArgs false
def OpAt (w : World) (g o : Nat) (l : List Nat) : Prop := ∀ (k : Nat) (x : Nat), l[k]? = some x → w.cell? ⟨g, o + k, none⟩ = some (.int .u8 (x : Int))
set_option maxRecDepth 100000 in
set_option maxHeartbeats 2000000 in
theorem idxOps_any {l : List Nat} {P : Nat → Prop} {v : Value} {w : World} (h : SlAt P v l.length (fun g o => OpAt w g o l)) (s : Nat) :
 Calls Tryz.prog 68 #[v, .int .u8 (s : Int)] w fun e w' => e = .returned (.int .i64 (idxZ l s)) ∧ w' = w := by
 obtain ⟨ad, cap, rfl, hc1, hx1, hg1⟩ := h
 unfold maxLen at hx1
 have HG := Lib.hid hg1
 clear hg1
 go_enter Tryz.func68, Tryz.ntmps68
 go_wp2_with fail
 go_loopw [8] (fun i wr => ∃ k : Nat, i = .int .i64 (k : Int) ∧ k ≤ l.length ∧ wr = w ∧ Hid (k ≤ l.findIdx (fun x => decide (x = s))))
  (fun i _ => l.length - (intOf i).toNat)
 case atStart => exact ⟨0, rfl, Nat.zero_le _, rfl, Nat.zero_le _⟩
 case round =>
  obtain ⟨k, rfl, hk, rfl, HK⟩ := hrel
  by_cases hlt : k < l.length
  ·obtain ⟨x, hx⟩ : ∃ x, l[k]? = some x := ⟨_, List.getElem?_eq_getElem hlt⟩
   obtain ⟨g, o, rfl, gl, A⟩ := HG.out (by omega)
   have hq := A k x hx
   have hidx : 0 ≤ (k : Int) ∧ (k : Int) < (l.length : Int) := ⟨by omega, by omega⟩
   by_cases he : x = s
   ·subst he
    have HZ : Hid (idxZ l x = k) := idx_hit HK.out hx
    clear A hx
    go_wp2
    go_ret
    exact ⟨ret_int HZ.out.symm, rfl⟩
   ·have hne : ((s : Int) == (x : Int)) = false := by simp; omega
    have HZ : Hid (k + 1 ≤ l.findIdx (fun x => decide (x = s))) := idx_step HK.out hx he
    clear A hx
    go_wp2_with fail
    go_roundw
    case rel => exact ⟨k + 1, by go_num, by omega, by first | rfl | trivial, HZ⟩
    case measure => simp [intOf]; omega
  ·obtain rfl : k = l.length := by omega
   have HZ : Hid (idxZ l s = -1) := idx_none HK.out
   go_wp2
   go_ret
   exact ⟨ret_int HZ.out.symm, rfl⟩
theorem containsOps_any {l : List Nat} {P : Nat → Prop} {v : Value} {w : World} (h : SlAt P v l.length (fun g o => OpAt w g o l)) (s : Nat) :
 Calls Tryz.prog 47 #[v, .int .u8 (s : Int)] w fun e w' => e = .returned (.bool (l.any fun x => decide (x = s))) ∧ w' = w := by
 have HC : Hid (Calls Tryz.prog 68 #[v, .int .u8 (s : Int)] w fun e w' => e = .returned (.int .i64 (idxZ l s)) ∧ w' = w) := idxOps_any h s
 have HI : Hid (decide (0 ≤ idxZ l s) = l.any fun x => decide (x = s)) := idx_in l s
 clear h
 go_enter Tryz.func47, Tryz.ntmps47
 go_wp2_with fail
 refine HC.out.mono ?_
 rintro e w1 ⟨rfl, rfl⟩
 have hi := HI.out
 generalize idxZ l s = z at hi
 have HI2 := Lib.hid hi
 clear hi HI HC
 go_wp2_with fail
 go_ret
 exact ⟨ret_bool HI2.out, rfl⟩
theorem opAt_blk {w' : World} {g : Nat} {l : List Nat} {cs : Array Value} {t : TypeId} (hb : w'.heap[g]? = some (.cells cs t (0, 0))) (hcs : ∀ (k x : Nat), l[k]? = some x → cs[k]? = some (.int .u8 (x : Int))) : OpAt w' g 0 l := fun k x hx => by
 simp only [World.cell?, hb]
 rw [Nat.zero_add]
 exact hcs k x hx
def noneOps : List Nat := [4, 15, 16, 17, 18, 19, 21]
def endOps : List Nat := [15, 16, 18, 19]
set_option maxRecDepth 100000 in
theorem ops_eq : ∀ o, o < 256 → (writesB o == (decide (o < 22) && !(noneOps.any fun x => decide (x = o)))) = true ∧ (endsB o == (endOps.any fun x => decide (x = o))) = true := by decide
set_option maxRecDepth 100000 in
set_option maxHeartbeats 4000000 in
theorem codeOps_any (op : Nat) (hop : op ≤ 255) (w : World) (hL : Lz w) : Calls Tryz.prog 13 #[.int .u8 (op : Int)] w fun e w' => e = .returned (.bool true) ∧ Below w.heap.size w w' := by
 have HL : Hid (Lz w) := hL
 clear hL
 go_enter Tryz.func13, Tryz.ntmps13
 go_wp2_with fail
 refine (awake9 _ HL.out).mono ?_
 rintro e w1 ⟨rfl, b1⟩
 have HB1 : Hid (Below w.heap.size w w1) := b1
 clear b1 HL
 have HQ : Hid ((writesB op == (decide (op < 22) && !(noneOps.any fun x => decide (x = op)))) = true ∧ (endsB op == (endOps.any fun x => decide (x = op))) = true) := ops_eq op (by omega)
 have HW : Hid (∀ W, Calls Tryz.prog 46 #[.int .u8 (op : Int)] W fun e w' => e = .returned (.bool (writesB op)) ∧ w' = W) := fun W => writes_any op (by omega) W
 have HE : Hid (∀ W, Calls Tryz.prog 48 #[.int .u8 (op : Int)] W fun e w' => e = .returned (.bool (endsB op)) ∧ w' = W) := fun W => ends_any op (by omega) W
 go_wp2_with fail
 have HB2 : Hid (∀ a b, Below w.heap.size w ((w1.alloc a).alloc b)) := fun a b => (HB1.out.alloc HB1.out.size a).alloc (by have := HB1.out.size; simp; omega) b
 obtain ⟨a9, ha9⟩ : ∃ a : Obj, a = .cells #[.int .u8 4, .int .u8 15, .int .u8 16, .int .u8 17, .int .u8 18, .int .u8 19, .int .u8 21] 64 := ⟨_, rfl⟩
 obtain ⟨b9, hb9⟩ : ∃ b : Obj, b = .cells #[.int .u8 15, .int .u8 16, .int .u8 18, .int .u8 19] 64 := ⟨_, rfl⟩
 have hba : ((w1.alloc a9).alloc b9).heap[w1.heap.size]? = some a9 := by rw [Below.heap_alloc _ _ _ (by simp), heap_alloc_new]
 have hbb : ((w1.alloc a9).alloc b9).heap[(w1.alloc a9).heap.size]? = some b9 := heap_alloc_new _ _
 rw [show (w1.alloc a9).heap.size = w1.heap.size + 1 from by simp] at hbb
 have HN : Hid (Calls Tryz.prog 47 #[.slice (some ⟨w1.heap.size, 0, none⟩) 7 7, .int .u8 (op : Int)] ((w1.alloc a9).alloc b9) fun e w' => e = .returned (.bool (noneOps.any fun x => decide (x = op))) ∧ w' = (w1.alloc a9).alloc b9) := by
  have h9 : OpAt ((w1.alloc a9).alloc b9) w1.heap.size 0 noneOps := opAt_blk (hba.trans (congrArg some ha9)) fun k x hx => by
   match k, hx with
   | 0, hx => simp [noneOps] at hx; subst hx; rfl
   | 1, hx => simp [noneOps] at hx; subst hx; rfl
   | 2, hx => simp [noneOps] at hx; subst hx; rfl
   | 3, hx => simp [noneOps] at hx; subst hx; rfl
   | 4, hx => simp [noneOps] at hx; subst hx; rfl
   | 5, hx => simp [noneOps] at hx; subst hx; rfl
   | 6, hx => simp [noneOps] at hx; subst hx; rfl
   | k + 7, hx => simp [noneOps] at hx
  exact containsOps_any (l := noneOps) (P := fun _ => True) ⟨_, 7, rfl, by decide, by decide, fun _ => ⟨_, 0, rfl, trivial, h9⟩⟩ op
 have HM : Hid (Calls Tryz.prog 47 #[.slice (some ⟨w1.heap.size + 1, 0, none⟩) 4 4, .int .u8 (op : Int)] ((w1.alloc a9).alloc b9) fun e w' => e = .returned (.bool (endOps.any fun x => decide (x = op))) ∧ w' = (w1.alloc a9).alloc b9) := by
  have h9 : OpAt ((w1.alloc a9).alloc b9) (w1.heap.size + 1) 0 endOps := opAt_blk (hbb.trans (congrArg some hb9)) fun k x hx => by
   match k, hx with
   | 0, hx => simp [endOps] at hx; subst hx; rfl
   | 1, hx => simp [endOps] at hx; subst hx; rfl
   | 2, hx => simp [endOps] at hx; subst hx; rfl
   | 3, hx => simp [endOps] at hx; subst hx; rfl
   | k + 4, hx => simp [endOps] at hx
  exact containsOps_any (l := endOps) (P := fun _ => True) ⟨_, 4, rfl, by decide, by decide, fun _ => ⟨_, 0, rfl, trivial, h9⟩⟩ op
 clear hba hbb
 subst ha9 hb9
 generalize (noneOps.any fun x => decide (x = op)) = nb at HQ HN
 generalize (endOps.any fun x => decide (x = op)) = eb at HQ HM
 generalize writesB op = wb at HQ HW
 generalize endsB op = nd at HQ HE
 by_cases h22 : op < 22
 ·have hd : (op : Int) < 22 := by omega
  have hq1 : Hid ((wb == !nb) = true) := Lib.hid (by have := HQ.out.1; rw [decide_eq_true h22, Bool.true_and] at this; exact this)
  have hq2 : Hid ((nd == eb) = true) := Lib.hid HQ.out.2
  clear HQ
  refine (HW.out _).mono ?_
  rintro e w2 ⟨rfl, rfl⟩
  go_wp2_with fail
  refine HN.out.mono ?_
  rintro e w2 ⟨rfl, rfl⟩
  have k1 := hq1.out
  go_wp2_with fail
  refine (HE.out _).mono ?_
  rintro e w2 ⟨rfl, rfl⟩
  go_wp2_with fail
  refine HM.out.mono ?_
  rintro e w2 ⟨rfl, rfl⟩
  have k2 := hq2.out
  go_wp2
  go_ret
  exact ⟨rfl, HB2.out _ _⟩
 ·have hd : ¬ ((op : Int) < 22) := by omega
  have hq1 : Hid (wb = false) := Lib.hid (by have := HQ.out.1; rw [decide_eq_false h22, Bool.false_and] at this; simpa using this)
  have hq2 : Hid ((nd == eb) = true) := Lib.hid HQ.out.2
  clear HQ
  refine (HW.out _).mono ?_
  rintro e w2 ⟨rfl, rfl⟩
  have k1 := hq1.out
  subst k1
  go_wp2_with fail
  refine (HE.out _).mono ?_
  rintro e w2 ⟨rfl, rfl⟩
  go_wp2_with fail
  refine HM.out.mono ?_
  rintro e w2 ⟨rfl, rfl⟩
  have k2 := hq2.out
  go_wp2
  go_ret
  exact ⟨rfl, HB2.out _ _⟩
end Go.Proofs.YtenfphbhofibjaaGreatDoor
