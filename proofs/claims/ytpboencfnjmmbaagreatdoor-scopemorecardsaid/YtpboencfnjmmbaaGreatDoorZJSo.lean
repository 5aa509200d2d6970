/-
 TkSO, TkMake, joined.
 Conditions: as each theorem says.
-/
import Derived.Test.YtpboencfnjmmbaaGreatDoorZTkAll
import Derived.Test.YtpboencfnjmmbaaGreatDoorZJTsA
import Derived.Test.YtpboencfnjmmbaaGreatDoorZJTsB
set_option maxRecDepth 100000
set_option maxHeartbeats 4000000
set_option linter.unusedVariables false
namespace Go.Proofs.YtpboencfnjmmbaaGreatDoor
open Go.RowKit TM
theorem manyS_le (kind : Nat) : manyS kind ≤ 3 := by unfold manyS; split <;> (try split) <;> omega
theorem nameS_len (kind : Nat) (x : XX) : (nameS kind x).data.toList.length ≤ 3 := by
 unfold nameS
 split
 ·exact nm_size _
 ·simp
theorem st_len {kind p : Nat} {name : ByteArray} {ls : List Bs} {b e : Bs} {noE : Bool} (hp : 1 ≤ p) (hls : ∀ x ∈ ls, x.length ≤ 100 * p) (hn : name.data.toList.length ≤ 3) (hb : b.length ≤ 2 * (100 * p)) (he : e.length ≤ 2 * (100 * p)) : (stT kind name ls b noE e).length ≤ 1000 * p := by
 have h0 := pt_len (by omega : 3 ≤ 100 * p) hls
 have p0 := h0 0
 have p1 := h0 1
 have p2 := h0 2
 unfold stT
 split
 ·unfold blocksT
  split
  ·simp only [blockT, List.length_append, List.length_cons, List.length_nil]
   split
   ·simp only [List.length_nil]; omega
   ·simp only [List.length_append, List.length_cons, List.length_nil]; omega
  split
  ·simp only [blockT, List.length_append, List.length_cons, List.length_nil]; omega
  split
  ·simp only [blockT, List.length_append, List.length_cons, List.length_nil]; omega
  ·simp only [List.length_append, List.length_cons, List.length_nil]; omega
 ·unfold simpleT
  split
  ·simp only [List.length_append, List.length_cons, List.length_nil]; omega
  split
  ·simp only [List.length_append, List.length_cons, List.length_nil]; omega
  split
  ·simp only [fieldT, List.length_append, List.length_cons, List.length_nil]; omega
  split
  ·simp only [List.length_append, List.length_cons, List.length_nil]; omega
  split
  ·simp only [List.length_append, List.length_cons, List.length_nil]; omega
  ·simp only [List.length_append, List.length_cons, List.length_nil]; omega
theorem st_wf {d kind : Nat} (x : XX) {es : List TE} {B E : List TS} (hk : kind ≤ 8) (hl : es.length = manyS kind) (he : ∀ e ∈ es, wfE e ∧ dpE e ≤ d + 1 ∧ (txE e).length ≤ 100 * 10 ^ d) (hB : ∀ s ∈ B, wfS s ∧ dpS s ≤ d + 1 ∧ (txS s).length ≤ 100 * 10 ^ d) (hE : ∀ s ∈ E, wfS s ∧ dpS s ≤ d + 1 ∧ (txS s).length ≤ 100 * 10 ^ d) (hBl : B.length ≤ 2) (hEl : E.length ≤ 2) (hB0 : kind ≠ 3 → kind ≠ 4 → kind ≠ 7 → B = []) (hE0 : kind ≠ 3 → kind ≠ 7 → E = []) :
 wfS (.mk kind (nameS kind x) es B E 0) ∧ dpS (.mk kind (nameS kind x) es B E 0) ≤ d + 2 ∧ (txS (.mk kind (nameS kind x) es B E 0)).length ≤ 100 * 10 ^ (d + 1) := by
 refine ⟨⟨hk, fun h => ?_, fun h => ?_, fun h => ?_, fun h => ?_, fun h1 h2 h3 => ?_, hB0, hE0, rfl, wfEs_all fun e h => (he e h).1, wfSs_all fun s h => (hB s h).1, wfSs_all fun s h => (hE s h).1⟩, ?_, ?_⟩
 ·rw [hl, h]; rfl
 ·rw [hl]; unfold manyS; rw [if_neg h.1, if_neg h.2]
 ·have : es.length = 0 := by rw [hl, h]; rfl
  exact List.eq_nil_of_length_eq_zero this
 ·unfold nameS; rw [if_pos h]; exact nm_mem _
 ·unfold nameS; rw [if_neg (by omega)]
 ·have a1 := dpEs_all fun e h => (he e h).2.1
  have a2 := dpSs_all fun e h => (hB e h).2.1
  have a3 := dpSs_all fun e h => (hE e h).2.1
  simp only [dpS]
  omega
 ·have b1 := txSs_len fun e h => (hB e h).2.2
  have b2 := txSs_len fun e h => (hE e h).2.2
  have c1 : B.length * (100 * 10 ^ d) ≤ 2 * (100 * 10 ^ d) := Nat.mul_le_mul_right _ hBl
  have c2 : E.length * (100 * 10 ^ d) ≤ 2 * (100 * 10 ^ d) := Nat.mul_le_mul_right _ hEl
  rw [txS, txEs_map, show 100 * 10 ^ (d + 1) = 1000 * 10 ^ d from by rw [Nat.pow_succ]; omega]
  exact st_len (Nat.pow_pos (by decide)) (fun y hy => by
   obtain ⟨e, h, rfl⟩ := List.mem_map.1 hy
   exact (he e h).2.2) (nameS_len _ _) (by omega) (by omega)
theorem so_zero (hE : EO 0) : SO 0 := by
 intro xs left hok hl0 hl1
 have hx := hd_ok hok
 have h9 : (hd xs).d % 9 < 9 := Nat.mod_lt _ (by decide)
 obtain ⟨k9, hk9⟩ : ∃ k, k = (hd xs).d % 9 := ⟨_, rfl⟩
 obtain ⟨kind, hkind⟩ : ∃ k, k = if k9 = 3 ∨ k9 = 4 ∨ k9 = 7 then 8 else k9 := ⟨_, rfl⟩
 rw [← hk9] at h9
 have hm := manyS_le kind
 simp only [Nat.zero_add, Int.pow_one] at hl0 ⊢
 have hm7 : kind ≠ 7 := by rw [hkind]; split <;> omega
 have hn2 : (manyS kind : Int) * (10 : Int) ^ 0 = manyS kind := by rw [Int.pow_zero, Int.mul_one]
 obtain ⟨XS, LF, ES, q0, q1, q2, q3, q4, q5, q6, q7⟩ := es_chain hE (manyS kind) xs.tail (left - 1) (tail_ok hok) (by rw [hn2]; omega) (by omega)
 rw [hn2] at q5
 have hlen : ((List.range (manyS kind)).map ES).length = manyS kind := by simp
 have hk8 : kind ≤ 8 := by rw [hkind]; split <;> omega
 obtain ⟨w1, w2, w3⟩ := st_wf (d := 0) (hd xs) hk8 hlen q7 (B := []) (E := []) (fun s h => by simp at h) (fun s h => by simp at h) (by simp) (by simp) (fun _ _ _ => rfl) (fun _ _ => rfl)
 refine ⟨_, XS (manyS kind), LF (manyS kind), q3, by simp at q4; omega, by omega, by omega, w1, w2, w3, fun w mb hM => ?_⟩
 have hst : ∀ j, j < manyS kind → ∀ W, MkAt W mb (XS j) (LF j) → Calls Tryz.prog 74 #[.pointer (some ⟨mb, 0, none⟩), .int .i64 (0 - 1)] W fun en w' => ∃ a b c, en = .returned (exV (ES j) a b c) ∧ MkAt w' mb (XS (j + 1)) (LF (j + 1)) ∧ W.grownBy w' (some mb) ∧ EIn (Fresh W.heap.size w'.heap.size) w' (ES j) a b c := fun j hj W hW => q2 j hj W mb hW
 show Calls Tryz.prog 46 #[.pointer (some ⟨mb, 0, none⟩), .int .i64 0] w _
 by_cases h3 : k9 = 3
 ·have hk : kind = 8 := by rw [hkind, if_pos (by omega)]
  exact stmt_D3 hok (by omega) hl1 rfl (hk9.symm.trans h3) hk hM rfl rfl XS LF ES q0 q1 hst
 by_cases h4 : k9 = 4
 ·have hk : kind = 8 := by rw [hkind, if_pos (by omega)]
  exact stmt_D4 hok (by omega) hl1 rfl (hk9.symm.trans h4) hk hM rfl rfl XS LF ES q0 q1 hst
 by_cases h7 : k9 = 7
 ·have hk : kind = 8 := by rw [hkind, if_pos (by omega)]
  exact stmt_D7 hok (by omega) hl1 rfl (hk9.symm.trans h7) hk hM rfl rfl XS LF ES q0 q1 hst
 ·have hk : kind = k9 := by rw [hkind, if_neg (by omega)]
  exact stmt_B hok (by omega) hl1 rfl (by rw [hk, hk9]) (by omega) hM rfl rfl XS LF ES q0 q1 hst
theorem so_succ {d : Nat} (h1d : 1 ≤ d) (hd9 : d ≤ 9) (hE : EO d) (hS : SO (d - 1)) : SO d := by
 intro xs left hok hl0 hl1
 have hp : (1 : Int) ≤ (10 : Int) ^ d := Int.pow_pos (by decide)
 have hp1 : (10 : Int) ^ (d + 1) = 10 * (10 : Int) ^ d := by rw [Int.pow_succ, Int.mul_comm]
 rw [hp1] at hl0 ⊢
 have hx := hd_ok hok
 have h9 : (hd xs).d % 9 < 9 := Nat.mod_lt _ (by decide)
 obtain ⟨kind, hkind⟩ : ∃ k, k = (hd xs).d % 9 := ⟨_, rfl⟩
 rw [← hkind] at h9
 have hm := manyS_le kind
 have hn2 : (manyS kind : Int) * (10 : Int) ^ d ≤ 3 * (10 : Int) ^ d := Int.mul_le_mul_of_nonneg_right (by omega) (by omega)
 have hn0 : 0 ≤ (manyS kind : Int) * (10 : Int) ^ d := Int.mul_nonneg (by omega) (by omega)
 obtain ⟨XS, LF, ES, q0, q1, q2, q3, q4, q5, q6, q7⟩ := es_chain hE (manyS kind) xs.tail (left - 1) (tail_ok hok) (by omega) (by omega)
 have hlen : ((List.range (manyS kind)).map ES).length = manyS kind := by simp
 simp only [List.length_tail] at q4
 have hd1 : d - 1 + 1 = d := by omega
 have hd2 : d - 1 + 2 = d + 1 := by omega
 have hcast : ((d - 1 : Nat) : Int) = (d : Int) - 1 := by omega
 have ha : (hd xs).a % 3 ≤ 2 := by have := Nat.mod_lt (hd xs).a (show 0 < 3 by decide); omega
 have hn : (hd xs).n % 3 ≤ 2 := by have := Nat.mod_lt (hd xs).n (show 0 < 3 by decide); omega
 have hap : (((hd xs).a % 3 : Nat) : Int) * (10 : Int) ^ d ≤ 2 * (10 : Int) ^ d := Int.mul_le_mul_of_nonneg_right (by omega) (by omega)
 have hnp : (((hd xs).n % 3 : Nat) : Int) * (10 : Int) ^ d ≤ 2 * (10 : Int) ^ d := Int.mul_le_mul_of_nonneg_right (by omega) (by omega)
 have hc1 := ss_chain hS ((hd xs).a % 3) (XS (manyS kind)) (LF (manyS kind)) q3 (by rw [hd1]; omega) (by omega)
 rw [hd1, hd2, hcast] at hc1
 obtain ⟨m, YS, MF, SS, r0, s0, s1, r1, r2, s2, s3, s4, s5, s6, s7⟩ := hc1
 have hc2 := ss_chain hS ((hd xs).n % 3) (YS m) (MF m) s3 (by rw [hd1]; omega) (by omega)
 rw [hd1, hd2, hcast] at hc2
 obtain ⟨m2, ZS, NF, SS2, r02, s02, s12, r12, r22, s22, s32, s42, s52, s62, s72⟩ := hc2
 have hBl : ((List.range m).map SS).length ≤ 2 := by simp; omega
 have hEl : ((List.range m2).map SS2).length ≤ 2 := by simp; omega
 have hb : ∀ mb W, MkAt W mb (XS (manyS kind)) (LF (manyS kind)) → Calls Tryz.prog 75 #[.pointer (some ⟨mb, 0, none⟩), .int .i64 ((d : Int) - 1), .int .i64 (((hd xs).a % 3 : Nat) : Int)] W fun en w' => ∃ v, en = .returned v ∧ MkAt w' mb (YS m) (MF m) ∧ W.grownBy w' (some mb) ∧ SlS W.heap.size w' v ((List.range m).map SS) := fun mb W hW =>
  stmts_walk (D := (d : Int) - 1) ha r0 YS MF SS r1 r2 (by rw [s0, s1]; exact hW) (fun j hj W hW => s2 j hj W mb hW)
 have he : ∀ mb W, MkAt W mb (YS m) (MF m) → Calls Tryz.prog 75 #[.pointer (some ⟨mb, 0, none⟩), .int .i64 ((d : Int) - 1), .int .i64 (((hd xs).n % 3 : Nat) : Int)] W fun en w' => ∃ v, en = .returned v ∧ MkAt w' mb (ZS m2) (NF m2) ∧ W.grownBy w' (some mb) ∧ SlS W.heap.size w' v ((List.range m2).map SS2) := fun mb W hW =>
  stmts_walk (D := (d : Int) - 1) hn r02 ZS NF SS2 r12 r22 (by rw [s02, s12]; exact hW) (fun j hj W hW => s22 j hj W mb hW)
 have hst : ∀ mb j, j < manyS kind → ∀ W, MkAt W mb (XS j) (LF j) → Calls Tryz.prog 74 #[.pointer (some ⟨mb, 0, none⟩), .int .i64 ((d : Int) - 1)] W fun en w' => ∃ a b c, en = .returned (exV (ES j) a b c) ∧ MkAt w' mb (XS (j + 1)) (LF (j + 1)) ∧ W.grownBy w' (some mb) ∧ EIn (Fresh W.heap.size w'.heap.size) w' (ES j) a b c := fun mb j hj W hW => q2 j hj W mb hW
 have hno : ∀ s ∈ ([] : List TS), wfS s ∧ dpS s ≤ d + 1 ∧ (txS s).length ≤ 100 * 10 ^ d := fun s h => by simp at h
 by_cases h3 : kind = 3
 ·obtain ⟨w1, w2, w3⟩ := st_wf (d := d) (hd xs) (by omega) hlen q7 s7 s72 hBl hEl (fun h => absurd h3 h) (fun h => absurd h3 h)
  exact ⟨_, ZS m2, NF m2, s32, by omega, by omega, by omega, w1, w2, w3, fun w mb hM => stmt_C3 hok (by omega) hl1 (by omega) (by omega) hkind.symm h3 hM rfl rfl XS LF ES q0 q1 (hst mb) (hb mb) (he mb)⟩
 by_cases h7 : kind = 7
 ·obtain ⟨w1, w2, w3⟩ := st_wf (d := d) (hd xs) (by omega) hlen q7 s7 s72 hBl hEl (fun _ _ h => absurd h7 h) (fun _ h => absurd h7 h)
  exact ⟨_, ZS m2, NF m2, s32, by omega, by omega, by omega, w1, w2, w3, fun w mb hM => stmt_C7 hok (by omega) hl1 (by omega) (by omega) hkind.symm h7 hM rfl rfl XS LF ES q0 q1 (hst mb) (hb mb) (he mb)⟩
 by_cases h4 : kind = 4
 ·obtain ⟨w1, w2, w3⟩ := st_wf (d := d) (hd xs) (by omega) hlen q7 s7 hno hBl (by simp) (fun _ h => absurd h4 h) (fun _ _ => rfl)
  exact ⟨_, YS m, MF m, s3, by omega, by omega, by omega, w1, w2, w3, fun w mb hM => stmt_C4 hok (by omega) hl1 (by omega) (by omega) hkind.symm h4 hM rfl rfl XS LF ES q0 q1 (hst mb) (hb mb)⟩
 ·obtain ⟨w1, w2, w3⟩ := st_wf (d := d) (hd xs) (by omega) hlen q7 hno hno (by simp) (by simp) (fun _ _ _ => rfl) (fun _ _ => rfl)
  exact ⟨_, XS (manyS kind), LF (manyS kind), q3, by omega, by omega, by omega, w1, w2, w3, fun w mb hM => stmt_A hok (by omega) hl1 (by omega) (by omega) hkind.symm (by omega) hM rfl rfl XS LF ES q0 q1 (hst mb)⟩
theorem so_three : SO 3 := by
 have e0 : EO 0 := eo_leaf (by omega)
 have e1 : EO 1 := eo_leaf (by omega)
 have s0 := so_zero e0
 have e2 := eo_succ (d := 1) (by omega) (by omega) e1 s0
 have s1 := so_succ (d := 1) (by omega) (by omega) e1 s0
 have e3 := eo_succ (d := 2) (by omega) (by omega) e2 s1
 have s2 := so_succ (d := 2) (by omega) (by omega) e2 s1
 exact so_succ (d := 3) (by omega) (by omega) e3 s2
end Go.Proofs.YtpboencfnjmmbaaGreatDoor
namespace Go.Proofs.YtpboencfnjmmbaaGreatDoor
open Go.RowKit TM
def XSl (w : World) (v : Value) (xs : List XX) : Prop := ∃ ad cap, v = .slice ad xs.length cap ∧ xs.length ≤ cap ∧ cap ≤ maxLen ∧ (0 < xs.length → ∃ g o, ad = some ⟨g, o, none⟩ ∧ g < w.heap.size ∧ XAt w g o xs)
theorem XSl.up {w w' : World} {v : Value} {xs : List XX} (h : XSl w v xs) (hb : Below w.heap.size w w') : XSl w' v xs := by
 obtain ⟨ad, cap, h1, h2, h3, h4⟩ := h
 refine ⟨ad, cap, h1, h2, h3, fun hn => ?_⟩
 obtain ⟨g, o, e1, e2, e3⟩ := h4 hn
 exact ⟨g, o, e1, Nat.lt_of_lt_of_le e2 hb.size, e3.kept (hb.block g e2)⟩
theorem mk_chain (hS : SO 3) : ∀ (n : Nat) (xs : List XX) (left : Int), xs.length ≤ n → (∀ x ∈ xs, x.ok) → -400000000 ≤ left → left ≤ 1000 →
 ∃ (m : Nat) (XS : Nat → List XX) (LF : Nat → Int) (SS : Nat → TS), m ≤ xs.length ∧ XS 0 = xs ∧ LF 0 = left ∧ (∀ j, j < m → 0 < (XS j).length ∧ 0 < LF j) ∧ ((XS m).length = 0 ∨ LF m ≤ 0) ∧
  (∀ j, j < m → ∀ W mb, MkAt W mb (XS j) (LF j) → Calls Tryz.prog 46 #[.pointer (some ⟨mb, 0, none⟩), .int .i64 3] W fun en w' => ∃ a b c, en = .returned (stV (SS j) a b c) ∧ MkAt w' mb (XS (j + 1)) (LF (j + 1)) ∧ W.grownBy w' (some mb) ∧ SIn (Fresh W.heap.size w'.heap.size) w' (SS j) a b c) ∧
  ∀ e ∈ (List.range m).map SS, wfS e ∧ dpS e ≤ 5 ∧ (txS e).length ≤ 1000000
 | n, xs, left, hn, hok, h0, h1 => by
  by_cases hz : xs.length = 0 ∨ left ≤ 0
  ·exact ⟨0, fun _ => xs, fun _ => left, fun _ => noS, Nat.zero_le _, rfl, rfl, fun j hj => absurd hj (by omega), hz, fun j hj => absurd hj (by omega), fun e he => by simp at he⟩
  ·cases n with
   | zero => exact absurd (.inl (by omega)) hz
   | succ n =>
    have hp4 : (10 : Int) ^ (3 + 1) = 10000 := by decide
    obtain ⟨e, ys, lf, e1, e2, e3, e4, e5, e6, e7, e8⟩ := hS xs left hok (by rw [hp4]; omega) h1
    rw [hp4] at e3
    obtain ⟨m, XS, LF, SS, r0, q0, q1, r1, r2, q2, q7⟩ := mk_chain hS n ys lf (by omega) e1 (by omega) (by omega)
    refine ⟨m + 1, fun j => if j = 0 then xs else XS (j - 1), fun j => if j = 0 then left else LF (j - 1), fun j => if j = 0 then e else SS (j - 1), by omega, rfl, rfl, fun j hj => ?_, ?_, fun j hj W mb hm => ?_, fun x hx => ?_⟩
    ·by_cases h : j = 0
     ·subst h; simp; omega
     ·simp only [h, if_false]; exact r1 _ (by omega)
    ·simpa using r2
    ·by_cases h : j = 0
     ·subst h
      have := e8 W mb hm
      simp only [if_true, Nat.zero_add, Nat.sub_self] at *
      rw [if_neg (by decide), if_neg (by decide), q0, q1]
      exact this
     ·obtain ⟨k, rfl⟩ : ∃ k, j = k + 1 := ⟨j - 1, by omega⟩
      simp only [Nat.add_sub_cancel, Nat.add_eq_zero_iff, Nat.one_ne_zero, and_false, if_false] at hm ⊢
      exact q2 k (by omega) W mb hm
    ·obtain ⟨j, hj, rfl⟩ := List.mem_map.1 hx
     by_cases h : j = 0
     ·subst h; exact ⟨e5, e6, e7⟩
     ·simp only [h, if_false]
      exact q7 _ (List.mem_map.2 ⟨j - 1, by simp at hj ⊢; omega, rfl⟩)
def rowLen : Value → Nat
 | .slice _ n _ => n
 | _ => 0
theorem make_walk {xs : List XX} {m : Nat} (XS : Nat → List XX) (LF : Nat → Int) (SS : Nat → TS) (hxl : xs.length ≤ 100) (hm : m ≤ xs.length) (h0X : XS 0 = xs) (h0L : LF 0 = min (2 * (xs.length : Int) + 2) 120) (hpos : ∀ j, j < m → 0 < (XS j).length ∧ 0 < LF j) (hend : (XS m).length = 0 ∨ LF m ≤ 0)
 (hstep : ∀ j, j < m → ∀ W mb, MkAt W mb (XS j) (LF j) → Calls Tryz.prog 46 #[.pointer (some ⟨mb, 0, none⟩), .int .i64 3] W fun en w' => ∃ a b c, en = .returned (stV (SS j) a b c) ∧ MkAt w' mb (XS (j + 1)) (LF (j + 1)) ∧ W.grownBy w' (some mb) ∧ SIn (Fresh W.heap.size w'.heap.size) w' (SS j) a b c)
 {w : World} {v : Value} (hv : XSl w v xs) :
 Calls Tryz.prog 18 #[v] w fun en w' => ∃ u, en = .returned u ∧ SlAt (Fresh w.heap.size w'.heap.size) u ((List.range m).map SS).length (fun g o => SsAt (Fresh w.heap.size w'.heap.size) w' g o ((List.range m).map SS)) ∧ Below w.heap.size w w' ∧ ∃ cs, w'.ownsRow (w.heap.size + 1) 60 6 u ((List.range m).map SS).length cs ∧ SsC (Fresh w.heap.size w'.heap.size) w' ((List.range m).map SS) cs := by
 obtain ⟨ad, cap, rfl, hc1, hc2, hg⟩ := hv
 have HC2 : Hid (cap ≤ maxLen) := hc2
 have HG0 := Lib.hid hg
 have HSTEP := Lib.hid hstep
 have HPOS := Lib.hid hpos
 have HEND := Lib.hid hend
 have H0X := Lib.hid h0X
 have H0L := Lib.hid h0L
 unfold maxLen at hc2
 clear hstep hpos hend hg h0X h0L
 go_enter Tryz.func18, Tryz.ntmps18
 go_wp2_with fail
 have hmw0 : w.heap.size < w.heap.size + 1 := Nat.lt_succ_self _
 go_loopw [4] (fun vp wr => ∃ (j : Nat) (cs : List Value), rowLen vp = j ∧ j ≤ m ∧ Hid (wr.ownsRow (w.heap.size + 1) 60 6 vp j cs) ∧ Hid (SsC (fun k => w.heap.size + 1 ≤ k ∧ k < wr.heap.size ∧ vp.ownBlock ≠ some k) wr ((List.range j).map SS) cs) ∧ Hid (MkAt wr w.heap.size (XS j) (LF j)) ∧ Hid (Below w.heap.size w wr) ∧ w.heap.size + 1 ≤ wr.heap.size)
  (fun vp _ => m - rowLen vp)
 case atStart =>
  refine ⟨0, [], rfl, Nat.zero_le _, World.ownsRow_nil _ _ _ _, rfl, ?_, (Below.refl _ _).alloc (Nat.le_refl _) _, by simp⟩
  show MkAt _ _ _ _
  rw [H0X.out, H0L.out]
  refine ⟨ad, cap, ?_, hc1, HC2.out, fun hn => ?_⟩
  ·exact heap_alloc_new _ _
  ·obtain ⟨g, o, e1, e2, e3⟩ := HG0.out hn
   exact ⟨g, o, e1, e2, e3.kept (Below.heap_alloc _ _ _ e2)⟩
 case round =>
  obtain ⟨j, cs, hjl, hjm, HROW, HES, HMJ, HB, hwz⟩ := hrel
  obtain ⟨ad1, cap1, hmb, hx1, hx2, _⟩ := HMJ.out
  have c0 : wr.cell? ⟨w.heap.size, 0, none⟩ = some (.slice ad1 (XS j).length cap1) := by simp [World.cell?, hmb]
  have c1 : wr.cell? ⟨w.heap.size, 1, none⟩ = some (.int .i64 (LF j)) := by simp [World.cell?, hmb]
  have hmbl : w.heap.size < wr.heap.size := lt_of_block hmb
  unfold maxLen at hx2
  clear hmb
  by_cases hlt : j < m
  ·obtain ⟨hp1, hp2⟩ := HPOS.out j hlt
   go_wp2_with fail
   refine (HSTEP.out j hlt _ _ HMJ.out).mono ?_
   rintro en W ⟨x, y, z, rfl, h1, h2, h3⟩
   have HU : Hid (Ua wr W w.heap.size (XS (j + 1)) (LF (j + 1)) (SS j) x y z) := ⟨h1, h2, h3⟩
   obtain ⟨kd, nm2, xs2, bd2, el2, ps2, hEj⟩ : ∃ kd nm xs bd el ps, SS j = .mk kd nm xs bd el ps := by cases h : SS j; exact ⟨_, _, _, _, _, _, rfl⟩
   have HEJ := Lib.hid hEj
   have h3b := h3
   rw [hEj] at h3b
   obtain ⟨_, ⟨pa2, pc2, rfl, _⟩, ⟨na2, nc2, rfl, _⟩, ⟨ba2, bc2, rfl, _⟩⟩ := h3b
   have hrow2 : W.ownsRow (w.heap.size + 1) 60 6 u4 j cs := by
    refine ⟨HROW.out.1, ?_⟩
    rcases HROW.out.2 with h0 | ⟨k, cap3, cu, hv3, hk, hh, r⟩
    ·exact .inl h0
    ·exact .inr ⟨k, cap3, cu, hv3, hk, (h2.block k (lt_of_block hh) (by simp; omega)).trans hh, r⟩
   have HROW2 := Lib.hid hrow2
   have hsW : w.heap.size + 1 ≤ W.heap.size := Nat.le_trans hwz h2.size
   have hj6 : j ≤ 1000000 := by omega
   have HGW : Hid (w.grownBy wr (some w.heap.size)) := ⟨HB.out.os, HB.out.tape, HB.out.output, HB.out.size, fun k hk _ => HB.out.block k hk⟩
   rw [hEj]
   unfold stV
   clear h1 h2 h3 hrow2 hEj
   obtain ⟨i0, hi, hz0, hz1, hz2⟩ := info_parts infoStmt
   go_wp2_with (at_builtin; refine wpList_append_own2 rfl (.tmp 26) (.tmp 29) 41 rfl (w.heap.size + 1) 60 i0 _ 6 104 Tryz.underlying41 hi hz0 hz1 hz2 rfl (by decide) _ j cs rfl (HROW2.out.alloc _) ⟨W.heap.size, 0, none⟩ 1 1 [.int .i64 (kd : Int), .string nm2, .slice pa2 xs2.length pc2, .slice na2 bd2.length nc2, .slice ba2 el2.length bc2, .int .i64 ps2] rfl rfl (fun q u hq => by match q, hq with | 0, hq => simp at hq; subst hq; simp [Addr.add] | 1, hq => simp at hq; subst hq; simp [Addr.add] | 2, hq => simp at hq; subst hq; simp [Addr.add] | 3, hq => simp at hq; subst hq; simp [Addr.add] | 4, hq => simp at hq; subst hq; simp [Addr.add] | 5, hq => simp at hq; subst hq; simp [Addr.add] | q + 6, hq => simp at hq) (by intro u hu; simp at hu; rcases hu with rfl | rfl | rfl | rfl | rfl | rfl <;> rfl) (by decide) (by unfold maxLen; omega) (by omega) (by simp; omega) ?_)
   intro v7 w7 hown7 hgr7 ho7
   have hall := HU.out.app HROW.out hmw0 hwz HES.out HGW.out (by omega) hgr7 (by simpa using ho7)
   obtain ⟨a1, a2, a3⟩ := hall
   have HA1 := Lib.hid a1
   have HA2 : Hid (Below w.heap.size w w7) := ⟨a2.os, a2.tape, a2.output, a2.size, fun k hk => a2.block k hk (fun e1 => by have h9 : k = w.heap.size := Option.some.inj e1; omega)⟩
   have HA3 : Hid (SsC (fun k => w.heap.size + 1 ≤ k ∧ k < w7.heap.size ∧ v7.ownBlock ≠ some k) w7 ((List.range (j + 1)).map SS) (cs ++ sixS (SS j) (.slice pa2 xs2.length pc2) (.slice na2 bd2.length nc2) (.slice ba2 el2.length bc2))) := by show SsC _ _ _ _; rw [rangeS_snoc]; exact a3
   have HR7 : Hid (w7.ownsRow (w.heap.size + 1) 60 6 v7 (j + 1) (cs ++ sixS (SS j) (.slice pa2 xs2.length pc2) (.slice na2 bd2.length nc2) (.slice ba2 el2.length bc2))) := by show World.ownsRow _ _ _ _ _ _ _; rw [HEJ.out]; exact hown7
   have h8 : W.heap.size + 1 ≤ w7.heap.size := by have := hgr7.size; simpa using this
   have hs7 : w.heap.size + 1 ≤ w7.heap.size := by omega
   clear hown7 hgr7 ho7 a1 a2 a3 HROW HES HMJ HB HU HROW2 HGW
   go_wp2_with fail
   go_roundw
   case rel =>
    obtain ⟨ao7, cap7, hv7, _⟩ := row_shape HR7.out
    exact ⟨j + 1, _, by rw [hv7]; rfl, by omega, HR7, HA3, HA1, HA2, hs7⟩
   case measure =>
    obtain ⟨ao7, cap7, hv7, _⟩ := row_shape HR7.out
    rw [hv7]
    show m - (j + 1) < m - rowLen _
    omega
  ·have hje : j = m := by omega
   subst hje
   have HSL : Hid (SlAt (Fresh w.heap.size wr.heap.size) _ ((List.range j).map SS).length (fun g o => SsAt (Fresh w.heap.size wr.heap.size) wr g o ((List.range j).map SS))) := sl_of_row HROW.out (by simp) HES.out fun k h1 h2 => ⟨by omega, h2⟩
   have HES3 : Hid (SsC (Fresh w.heap.size wr.heap.size) wr ((List.range j).map SS) cs) := SsC.kept (fun k hk => ⟨⟨by have := hk.1; omega, hk.2.1⟩, rfl⟩) HES.out
   have hend := HEND.out
   rcases hend with hz | hz
   ·rw [hz] at c0
    go_wp2
    go_ret
    exact ⟨u4, rfl, by simpa using HSL.out, HB.out, cs, by simpa using HROW.out, HES3.out⟩
   ·have hd : ¬ 0 < LF j := by omega
    by_cases hz2 : (XS j).length = 0
    ·rw [hz2] at c0
     go_wp2
     go_ret
     exact ⟨u4, rfl, by simpa using HSL.out, HB.out, cs, by simpa using HROW.out, HES3.out⟩
    ·have hp1 : 0 < (XS j).length := by omega
     go_wp2
     go_ret
     exact ⟨u4, rfl, by simpa using HSL.out, HB.out, cs, by simpa using HROW.out, HES3.out⟩
theorem make_any {xs : List XX} (hxl : xs.length ≤ 100) (hok : ∀ x ∈ xs, x.ok) : ∃ T : List TS, (∀ e ∈ T, wfS e ∧ dpS e ≤ 5 ∧ (txS e).length ≤ 1000000) ∧ T.length ≤ xs.length ∧
 ∀ (w : World) (v : Value), XSl w v xs → Calls Tryz.prog 18 #[v] w fun en w' => ∃ u, en = .returned u ∧ SlAt (Fresh w.heap.size w'.heap.size) u T.length (fun g o => SsAt (Fresh w.heap.size w'.heap.size) w' g o T) ∧ Below w.heap.size w w' ∧ ∃ cs, w'.ownsRow (w.heap.size + 1) 60 6 u T.length cs ∧ SsC (Fresh w.heap.size w'.heap.size) w' T cs := by
 obtain ⟨m, XS, LF, SS, r0, q0, q1, r1, r2, q2, q7⟩ := mk_chain so_three xs.length xs (min (2 * (xs.length : Int) + 2) 120) (Nat.le_refl _) hok (by omega) (by omega)
 exact ⟨(List.range m).map SS, q7, by simpa using r0, fun w v hv => make_walk XS LF SS hxl r0 q0 q1 r1 r2 q2 hv⟩
end Go.Proofs.YtpboencfnjmmbaaGreatDoor
