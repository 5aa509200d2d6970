/-
  The program's Same: are two trees the same, but for where statements stand? slices.EqualFunc at expressions and statements, sameStmt, sameExpr.
  Conditions: as each theorem says.
-/
import Derived.Test.YthghjnkeofkoiaaGreatDoorZTrCm
import Derived.Test.YthghjnkeofkoiaaGreatDoorZMem
namespace Go.Proofs.YthghjnkeofkoiaaGreatDoor
open Go.RowKit TM
set_option linter.unusedVariables false
set_option linter.unusedSimpArgs false
mutual
def sameE : TE → TE → Bool
  | .mk op num text ps pm bd => fun y => match y with
    | .mk op' num' text' ps' pm' bd' => decide (op = op') && (decide (num = num') && (decide (text = text') && (sameEs ps ps' && (decide (pm = pm') && sameSs bd bd'))))
def sameEs : List TE → List TE → Bool
  | [] => fun m => match m with
    | [] => true
    | _ :: _ => false
  | x :: l => fun m => match m with
    | [] => false
    | y :: m => sameE x y && sameEs l m
def sameS : TS → TS → Bool
  | .mk k name xs b e _ => fun y => match y with
    | .mk k' name' xs' b' e' _ => decide (k = k') && (decide (name = name') && (sameEs xs xs' && (sameSs b b' && sameSs e e')))
def sameSs : List TS → List TS → Bool
  | [] => fun m => match m with
    | [] => true
    | _ :: _ => false
  | x :: l => fun m => match m with
    | [] => false
    | y :: m => sameS x y && sameSs l m
end
theorem sameEs_len : ∀ {l m : List TE}, l.length ≠ m.length → sameEs l m = false
  | [], [], h => absurd rfl h
  | [], _ :: _, _ => rfl
  | _ :: _, [], _ => rfl
  | x :: l, y :: m, h => by show (sameE x y && sameEs l m) = false; rw [sameEs_len (l := l) (m := m) (by simpa using h)]; simp
theorem sameSs_len : ∀ {l m : List TS}, l.length ≠ m.length → sameSs l m = false
  | [], [], h => absurd rfl h
  | [], _ :: _, _ => rfl
  | _ :: _, [], _ => rfl
  | x :: l, y :: m, h => by show (sameS x y && sameSs l m) = false; rw [sameSs_len (l := l) (m := m) (by simpa using h)]; simp
theorem sameEs_drop {l m : List TE} {k : Nat} {x y : TE} (hx : l[k]? = some x) (hy : m[k]? = some y) : sameEs (l.drop k) (m.drop k) = (sameE x y && sameEs (l.drop (k + 1)) (m.drop (k + 1))) := by
  obtain ⟨h1, rfl⟩ := List.getElem?_eq_some_iff.1 hx
  obtain ⟨h2, rfl⟩ := List.getElem?_eq_some_iff.1 hy
  rw [List.drop_eq_getElem_cons h1, List.drop_eq_getElem_cons h2]; rfl
theorem sameSs_drop {l m : List TS} {k : Nat} {x y : TS} (hx : l[k]? = some x) (hy : m[k]? = some y) : sameSs (l.drop k) (m.drop k) = (sameS x y && sameSs (l.drop (k + 1)) (m.drop (k + 1))) := by
  obtain ⟨h1, rfl⟩ := List.getElem?_eq_some_iff.1 hx
  obtain ⟨h2, rfl⟩ := List.getElem?_eq_some_iff.1 hy
  rw [List.drop_eq_getElem_cons h1, List.drop_eq_getElem_cons h2]; rfl
theorem sameEs_end (l m : List TE) (h : l.length = m.length) : sameEs (l.drop l.length) (m.drop l.length) = true := by rw [List.drop_length, h, List.drop_length]; rfl
theorem sameSs_end (l m : List TS) (h : l.length = m.length) : sameSs (l.drop l.length) (m.drop l.length) = true := by rw [List.drop_length, h, List.drop_length]; rfl
def OkSE (x : TE) : Prop := ∀ (y : TE) (a b c a' b' c' : Value) (w : World), EIn (· < w.heap.size) w x a b c → EIn (· < w.heap.size) w y a' b' c' → Calls Tryz.prog 65 #[exV x a b c, exV y a' b' c'] w fun e w' => e = .returned (.bool (sameE x y)) ∧ Below w.heap.size w w'
def OkSS (x : TS) : Prop := ∀ (y : TS) (a b c a' b' c' : Value) (w : World), SIn (· < w.heap.size) w x a b c → SIn (· < w.heap.size) w y a' b' c' → Calls Tryz.prog 39 #[stV x a b c, stV y a' b' c'] w fun e w' => e = .returned (.bool (sameS x y)) ∧ Below w.heap.size w w'
theorem TM.EIn.up {w w' : World} {x : TE} {a b c : Value} (h : EIn (· < w.heap.size) w x a b c) (hb : Below w.heap.size w w') : EIn (· < w'.heap.size) w' x a b c := EIn.kept (fun k hk => ⟨Nat.lt_of_lt_of_le hk hb.size, hb.block k hk⟩) x h
theorem TM.SIn.up {w w' : World} {x : TS} {a b c : Value} (h : SIn (· < w.heap.size) w x a b c) (hb : Below w.heap.size w w') : SIn (· < w'.heap.size) w' x a b c := SIn.kept (fun k hk => ⟨Nat.lt_of_lt_of_le hk hb.size, hb.block k hk⟩) x h
set_option maxRecDepth 100000 in
set_option maxHeartbeats 2000000 in
theorem eqFuncE {l m : List TE} (hl : ∀ p ∈ l, OkSE p) {v v' : Value} {w : World} (h : SlAt (· < w.heap.size) v l.length (fun g o => EsAt (· < w.heap.size) w g o l)) (h' : SlAt (· < w.heap.size) v' m.length (fun g o => EsAt (· < w.heap.size) w g o m)) :
    Calls Tryz.prog 64 #[v, v', .func (.func 65) #[] #[]] w fun e w' => e = .returned (.bool (sameEs l m)) ∧ Below w.heap.size w w' := by
  obtain ⟨ad1, cap1, rfl, hc1, hx1, hg1⟩ := h
  obtain ⟨ad2, cap2, rfl, hc2, hx2, hg2⟩ := h'
  unfold maxLen at hx1 hx2
  by_cases hn : l.length = m.length
  · have HL := Lib.hid hl
    have HG1 := Lib.hid hg1
    have HG2 := Lib.hid hg2
    have HN := Lib.hid hn
    rw [← hn] at hc2 ⊢
    clear hl hg1 hg2 hn
    go_enter Tryz.func64, Tryz.ntmps64
    go_wp2_with fail
    go_loopw [17] (fun i wr => ∃ k : Nat, i = .int .i64 (k : Int) ∧ k ≤ l.length ∧ Hid (Below w.heap.size w wr) ∧ Hid (sameEs l m = sameEs (l.drop k) (m.drop k)))
      (fun i _ => l.length - (intOf i).toNat)
    case atStart => exact ⟨0, rfl, Nat.zero_le _, Below.refl _ _, rfl⟩
    case round =>
      obtain ⟨k, rfl, hk, HB, HEQ⟩ := hrel
      by_cases hlt : k < l.length
      · obtain ⟨x, hx⟩ : ∃ x, l[k]? = some x := ⟨_, List.getElem?_eq_getElem hlt⟩
        obtain ⟨y, hy⟩ : ∃ y, m[k]? = some y := ⟨_, List.getElem?_eq_getElem (by rw [← HN.out]; exact hlt)⟩
        obtain ⟨g1, o1, rfl, gl1, A1⟩ := HG1.out (by omega)
        obtain ⟨g2, o2, rfl, gl2, A2⟩ := HG2.out (by have := HN.out; omega)
        obtain ⟨a1, b1, c1, hce1, hin1⟩ := A1.get hx
        obtain ⟨a2, b2, c2, hce2, hin2⟩ := A2.get hy
        have HOK : Hid (∀ W, Below w.heap.size w W → Calls Tryz.prog 65 #[exV x a1 b1 c1, exV y a2 b2 c2] W fun e w' => e = .returned (.bool (sameE x y)) ∧ Below W.heap.size W w') := fun W hb => HL.out x (List.mem_of_getElem? hx) y _ _ _ _ _ _ W (hin1.up hb) (hin2.up hb)
        have HD : Hid (sameEs l m = (sameE x y && sameEs (l.drop (k + 1)) (m.drop (k + 1)))) := HEQ.out.trans (sameEs_drop hx hy)
        obtain ⟨bb, hbb⟩ : ∃ bb, sameE x y = bb := ⟨_, rfl⟩
        rw [hbb] at HOK HD
        obtain ⟨op1, num1, text1, ps1, pm1, bd1⟩ := x
        obtain ⟨op2, num2, text2, ps2, pm2, bd2⟩ := y
        obtain ⟨_, ⟨pa1, pc1, rfl, _⟩, ⟨na1, nc1, rfl, _⟩, ⟨ba1, bc1, rfl, _⟩⟩ := hin1
        obtain ⟨_, ⟨pa2, pc2, rfl, _⟩, ⟨na2, nc2, rfl, _⟩, ⟨ba2, bc2, rfl, _⟩⟩ := hin2
        obtain ⟨q0, q1, q2, q3, q4, q5⟩ := hce1.kept (HB.out.block g1 gl1)
        obtain ⟨r0, r1, r2, r3, r4, r5⟩ := hce2.kept (HB.out.block g2 gl2)
        have hidx : 0 ≤ (k : Int) ∧ (k : Int) < (l.length : Int) := ⟨by omega, by omega⟩
        have hgl1 : g1 < wr.heap.size := Nat.lt_of_lt_of_le gl1 HB.out.size
        have hgl2 : g2 < wr.heap.size := Nat.lt_of_lt_of_le gl2 HB.out.size
        have hal : ∀ (o : Obj) (q : Nat), (wr.alloc o).cell? ⟨g2, q, none⟩ = wr.cell? ⟨g2, q, none⟩ := fun o q => cell_kept (Below.heap_alloc _ _ _ hgl2)
        simp only [exV] at HOK
        clear A1 A2 hce1 hce2 hx hy hbb HEQ
        go_wp2_with fail
        refine (HOK.out _ ((HB.out.alloc HB.out.size _).alloc (by have := HB.out.size; simp; omega) _)).mono ?_
        rintro en w2 ⟨rfl, hb2⟩
        have HB2 : Hid (Below w.heap.size w w2) := ((HB.out.alloc HB.out.size _).alloc (by have := HB.out.size; simp; omega) _).trans (hb2.mono (by have := HB.out.size; simp; omega))
        clear hb2 q0 q1 q2 q3 q4 q5 r0 r1 r2 r3 r4 r5 HOK hal
        cases bb with
        | true =>
          go_wp2_with fail
          go_roundw
          case rel => exact ⟨k + 1, by go_num, by omega, HB2, by show _ = _; rw [HD.out, Bool.true_and]⟩
          case measure => simp [intOf]; omega
        | false =>
          go_wp2
          go_ret
          exact ⟨by rw [HD.out, Bool.false_and]; rfl, HB2.out⟩
      · obtain rfl : k = l.length := by omega
        go_wp2
        go_ret
        exact ⟨by rw [HEQ.out, sameEs_end _ _ HN.out]; rfl, HB.out⟩
  · rw [sameEs_len hn]
    have hn2 : ¬ ((l.length : Int) = (m.length : Int)) := by omega
    clear hg1 hg2 hl
    go_enter Tryz.func64, Tryz.ntmps64
    go_wp2
    go_ret
    exact ⟨rfl, Below.refl _ _⟩
set_option maxRecDepth 100000 in
set_option maxHeartbeats 2000000 in
theorem eqFuncS {l m : List TS} (hl : ∀ p ∈ l, OkSS p) {v v' : Value} {w : World} (h : SlAt (· < w.heap.size) v l.length (fun g o => SsAt (· < w.heap.size) w g o l)) (h' : SlAt (· < w.heap.size) v' m.length (fun g o => SsAt (· < w.heap.size) w g o m)) :
    Calls Tryz.prog 38 #[v, v', .func (.func 39) #[] #[]] w fun e w' => e = .returned (.bool (sameSs l m)) ∧ Below w.heap.size w w' := by
  obtain ⟨ad1, cap1, rfl, hc1, hx1, hg1⟩ := h
  obtain ⟨ad2, cap2, rfl, hc2, hx2, hg2⟩ := h'
  unfold maxLen at hx1 hx2
  by_cases hn : l.length = m.length
  · have HL := Lib.hid hl
    have HG1 := Lib.hid hg1
    have HG2 := Lib.hid hg2
    have HN := Lib.hid hn
    rw [← hn] at hc2 ⊢
    clear hl hg1 hg2 hn
    go_enter Tryz.func38, Tryz.ntmps38
    go_wp2_with fail
    go_loopw [17] (fun i wr => ∃ k : Nat, i = .int .i64 (k : Int) ∧ k ≤ l.length ∧ Hid (Below w.heap.size w wr) ∧ Hid (sameSs l m = sameSs (l.drop k) (m.drop k)))
      (fun i _ => l.length - (intOf i).toNat)
    case atStart => exact ⟨0, rfl, Nat.zero_le _, Below.refl _ _, rfl⟩
    case round =>
      obtain ⟨k, rfl, hk, HB, HEQ⟩ := hrel
      by_cases hlt : k < l.length
      · obtain ⟨x, hx⟩ : ∃ x, l[k]? = some x := ⟨_, List.getElem?_eq_getElem hlt⟩
        obtain ⟨y, hy⟩ : ∃ y, m[k]? = some y := ⟨_, List.getElem?_eq_getElem (by rw [← HN.out]; exact hlt)⟩
        obtain ⟨g1, o1, rfl, gl1, A1⟩ := HG1.out (by omega)
        obtain ⟨g2, o2, rfl, gl2, A2⟩ := HG2.out (by have := HN.out; omega)
        obtain ⟨a1, b1, c1, hce1, hin1⟩ := A1.get hx
        obtain ⟨a2, b2, c2, hce2, hin2⟩ := A2.get hy
        have HOK : Hid (∀ W, Below w.heap.size w W → Calls Tryz.prog 39 #[stV x a1 b1 c1, stV y a2 b2 c2] W fun e w' => e = .returned (.bool (sameS x y)) ∧ Below W.heap.size W w') := fun W hb => HL.out x (List.mem_of_getElem? hx) y _ _ _ _ _ _ W (hin1.up hb) (hin2.up hb)
        have HD : Hid (sameSs l m = (sameS x y && sameSs (l.drop (k + 1)) (m.drop (k + 1)))) := HEQ.out.trans (sameSs_drop hx hy)
        obtain ⟨bb, hbb⟩ : ∃ bb, sameS x y = bb := ⟨_, rfl⟩
        rw [hbb] at HOK HD
        obtain ⟨op1, text1, ps1, pm1, bd1, num1⟩ := x
        obtain ⟨op2, text2, ps2, pm2, bd2, num2⟩ := y
        obtain ⟨_, ⟨pa1, pc1, rfl, _⟩, ⟨na1, nc1, rfl, _⟩, ⟨ba1, bc1, rfl, _⟩⟩ := hin1
        obtain ⟨_, ⟨pa2, pc2, rfl, _⟩, ⟨na2, nc2, rfl, _⟩, ⟨ba2, bc2, rfl, _⟩⟩ := hin2
        obtain ⟨q0, q1, q2, q3, q4, q5⟩ := hce1.kept (HB.out.block g1 gl1)
        obtain ⟨r0, r1, r2, r3, r4, r5⟩ := hce2.kept (HB.out.block g2 gl2)
        have hidx : 0 ≤ (k : Int) ∧ (k : Int) < (l.length : Int) := ⟨by omega, by omega⟩
        have hgl1 : g1 < wr.heap.size := Nat.lt_of_lt_of_le gl1 HB.out.size
        have hgl2 : g2 < wr.heap.size := Nat.lt_of_lt_of_le gl2 HB.out.size
        have hal : ∀ (o : Obj) (q : Nat), (wr.alloc o).cell? ⟨g2, q, none⟩ = wr.cell? ⟨g2, q, none⟩ := fun o q => cell_kept (Below.heap_alloc _ _ _ hgl2)
        simp only [stV] at HOK
        clear A1 A2 hce1 hce2 hx hy hbb HEQ
        go_wp2_with fail
        refine (HOK.out _ ((HB.out.alloc HB.out.size _).alloc (by have := HB.out.size; simp; omega) _)).mono ?_
        rintro en w2 ⟨rfl, hb2⟩
        have HB2 : Hid (Below w.heap.size w w2) := ((HB.out.alloc HB.out.size _).alloc (by have := HB.out.size; simp; omega) _).trans (hb2.mono (by have := HB.out.size; simp; omega))
        clear hb2 q0 q1 q2 q3 q4 q5 r0 r1 r2 r3 r4 r5 HOK hal
        cases bb with
        | true =>
          go_wp2_with fail
          go_roundw
          case rel => exact ⟨k + 1, by go_num, by omega, HB2, by show _ = _; rw [HD.out, Bool.true_and]⟩
          case measure => simp [intOf]; omega
        | false =>
          go_wp2
          go_ret
          exact ⟨by rw [HD.out, Bool.false_and]; rfl, HB2.out⟩
      · obtain rfl : k = l.length := by omega
        go_wp2
        go_ret
        exact ⟨by rw [HEQ.out, sameSs_end _ _ HN.out]; rfl, HB.out⟩
  · rw [sameSs_len hn]
    have hn2 : ¬ ((l.length : Int) = (m.length : Int)) := by omega
    clear hg1 hg2 hl
    go_enter Tryz.func38, Tryz.ntmps38
    go_wp2
    go_ret
    exact ⟨rfl, Below.refl _ _⟩
end Go.Proofs.YthghjnkeofkoiaaGreatDoor

namespace Go.Proofs.YthghjnkeofkoiaaGreatDoor
open Go.RowKit TM
set_option linter.unusedVariables false
set_option linter.unusedSimpArgs false
theorem str_ne {a b : ByteArray} (h : ¬ a = b) : (a.toList == b.toList) = false := by
  rw [ByteArray.toList_eq, ByteArray.toList_eq]
  cases hq : (a.data.toList == b.data.toList) with
  | false => rfl
  | true =>
    have h1 : a.data.toList = b.data.toList := by simpa using hq
    exact absurd (by cases a; cases b; simpa using h1) h
theorem drop_eq {l m : List ByteArray} {k : Nat} {x y : ByteArray} (hx : l[k]? = some x) (hy : m[k]? = some y) : (decide (l.drop k = m.drop k)) = (decide (x = y) && decide (l.drop (k + 1) = m.drop (k + 1))) := by
  obtain ⟨h1, rfl⟩ := List.getElem?_eq_some_iff.1 hx
  obtain ⟨h2, rfl⟩ := List.getElem?_eq_some_iff.1 hy
  rw [List.drop_eq_getElem_cons h1, List.drop_eq_getElem_cons h2]
  simp only [List.cons.injEq, Bool.decide_and]
set_option maxRecDepth 100000 in
set_option maxHeartbeats 2000000 in
theorem eqStrs {l m : List ByteArray} {v v' : Value} {w : World} (h : SlAt (· < w.heap.size) v l.length (fun g o => StrAt w g o l)) (h' : SlAt (· < w.heap.size) v' m.length (fun g o => StrAt w g o m)) :
    Calls Tryz.prog 47 #[v, v'] w fun e w' => e = .returned (.bool (decide (l = m))) ∧ Below w.heap.size w w' := by
  obtain ⟨ad1, cap1, rfl, hc1, hx1, hg1⟩ := h
  obtain ⟨ad2, cap2, rfl, hc2, hx2, hg2⟩ := h'
  unfold maxLen at hx1 hx2
  by_cases hn : l.length = m.length
  · have HG1 := Lib.hid hg1
    have HG2 := Lib.hid hg2
    have HN := Lib.hid hn
    rw [← hn] at hc2 ⊢
    clear hg1 hg2 hn
    obtain ⟨R, hR⟩ : ∃ R, decide (l = m) = R := ⟨_, rfl⟩
    have HR := Lib.hid hR
    rw [hR]
    clear hR
    go_enter Tryz.func47, Tryz.ntmps47
    go_wp2_with fail
    go_loopw [13] (fun i wr => ∃ k : Nat, i = .int .i64 (k : Int) ∧ k ≤ l.length ∧ Hid (Below w.heap.size w wr) ∧ Hid (R = decide (l.drop k = m.drop k)))
      (fun i _ => l.length - (intOf i).toNat)
    case atStart => exact ⟨0, rfl, Nat.zero_le _, Below.refl _ _, HR.out.symm⟩
    case round =>
      obtain ⟨k, rfl, hk, HB, HEQ⟩ := hrel
      by_cases hlt : k < l.length
      · obtain ⟨x, hx⟩ : ∃ x, l[k]? = some x := ⟨_, List.getElem?_eq_getElem hlt⟩
        obtain ⟨y, hy⟩ : ∃ y, m[k]? = some y := ⟨_, List.getElem?_eq_getElem (by rw [← HN.out]; exact hlt)⟩
        obtain ⟨g1, o1, rfl, gl1, A1⟩ := HG1.out (by omega)
        obtain ⟨g2, o2, rfl, gl2, A2⟩ := HG2.out (by have := HN.out; omega)
        have q0 := (cell_kept (HB.out.block g1 gl1)).trans (A1.get hx)
        have r0 := (cell_kept (HB.out.block g2 gl2)).trans (A2.get hy)
        have HD : Hid (R = (decide (x = y) && decide (l.drop (k + 1) = m.drop (k + 1)))) := HEQ.out.trans (drop_eq hx hy)
        have hidx : 0 ≤ (k : Int) ∧ (k : Int) < (l.length : Int) := ⟨by omega, by omega⟩
        clear A1 A2 hx hy HEQ
        by_cases hxy : x = y
        · subst hxy
          have HD2 : Hid (R = decide (l.drop (k + 1) = m.drop (k + 1))) := by have h9 := HD.out; rw [decide_eq_true rfl, Bool.true_and] at h9; exact h9
          clear HD
          go_wp2_with fail
          go_region
          go_wp2_with fail
          go_roundw
          case rel => exact ⟨k + 1, by go_num, by omega, HB.out.drew, HD2⟩
          case measure => simp [intOf]; omega
        · obtain rfl : R = false := by rw [HD.out, decide_eq_false hxy, Bool.false_and]
          have hxy2 := str_ne hxy
          clear HD
          go_wp2_with fail
          go_region
          go_wp2
          go_ret
          exact ⟨rfl, HB.out.drew⟩
      · obtain rfl : k = l.length := by omega
        go_wp2
        go_ret
        exact ⟨by rw [HEQ.out, List.drop_length, HN.out, List.drop_length]; rfl, HB.out⟩
  · rw [decide_eq_false (fun e => hn (by rw [e]))]
    have hn2 : ¬ ((l.length : Int) = (m.length : Int)) := by omega
    clear hg1 hg2
    go_enter Tryz.func47, Tryz.ntmps47
    go_wp2
    go_ret
    exact ⟨rfl, Below.refl _ _⟩
theorem EsSl.up {w w' : World} {v : Value} {l : List TE} (h : SlAt (· < w.heap.size) v l.length (fun g o => EsAt (· < w.heap.size) w g o l)) (hb : Below w.heap.size w w') : SlAt (· < w'.heap.size) v l.length (fun g o => EsAt (· < w'.heap.size) w' g o l) :=
  h.imp (fun k hk => Nat.lt_of_lt_of_le hk hb.size) fun g o hg hA => EsAt.kept (fun k hk => ⟨Nat.lt_of_lt_of_le hk hb.size, hb.block k hk⟩) l hg hA
theorem SsSl.up {w w' : World} {v : Value} {l : List TS} (h : SlAt (· < w.heap.size) v l.length (fun g o => SsAt (· < w.heap.size) w g o l)) (hb : Below w.heap.size w w') : SlAt (· < w'.heap.size) v l.length (fun g o => SsAt (· < w'.heap.size) w' g o l) :=
  h.imp (fun k hk => Nat.lt_of_lt_of_le hk hb.size) fun g o hg hA => SsAt.kept (fun k hk => ⟨Nat.lt_of_lt_of_le hk hb.size, hb.block k hk⟩) l hg hA
theorem StSl.up {w w' : World} {v : Value} {l : List ByteArray} (h : SlAt (· < w.heap.size) v l.length (fun g o => StrAt w g o l)) (hb : Below w.heap.size w w') : SlAt (· < w'.heap.size) v l.length (fun g o => StrAt w' g o l) :=
  h.imp (fun k hk => Nat.lt_of_lt_of_le hk hb.size) fun g o hg hA => StrAt.kept (hb.block g hg) l o hA
set_option maxRecDepth 100000 in
theorem same_of {l m : List TS} (hl : ∀ p ∈ l, OkSS p) {v v' : Value} {w : World} (h : SlAt (· < w.heap.size) v l.length (fun g o => SsAt (· < w.heap.size) w g o l)) (h' : SlAt (· < w.heap.size) v' m.length (fun g o => SsAt (· < w.heap.size) w g o m)) :
    Calls Tryz.prog 19 #[v, v'] w fun e w' => e = .returned (.bool (sameSs l m)) ∧ Below w.heap.size w w' := by
  have h0 := h
  have h0' := h'
  obtain ⟨_, _, hv, _⟩ := h0
  obtain ⟨_, _, hv', _⟩ := h0'
  have HH := Lib.hid h
  have HH' := Lib.hid h'
  have HL := Lib.hid hl
  clear h h' hl
  subst hv hv'
  go_enter Tryz.func19, Tryz.ntmps19
  go_wp2_with fail
  refine (eqFuncS HL.out HH.out HH'.out).mono ?_
  rintro e w2 ⟨rfl, hb⟩
  have HB := Lib.hid hb
  clear hb
  go_wp2
  go_ret
  exact ⟨rfl, HB.out⟩
theorem two_blk {w w2 : World} {a b : Obj} (hb : Below ((w.alloc a).alloc b).heap.size ((w.alloc a).alloc b) w2) : w2.heap[w.heap.size]? = some a ∧ w2.heap[w.heap.size + 1]? = some b ∧ Below w.heap.size w w2 := by
  have h1 := heap_alloc_new w a
  have h2 := heap_alloc_new (w.alloc a) b
  have s1 : (w.alloc a).heap.size = w.heap.size + 1 := by simp
  have s2 : ((w.alloc a).alloc b).heap.size = w.heap.size + 2 := by simp
  rw [s1] at h2
  refine ⟨?_, ?_, (((Below.refl _ _).alloc (Nat.le_refl _) _).alloc (by simp) _).trans (hb.mono (by rw [s2]; omega))⟩
  · rw [hb.block _ (by rw [s2]; omega), Below.heap_alloc _ _ _ (by omega), h1]
  · rw [hb.block _ (by rw [s2]; omega), h2]
set_option maxRecDepth 100000 in
set_option maxHeartbeats 2000000 in
theorem stepE {op1 : Nat} {num1 : Int} {text1 : ByteArray} {ps1 : List TE} {pm1 : List ByteArray} {bd1 : List TS} (hps : ∀ p ∈ ps1, OkSE p) (hbd : ∀ s ∈ bd1, OkSS s) : OkSE (.mk op1 num1 text1 ps1 pm1 bd1) := by
  intro y a b c a' b' c' w h h'
  obtain ⟨op2, num2, text2, ps2, pm2, bd2⟩ := y
  have HX := Lib.hid h
  have HY := Lib.hid h'
  have HPS := Lib.hid hps
  have HBD := Lib.hid hbd
  obtain ⟨_, ⟨pa1, pc1, rfl, _⟩, ⟨na1, nc1, rfl, _⟩, ⟨ba1, bc1, rfl, _⟩⟩ := h
  obtain ⟨_, ⟨pa2, pc2, rfl, _⟩, ⟨na2, nc2, rfl, _⟩, ⟨ba2, bc2, rfl, _⟩⟩ := h'
  clear hps hbd
  simp only [exV]
  by_cases h_op : op1 = op2
  · skip
    subst h_op
    by_cases h_num : num1 = num2
    · skip
      subst h_num
      by_cases h_text : text1 = text2
      · skip
        subst h_text
        have hs : sameE (.mk op1 num1 text1 ps1 pm1 bd1) (.mk op1 num1 text1 ps2 pm2 bd2) = (sameEs ps1 ps2 && (decide (pm1 = pm2) && (sameSs bd1 bd2))) := by
          show (decide (op1 = op1) && (decide (num1 = num1) && (decide (text1 = text1) && (sameEs ps1 ps2 && (decide (pm1 = pm2) && (sameSs bd1 bd2)))))) = _
          simp
        rw [hs]
        have C0 : Hid (∀ W, Below w.heap.size w W → Calls Tryz.prog 64 #[.slice pa1 ps1.length pc1, .slice pa2 ps2.length pc2, .func (.func 65) #[] #[]] W fun e w' => e = .returned (.bool (sameEs ps1 ps2)) ∧ Below W.heap.size W w') := fun W hb => eqFuncE HPS.out (EsSl.up HX.out.2.1 hb) (EsSl.up HY.out.2.1 hb)
        have C1 : Hid (∀ W, Below w.heap.size w W → Calls Tryz.prog 47 #[.slice na1 pm1.length nc1, .slice na2 pm2.length nc2] W fun e w' => e = .returned (.bool (decide (pm1 = pm2))) ∧ Below W.heap.size W w') := fun W hb => eqStrs (StSl.up HX.out.2.2.1 hb) (StSl.up HY.out.2.2.1 hb)
        have C2 : Hid (∀ W, Below w.heap.size w W → Calls Tryz.prog 19 #[.slice ba1 bd1.length bc1, .slice ba2 bd2.length bc2] W fun e w' => e = .returned (.bool (sameSs bd1 bd2)) ∧ Below W.heap.size W w') := fun W hb => same_of HBD.out (SsSl.up HX.out.2.2.2 hb) (SsSl.up HY.out.2.2.2 hb)
        obtain ⟨e0, he0⟩ : ∃ e, sameEs ps1 ps2 = e := ⟨_, rfl⟩
        rw [he0] at C0
        obtain ⟨e1, he1⟩ : ∃ e, decide (pm1 = pm2) = e := ⟨_, rfl⟩
        rw [he1] at C1
        obtain ⟨e2, he2⟩ : ∃ e, sameSs bd1 bd2 = e := ⟨_, rfl⟩
        rw [he2] at C2
        rw [he0, he1, he2]
        clear hs HX HY he0 he1 he2
        go_enter Tryz.func65, Tryz.ntmps65
        go_wp2_with fail
        have HW0 : Hid (Below w.heap.size w ((w.alloc (.cells #[.int .i64 (op1 : Int), .int .i64 num1, .string text1, .slice pa1 ps1.length pc1, .slice na1 pm1.length nc1, .slice ba1 bd1.length bc1] 35)).alloc (.cells #[.int .i64 (op1 : Int), .int .i64 num1, .string text1, .slice pa2 ps2.length pc2, .slice na2 pm2.length nc2, .slice ba2 bd2.length bc2] 35))) := ((Below.refl _ _).alloc (Nat.le_refl _) _).alloc (by simp) _
        refine (C0.out _ HW0.out).mono ?_
        rintro e w2 ⟨rfl, hb0⟩
        have hz0 := hb0
        have HZ0 := Lib.hid hz0
        obtain ⟨b1, b2, b3⟩ := two_blk hz0
        have HB0 := Lib.hid b3
        have q0 : w2.cell? ⟨w.heap.size, 0, none⟩ = some (.int .i64 (op1 : Int)) := by simp [World.cell?, b1]
        have q1 : w2.cell? ⟨w.heap.size, 1, none⟩ = some (.int .i64 num1) := by simp [World.cell?, b1]
        have q2 : w2.cell? ⟨w.heap.size, 2, none⟩ = some (.string text1) := by simp [World.cell?, b1]
        have q3 : w2.cell? ⟨w.heap.size, 3, none⟩ = some (.slice pa1 ps1.length pc1) := by simp [World.cell?, b1]
        have q4 : w2.cell? ⟨w.heap.size, 4, none⟩ = some (.slice na1 pm1.length nc1) := by simp [World.cell?, b1]
        have q5 : w2.cell? ⟨w.heap.size, 5, none⟩ = some (.slice ba1 bd1.length bc1) := by simp [World.cell?, b1]
        have r0 : w2.cell? ⟨w.heap.size + 1, 0, none⟩ = some (.int .i64 (op1 : Int)) := by simp [World.cell?, b2]
        have r1 : w2.cell? ⟨w.heap.size + 1, 1, none⟩ = some (.int .i64 num1) := by simp [World.cell?, b2]
        have r2 : w2.cell? ⟨w.heap.size + 1, 2, none⟩ = some (.string text1) := by simp [World.cell?, b2]
        have r3 : w2.cell? ⟨w.heap.size + 1, 3, none⟩ = some (.slice pa2 ps2.length pc2) := by simp [World.cell?, b2]
        have r4 : w2.cell? ⟨w.heap.size + 1, 4, none⟩ = some (.slice na2 pm2.length nc2) := by simp [World.cell?, b2]
        have r5 : w2.cell? ⟨w.heap.size + 1, 5, none⟩ = some (.slice ba2 bd2.length bc2) := by simp [World.cell?, b2]
        clear hb0 hz0 b1 b2 b3
        cases e0 with
        | false =>
          go_wp2
          go_ret
          exact ⟨rfl, HB0.out⟩
        | true =>
          go_wp2_with fail
          clear q0 q1 q2 q3 q4 q5 r0 r1 r2 r3 r4 r5
          refine (C1.out _ HB0.out).mono ?_
          rintro e w3 ⟨rfl, hb1⟩
          have hz1 : Below ((w.alloc (.cells #[.int .i64 (op1 : Int), .int .i64 num1, .string text1, .slice pa1 ps1.length pc1, .slice na1 pm1.length nc1, .slice ba1 bd1.length bc1] 35)).alloc (.cells #[.int .i64 (op1 : Int), .int .i64 num1, .string text1, .slice pa2 ps2.length pc2, .slice na2 pm2.length nc2, .slice ba2 bd2.length bc2] 35)).heap.size ((w.alloc (.cells #[.int .i64 (op1 : Int), .int .i64 num1, .string text1, .slice pa1 ps1.length pc1, .slice na1 pm1.length nc1, .slice ba1 bd1.length bc1] 35)).alloc (.cells #[.int .i64 (op1 : Int), .int .i64 num1, .string text1, .slice pa2 ps2.length pc2, .slice na2 pm2.length nc2, .slice ba2 bd2.length bc2] 35)) w3 := HZ0.out.trans (hb1.mono HZ0.out.size)
          have HZ1 := Lib.hid hz1
          obtain ⟨b1, b2, b3⟩ := two_blk hz1
          have HB1 := Lib.hid b3
          have q0 : w3.cell? ⟨w.heap.size, 0, none⟩ = some (.int .i64 (op1 : Int)) := by simp [World.cell?, b1]
          have q1 : w3.cell? ⟨w.heap.size, 1, none⟩ = some (.int .i64 num1) := by simp [World.cell?, b1]
          have q2 : w3.cell? ⟨w.heap.size, 2, none⟩ = some (.string text1) := by simp [World.cell?, b1]
          have q3 : w3.cell? ⟨w.heap.size, 3, none⟩ = some (.slice pa1 ps1.length pc1) := by simp [World.cell?, b1]
          have q4 : w3.cell? ⟨w.heap.size, 4, none⟩ = some (.slice na1 pm1.length nc1) := by simp [World.cell?, b1]
          have q5 : w3.cell? ⟨w.heap.size, 5, none⟩ = some (.slice ba1 bd1.length bc1) := by simp [World.cell?, b1]
          have r0 : w3.cell? ⟨w.heap.size + 1, 0, none⟩ = some (.int .i64 (op1 : Int)) := by simp [World.cell?, b2]
          have r1 : w3.cell? ⟨w.heap.size + 1, 1, none⟩ = some (.int .i64 num1) := by simp [World.cell?, b2]
          have r2 : w3.cell? ⟨w.heap.size + 1, 2, none⟩ = some (.string text1) := by simp [World.cell?, b2]
          have r3 : w3.cell? ⟨w.heap.size + 1, 3, none⟩ = some (.slice pa2 ps2.length pc2) := by simp [World.cell?, b2]
          have r4 : w3.cell? ⟨w.heap.size + 1, 4, none⟩ = some (.slice na2 pm2.length nc2) := by simp [World.cell?, b2]
          have r5 : w3.cell? ⟨w.heap.size + 1, 5, none⟩ = some (.slice ba2 bd2.length bc2) := by simp [World.cell?, b2]
          clear hb1 hz1 b1 b2 b3
          cases e1 with
          | false =>
            go_wp2
            go_ret
            exact ⟨rfl, HB1.out⟩
          | true =>
            go_wp2_with fail
            clear q0 q1 q2 q3 q4 q5 r0 r1 r2 r3 r4 r5
            refine (C2.out _ HB1.out).mono ?_
            rintro e w4 ⟨rfl, hb2⟩
            have hz2 : Below ((w.alloc (.cells #[.int .i64 (op1 : Int), .int .i64 num1, .string text1, .slice pa1 ps1.length pc1, .slice na1 pm1.length nc1, .slice ba1 bd1.length bc1] 35)).alloc (.cells #[.int .i64 (op1 : Int), .int .i64 num1, .string text1, .slice pa2 ps2.length pc2, .slice na2 pm2.length nc2, .slice ba2 bd2.length bc2] 35)).heap.size ((w.alloc (.cells #[.int .i64 (op1 : Int), .int .i64 num1, .string text1, .slice pa1 ps1.length pc1, .slice na1 pm1.length nc1, .slice ba1 bd1.length bc1] 35)).alloc (.cells #[.int .i64 (op1 : Int), .int .i64 num1, .string text1, .slice pa2 ps2.length pc2, .slice na2 pm2.length nc2, .slice ba2 bd2.length bc2] 35)) w4 := HZ1.out.trans (hb2.mono HZ1.out.size)
            have HZ2 := Lib.hid hz2
            obtain ⟨b1, b2, b3⟩ := two_blk hz2
            have HB2 := Lib.hid b3
            have q0 : w4.cell? ⟨w.heap.size, 0, none⟩ = some (.int .i64 (op1 : Int)) := by simp [World.cell?, b1]
            have q1 : w4.cell? ⟨w.heap.size, 1, none⟩ = some (.int .i64 num1) := by simp [World.cell?, b1]
            have q2 : w4.cell? ⟨w.heap.size, 2, none⟩ = some (.string text1) := by simp [World.cell?, b1]
            have q3 : w4.cell? ⟨w.heap.size, 3, none⟩ = some (.slice pa1 ps1.length pc1) := by simp [World.cell?, b1]
            have q4 : w4.cell? ⟨w.heap.size, 4, none⟩ = some (.slice na1 pm1.length nc1) := by simp [World.cell?, b1]
            have q5 : w4.cell? ⟨w.heap.size, 5, none⟩ = some (.slice ba1 bd1.length bc1) := by simp [World.cell?, b1]
            have r0 : w4.cell? ⟨w.heap.size + 1, 0, none⟩ = some (.int .i64 (op1 : Int)) := by simp [World.cell?, b2]
            have r1 : w4.cell? ⟨w.heap.size + 1, 1, none⟩ = some (.int .i64 num1) := by simp [World.cell?, b2]
            have r2 : w4.cell? ⟨w.heap.size + 1, 2, none⟩ = some (.string text1) := by simp [World.cell?, b2]
            have r3 : w4.cell? ⟨w.heap.size + 1, 3, none⟩ = some (.slice pa2 ps2.length pc2) := by simp [World.cell?, b2]
            have r4 : w4.cell? ⟨w.heap.size + 1, 4, none⟩ = some (.slice na2 pm2.length nc2) := by simp [World.cell?, b2]
            have r5 : w4.cell? ⟨w.heap.size + 1, 5, none⟩ = some (.slice ba2 bd2.length bc2) := by simp [World.cell?, b2]
            clear hb2 hz2 b1 b2 b3
            cases e2 with
            | false =>
              go_wp2
              go_ret
              exact ⟨rfl, HB2.out⟩
            | true =>
              go_wp2
              go_ret
              exact ⟨rfl, HB2.out⟩
      · have hs : sameE (.mk op1 num1 text1 ps1 pm1 bd1) (.mk op1 num1 text2 ps2 pm2 bd2) = false := by
          show (decide (op1 = op1) && (decide (num1 = num1) && (decide (text1 = text2) && (_)))) = false
          rw [decide_eq_false h_text]
          simp
        rw [hs]
        have n1 := str_ne h_text
        go_enter Tryz.func65, Tryz.ntmps65
        go_wp2
        go_ret
        exact ⟨rfl, ((Below.refl _ _).alloc (Nat.le_refl _) _).alloc (by simp) _⟩
    · have hs : sameE (.mk op1 num1 text1 ps1 pm1 bd1) (.mk op1 num2 text2 ps2 pm2 bd2) = false := by
        show (decide (op1 = op1) && (decide (num1 = num2) && (_))) = false
        rw [decide_eq_false h_num]
        simp
      rw [hs]
      go_enter Tryz.func65, Tryz.ntmps65
      go_wp2
      go_ret
      exact ⟨rfl, ((Below.refl _ _).alloc (Nat.le_refl _) _).alloc (by simp) _⟩
  · have hs : sameE (.mk op1 num1 text1 ps1 pm1 bd1) (.mk op2 num2 text2 ps2 pm2 bd2) = false := by
      show (decide (op1 = op2) && (_)) = false
      rw [decide_eq_false h_op]
      simp
    rw [hs]
    have n1 : ¬ ((op1 : Int) = (op2 : Int)) := by omega
    go_enter Tryz.func65, Tryz.ntmps65
    go_wp2
    go_ret
    exact ⟨rfl, ((Below.refl _ _).alloc (Nat.le_refl _) _).alloc (by simp) _⟩
set_option maxRecDepth 100000 in
set_option maxHeartbeats 2000000 in
theorem stepS {op1 : Nat} {num1 : Int} {text1 : ByteArray} {ps1 : List TE} {pm1 : List TS} {bd1 : List TS} (hps : ∀ p ∈ ps1, OkSE p) (hpm : ∀ s ∈ pm1, OkSS s) (hbd : ∀ s ∈ bd1, OkSS s) : OkSS (.mk op1 text1 ps1 pm1 bd1 num1) := by
  intro y a b c a' b' c' w h h'
  obtain ⟨op2, text2, ps2, pm2, bd2, num2⟩ := y
  have HX := Lib.hid h
  have HY := Lib.hid h'
  have HPS := Lib.hid hps
  have HPM := Lib.hid hpm
  have HBD := Lib.hid hbd
  obtain ⟨_, ⟨pa1, pc1, rfl, _⟩, ⟨na1, nc1, rfl, _⟩, ⟨ba1, bc1, rfl, _⟩⟩ := h
  obtain ⟨_, ⟨pa2, pc2, rfl, _⟩, ⟨na2, nc2, rfl, _⟩, ⟨ba2, bc2, rfl, _⟩⟩ := h'
  clear hps hbd hpm
  simp only [stV]
  by_cases h_op : op1 = op2
  · skip
    subst h_op
    by_cases h_text : text1 = text2
    · skip
      subst h_text
      have hs : sameS (.mk op1 text1 ps1 pm1 bd1 num1) (.mk op1 text1 ps2 pm2 bd2 num2) = (sameEs ps1 ps2 && (sameSs pm1 pm2 && (sameSs bd1 bd2))) := by
        show (decide (op1 = op1) && (decide (text1 = text1) && (sameEs ps1 ps2 && (sameSs pm1 pm2 && (sameSs bd1 bd2))))) = _
        simp
      rw [hs]
      have C0 : Hid (∀ W, Below w.heap.size w W → Calls Tryz.prog 64 #[.slice pa1 ps1.length pc1, .slice pa2 ps2.length pc2, .func (.func 65) #[] #[]] W fun e w' => e = .returned (.bool (sameEs ps1 ps2)) ∧ Below W.heap.size W w') := fun W hb => eqFuncE HPS.out (EsSl.up HX.out.2.1 hb) (EsSl.up HY.out.2.1 hb)
      have C1 : Hid (∀ W, Below w.heap.size w W → Calls Tryz.prog 19 #[.slice na1 pm1.length nc1, .slice na2 pm2.length nc2] W fun e w' => e = .returned (.bool (sameSs pm1 pm2)) ∧ Below W.heap.size W w') := fun W hb => same_of HPM.out (SsSl.up HX.out.2.2.1 hb) (SsSl.up HY.out.2.2.1 hb)
      have C2 : Hid (∀ W, Below w.heap.size w W → Calls Tryz.prog 19 #[.slice ba1 bd1.length bc1, .slice ba2 bd2.length bc2] W fun e w' => e = .returned (.bool (sameSs bd1 bd2)) ∧ Below W.heap.size W w') := fun W hb => same_of HBD.out (SsSl.up HX.out.2.2.2 hb) (SsSl.up HY.out.2.2.2 hb)
      obtain ⟨e0, he0⟩ : ∃ e, sameEs ps1 ps2 = e := ⟨_, rfl⟩
      rw [he0] at C0
      obtain ⟨e1, he1⟩ : ∃ e, sameSs pm1 pm2 = e := ⟨_, rfl⟩
      rw [he1] at C1
      obtain ⟨e2, he2⟩ : ∃ e, sameSs bd1 bd2 = e := ⟨_, rfl⟩
      rw [he2] at C2
      rw [he0, he1, he2]
      clear hs HX HY he0 he1 he2
      go_enter Tryz.func39, Tryz.ntmps39
      go_wp2_with fail
      have HW0 : Hid (Below w.heap.size w ((w.alloc (.cells #[.int .i64 (op1 : Int), .string text1, .slice pa1 ps1.length pc1, .slice na1 pm1.length nc1, .slice ba1 bd1.length bc1, .int .i64 num1] 30)).alloc (.cells #[.int .i64 (op1 : Int), .string text1, .slice pa2 ps2.length pc2, .slice na2 pm2.length nc2, .slice ba2 bd2.length bc2, .int .i64 num2] 30))) := ((Below.refl _ _).alloc (Nat.le_refl _) _).alloc (by simp) _
      refine (C0.out _ HW0.out).mono ?_
      rintro e w2 ⟨rfl, hb0⟩
      have hz0 := hb0
      have HZ0 := Lib.hid hz0
      obtain ⟨b1, b2, b3⟩ := two_blk hz0
      have HB0 := Lib.hid b3
      have q0 : w2.cell? ⟨w.heap.size, 0, none⟩ = some (.int .i64 (op1 : Int)) := by simp [World.cell?, b1]
      have q1 : w2.cell? ⟨w.heap.size, 1, none⟩ = some (.string text1) := by simp [World.cell?, b1]
      have q2 : w2.cell? ⟨w.heap.size, 2, none⟩ = some (.slice pa1 ps1.length pc1) := by simp [World.cell?, b1]
      have q3 : w2.cell? ⟨w.heap.size, 3, none⟩ = some (.slice na1 pm1.length nc1) := by simp [World.cell?, b1]
      have q4 : w2.cell? ⟨w.heap.size, 4, none⟩ = some (.slice ba1 bd1.length bc1) := by simp [World.cell?, b1]
      have q5 : w2.cell? ⟨w.heap.size, 5, none⟩ = some (.int .i64 num1) := by simp [World.cell?, b1]
      have r0 : w2.cell? ⟨w.heap.size + 1, 0, none⟩ = some (.int .i64 (op1 : Int)) := by simp [World.cell?, b2]
      have r1 : w2.cell? ⟨w.heap.size + 1, 1, none⟩ = some (.string text1) := by simp [World.cell?, b2]
      have r2 : w2.cell? ⟨w.heap.size + 1, 2, none⟩ = some (.slice pa2 ps2.length pc2) := by simp [World.cell?, b2]
      have r3 : w2.cell? ⟨w.heap.size + 1, 3, none⟩ = some (.slice na2 pm2.length nc2) := by simp [World.cell?, b2]
      have r4 : w2.cell? ⟨w.heap.size + 1, 4, none⟩ = some (.slice ba2 bd2.length bc2) := by simp [World.cell?, b2]
      have r5 : w2.cell? ⟨w.heap.size + 1, 5, none⟩ = some (.int .i64 num2) := by simp [World.cell?, b2]
      clear hb0 hz0 b1 b2 b3
      cases e0 with
      | false =>
        go_wp2
        go_ret
        exact ⟨rfl, HB0.out⟩
      | true =>
        go_wp2_with fail
        clear q0 q1 q2 q3 q4 q5 r0 r1 r2 r3 r4 r5
        refine (C1.out _ HB0.out).mono ?_
        rintro e w3 ⟨rfl, hb1⟩
        have hz1 : Below ((w.alloc (.cells #[.int .i64 (op1 : Int), .string text1, .slice pa1 ps1.length pc1, .slice na1 pm1.length nc1, .slice ba1 bd1.length bc1, .int .i64 num1] 30)).alloc (.cells #[.int .i64 (op1 : Int), .string text1, .slice pa2 ps2.length pc2, .slice na2 pm2.length nc2, .slice ba2 bd2.length bc2, .int .i64 num2] 30)).heap.size ((w.alloc (.cells #[.int .i64 (op1 : Int), .string text1, .slice pa1 ps1.length pc1, .slice na1 pm1.length nc1, .slice ba1 bd1.length bc1, .int .i64 num1] 30)).alloc (.cells #[.int .i64 (op1 : Int), .string text1, .slice pa2 ps2.length pc2, .slice na2 pm2.length nc2, .slice ba2 bd2.length bc2, .int .i64 num2] 30)) w3 := HZ0.out.trans (hb1.mono HZ0.out.size)
        have HZ1 := Lib.hid hz1
        obtain ⟨b1, b2, b3⟩ := two_blk hz1
        have HB1 := Lib.hid b3
        have q0 : w3.cell? ⟨w.heap.size, 0, none⟩ = some (.int .i64 (op1 : Int)) := by simp [World.cell?, b1]
        have q1 : w3.cell? ⟨w.heap.size, 1, none⟩ = some (.string text1) := by simp [World.cell?, b1]
        have q2 : w3.cell? ⟨w.heap.size, 2, none⟩ = some (.slice pa1 ps1.length pc1) := by simp [World.cell?, b1]
        have q3 : w3.cell? ⟨w.heap.size, 3, none⟩ = some (.slice na1 pm1.length nc1) := by simp [World.cell?, b1]
        have q4 : w3.cell? ⟨w.heap.size, 4, none⟩ = some (.slice ba1 bd1.length bc1) := by simp [World.cell?, b1]
        have q5 : w3.cell? ⟨w.heap.size, 5, none⟩ = some (.int .i64 num1) := by simp [World.cell?, b1]
        have r0 : w3.cell? ⟨w.heap.size + 1, 0, none⟩ = some (.int .i64 (op1 : Int)) := by simp [World.cell?, b2]
        have r1 : w3.cell? ⟨w.heap.size + 1, 1, none⟩ = some (.string text1) := by simp [World.cell?, b2]
        have r2 : w3.cell? ⟨w.heap.size + 1, 2, none⟩ = some (.slice pa2 ps2.length pc2) := by simp [World.cell?, b2]
        have r3 : w3.cell? ⟨w.heap.size + 1, 3, none⟩ = some (.slice na2 pm2.length nc2) := by simp [World.cell?, b2]
        have r4 : w3.cell? ⟨w.heap.size + 1, 4, none⟩ = some (.slice ba2 bd2.length bc2) := by simp [World.cell?, b2]
        have r5 : w3.cell? ⟨w.heap.size + 1, 5, none⟩ = some (.int .i64 num2) := by simp [World.cell?, b2]
        clear hb1 hz1 b1 b2 b3
        cases e1 with
        | false =>
          go_wp2
          go_ret
          exact ⟨rfl, HB1.out⟩
        | true =>
          go_wp2_with fail
          clear q0 q1 q2 q3 q4 q5 r0 r1 r2 r3 r4 r5
          refine (C2.out _ HB1.out).mono ?_
          rintro e w4 ⟨rfl, hb2⟩
          have hz2 : Below ((w.alloc (.cells #[.int .i64 (op1 : Int), .string text1, .slice pa1 ps1.length pc1, .slice na1 pm1.length nc1, .slice ba1 bd1.length bc1, .int .i64 num1] 30)).alloc (.cells #[.int .i64 (op1 : Int), .string text1, .slice pa2 ps2.length pc2, .slice na2 pm2.length nc2, .slice ba2 bd2.length bc2, .int .i64 num2] 30)).heap.size ((w.alloc (.cells #[.int .i64 (op1 : Int), .string text1, .slice pa1 ps1.length pc1, .slice na1 pm1.length nc1, .slice ba1 bd1.length bc1, .int .i64 num1] 30)).alloc (.cells #[.int .i64 (op1 : Int), .string text1, .slice pa2 ps2.length pc2, .slice na2 pm2.length nc2, .slice ba2 bd2.length bc2, .int .i64 num2] 30)) w4 := HZ1.out.trans (hb2.mono HZ1.out.size)
          have HZ2 := Lib.hid hz2
          obtain ⟨b1, b2, b3⟩ := two_blk hz2
          have HB2 := Lib.hid b3
          have q0 : w4.cell? ⟨w.heap.size, 0, none⟩ = some (.int .i64 (op1 : Int)) := by simp [World.cell?, b1]
          have q1 : w4.cell? ⟨w.heap.size, 1, none⟩ = some (.string text1) := by simp [World.cell?, b1]
          have q2 : w4.cell? ⟨w.heap.size, 2, none⟩ = some (.slice pa1 ps1.length pc1) := by simp [World.cell?, b1]
          have q3 : w4.cell? ⟨w.heap.size, 3, none⟩ = some (.slice na1 pm1.length nc1) := by simp [World.cell?, b1]
          have q4 : w4.cell? ⟨w.heap.size, 4, none⟩ = some (.slice ba1 bd1.length bc1) := by simp [World.cell?, b1]
          have q5 : w4.cell? ⟨w.heap.size, 5, none⟩ = some (.int .i64 num1) := by simp [World.cell?, b1]
          have r0 : w4.cell? ⟨w.heap.size + 1, 0, none⟩ = some (.int .i64 (op1 : Int)) := by simp [World.cell?, b2]
          have r1 : w4.cell? ⟨w.heap.size + 1, 1, none⟩ = some (.string text1) := by simp [World.cell?, b2]
          have r2 : w4.cell? ⟨w.heap.size + 1, 2, none⟩ = some (.slice pa2 ps2.length pc2) := by simp [World.cell?, b2]
          have r3 : w4.cell? ⟨w.heap.size + 1, 3, none⟩ = some (.slice na2 pm2.length nc2) := by simp [World.cell?, b2]
          have r4 : w4.cell? ⟨w.heap.size + 1, 4, none⟩ = some (.slice ba2 bd2.length bc2) := by simp [World.cell?, b2]
          have r5 : w4.cell? ⟨w.heap.size + 1, 5, none⟩ = some (.int .i64 num2) := by simp [World.cell?, b2]
          clear hb2 hz2 b1 b2 b3
          cases e2 with
          | false =>
            go_wp2
            go_ret
            exact ⟨rfl, HB2.out⟩
          | true =>
            go_wp2
            go_ret
            exact ⟨rfl, HB2.out⟩
    · have hs : sameS (.mk op1 text1 ps1 pm1 bd1 num1) (.mk op1 text2 ps2 pm2 bd2 num2) = false := by
        show (decide (op1 = op1) && (decide (text1 = text2) && (_))) = false
        rw [decide_eq_false h_text]
        simp
      rw [hs]
      have n1 := str_ne h_text
      go_enter Tryz.func39, Tryz.ntmps39
      go_wp2
      go_ret
      exact ⟨rfl, ((Below.refl _ _).alloc (Nat.le_refl _) _).alloc (by simp) _⟩
  · have hs : sameS (.mk op1 text1 ps1 pm1 bd1 num1) (.mk op2 text2 ps2 pm2 bd2 num2) = false := by
      show (decide (op1 = op2) && (_)) = false
      rw [decide_eq_false h_op]
      simp
    rw [hs]
    have n1 : ¬ ((op1 : Int) = (op2 : Int)) := by omega
    go_enter Tryz.func39, Tryz.ntmps39
    go_wp2
    go_ret
    exact ⟨rfl, ((Below.refl _ _).alloc (Nat.le_refl _) _).alloc (by simp) _⟩
mutual
theorem same_allE : ∀ (x : TE), OkSE x
  | .mk op num text ps pm bd => stepE (same_allEs ps) (same_allSs bd)
theorem same_allEs : ∀ (l : List TE), ∀ p ∈ l, OkSE p
  | [] => fun p hp => absurd hp (by simp)
  | x :: l => fun p hp => (List.mem_cons.1 hp).elim (fun e => e ▸ same_allE x) (fun h => same_allEs l p h)
theorem same_allS : ∀ (x : TS), OkSS x
  | .mk k name xs b e pos => stepS (same_allEs xs) (same_allSs b) (same_allSs e)
theorem same_allSs : ∀ (l : List TS), ∀ p ∈ l, OkSS p
  | [] => fun p hp => absurd hp (by simp)
  | x :: l => fun p hp => (List.mem_cons.1 hp).elim (fun e => e ▸ same_allS x) (fun h => same_allSs l p h)
end
theorem same_any {l m : List TS} {v v' : Value} {w : World} (h : SlAt (· < w.heap.size) v l.length (fun g o => SsAt (· < w.heap.size) w g o l)) (h' : SlAt (· < w.heap.size) v' m.length (fun g o => SsAt (· < w.heap.size) w g o m)) :
    Calls Tryz.prog 19 #[v, v'] w fun e w' => e = .returned (.bool (sameSs l m)) ∧ Below w.heap.size w w' := same_of (same_allSs l) h h'
end Go.Proofs.YthghjnkeofkoiaaGreatDoor
