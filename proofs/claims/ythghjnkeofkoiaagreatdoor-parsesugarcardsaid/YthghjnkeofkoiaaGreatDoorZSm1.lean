/-
  The program's Same: are two trees the same, but for where statements stand? slices.EqualFunc at expressions and statements, sameStmt, sameExpr.
  Conditions: as each theorem says.
-/
import Derived.Test.YthghjnkeofkoiaaGreatDoorZTrCm
import Derived.Test.YthghjnkeofkoiaaGreatDoorZMem
namespace Go.Proofs.YthghjnkeofkoiaaGreatDoor
open Go.RowKit TM
set_option linter.unusedVariables false
set_option linter.unusedSimpArgs false
mutual
def sameE : TE → TE → Bool
  | .mk op num text ps pm bd => fun y => match y with
    | .mk op' num' text' ps' pm' bd' => decide (op = op') && (decide (num = num') && (decide (text = text') && (sameEs ps ps' && (decide (pm = pm') && sameSs bd bd'))))
def sameEs : List TE → List TE → Bool
  | [] => fun m => match m with
    | [] => true
    | _ :: _ => false
  | x :: l => fun m => match m with
    | [] => false
    | y :: m => sameE x y && sameEs l m
def sameS : TS → TS → Bool
  | .mk k name xs b e _ => fun y => match y with
    | .mk k' name' xs' b' e' _ => decide (k = k') && (decide (name = name') && (sameEs xs xs' && (sameSs b b' && sameSs e e')))
def sameSs : List TS → List TS → Bool
  | [] => fun m => match m with
    | [] => true
    | _ :: _ => false
  | x :: l => fun m => match m with
    | [] => false
    | y :: m => sameS x y && sameSs l m
end
theorem sameEs_len : ∀ {l m : List TE}, l.length ≠ m.length → sameEs l m = false
  | [], [], h => absurd rfl h
  | [], _ :: _, _ => rfl
  | _ :: _, [], _ => rfl
  | x :: l, y :: m, h => by show (sameE x y && sameEs l m) = false; rw [sameEs_len (l := l) (m := m) (by simpa using h)]; simp
theorem sameSs_len : ∀ {l m : List TS}, l.length ≠ m.length → sameSs l m = false
  | [], [], h => absurd rfl h
  | [], _ :: _, _ => rfl
  | _ :: _, [], _ => rfl
  | x :: l, y :: m, h => by show (sameS x y && sameSs l m) = false; rw [sameSs_len (l := l) (m := m) (by simpa using h)]; simp
theorem sameEs_drop {l m : List TE} {k : Nat} {x y : TE} (hx : l[k]? = some x) (hy : m[k]? = some y) : sameEs (l.drop k) (m.drop k) = (sameE x y && sameEs (l.drop (k + 1)) (m.drop (k + 1))) := by
  obtain ⟨h1, rfl⟩ := List.getElem?_eq_some_iff.1 hx
  obtain ⟨h2, rfl⟩ := List.getElem?_eq_some_iff.1 hy
  rw [List.drop_eq_getElem_cons h1, List.drop_eq_getElem_cons h2]; rfl
theorem sameSs_drop {l m : List TS} {k : Nat} {x y : TS} (hx : l[k]? = some x) (hy : m[k]? = some y) : sameSs (l.drop k) (m.drop k) = (sameS x y && sameSs (l.drop (k + 1)) (m.drop (k + 1))) := by
  obtain ⟨h1, rfl⟩ := List.getElem?_eq_some_iff.1 hx
  obtain ⟨h2, rfl⟩ := List.getElem?_eq_some_iff.1 hy
  rw [List.drop_eq_getElem_cons h1, List.drop_eq_getElem_cons h2]; rfl
theorem sameEs_end (l m : List TE) (h : l.length = m.length) : sameEs (l.drop l.length) (m.drop l.length) = true := by rw [List.drop_length, h, List.drop_length]; rfl
theorem sameSs_end (l m : List TS) (h : l.length = m.length) : sameSs (l.drop l.length) (m.drop l.length) = true := by rw [List.drop_length, h, List.drop_length]; rfl
def OkSE (x : TE) : Prop := ∀ (y : TE) (a b c a' b' c' : Value) (w : World), EIn (· < w.heap.size) w x a b c → EIn (· < w.heap.size) w y a' b' c' → Calls Tryz.prog 65 #[exV x a b c, exV y a' b' c'] w fun e w' => e = .returned (.bool (sameE x y)) ∧ Below w.heap.size w w'
def OkSS (x : TS) : Prop := ∀ (y : TS) (a b c a' b' c' : Value) (w : World), SIn (· < w.heap.size) w x a b c → SIn (· < w.heap.size) w y a' b' c' → Calls Tryz.prog 39 #[stV x a b c, stV y a' b' c'] w fun e w' => e = .returned (.bool (sameS x y)) ∧ Below w.heap.size w w'
theorem TM.EIn.up {w w' : World} {x : TE} {a b c : Value} (h : EIn (· < w.heap.size) w x a b c) (hb : Below w.heap.size w w') : EIn (· < w'.heap.size) w' x a b c := EIn.kept (fun k hk => ⟨Nat.lt_of_lt_of_le hk hb.size, hb.block k hk⟩) x h
theorem TM.SIn.up {w w' : World} {x : TS} {a b c : Value} (h : SIn (· < w.heap.size) w x a b c) (hb : Below w.heap.size w w') : SIn (· < w'.heap.size) w' x a b c := SIn.kept (fun k hk => ⟨Nat.lt_of_lt_of_le hk hb.size, hb.block k hk⟩) x h
set_option maxRecDepth 100000 in
set_option maxHeartbeats 2000000 in
theorem eqFuncE {l m : List TE} (hl : ∀ p ∈ l, OkSE p) {v v' : Value} {w : World} (h : SlAt (· < w.heap.size) v l.length (fun g o => EsAt (· < w.heap.size) w g o l)) (h' : SlAt (· < w.heap.size) v' m.length (fun g o => EsAt (· < w.heap.size) w g o m)) :
    Calls Tryz.prog 64 #[v, v', .func (.func 65) #[] #[]] w fun e w' => e = .returned (.bool (sameEs l m)) ∧ Below w.heap.size w w' := by
  obtain ⟨ad1, cap1, rfl, hc1, hx1, hg1⟩ := h
  obtain ⟨ad2, cap2, rfl, hc2, hx2, hg2⟩ := h'
  unfold maxLen at hx1 hx2
  by_cases hn : l.length = m.length
  · have HL := Lib.hid hl
    have HG1 := Lib.hid hg1
    have HG2 := Lib.hid hg2
    have HN := Lib.hid hn
    rw [← hn] at hc2 ⊢
    clear hl hg1 hg2 hn
    go_enter Tryz.func64, Tryz.ntmps64
    go_wp2_with fail
    go_loopw [17] (fun i wr => ∃ k : Nat, i = .int .i64 (k : Int) ∧ k ≤ l.length ∧ Hid (Below w.heap.size w wr) ∧ Hid (sameEs l m = sameEs (l.drop k) (m.drop k)))
      (fun i _ => l.length - (intOf i).toNat)
    case atStart => exact ⟨0, rfl, Nat.zero_le _, Below.refl _ _, rfl⟩
    case round =>
      obtain ⟨k, rfl, hk, HB, HEQ⟩ := hrel
      by_cases hlt : k < l.length
      · obtain ⟨x, hx⟩ : ∃ x, l[k]? = some x := ⟨_, List.getElem?_eq_getElem hlt⟩
        obtain ⟨y, hy⟩ : ∃ y, m[k]? = some y := ⟨_, List.getElem?_eq_getElem (by rw [← HN.out]; exact hlt)⟩
        obtain ⟨g1, o1, rfl, gl1, A1⟩ := HG1.out (by omega)
        obtain ⟨g2, o2, rfl, gl2, A2⟩ := HG2.out (by have := HN.out; omega)
        obtain ⟨a1, b1, c1, hce1, hin1⟩ := A1.get hx
        obtain ⟨a2, b2, c2, hce2, hin2⟩ := A2.get hy
        have HOK : Hid (∀ W, Below w.heap.size w W → Calls Tryz.prog 65 #[exV x a1 b1 c1, exV y a2 b2 c2] W fun e w' => e = .returned (.bool (sameE x y)) ∧ Below W.heap.size W w') := fun W hb => HL.out x (List.mem_of_getElem? hx) y _ _ _ _ _ _ W (hin1.up hb) (hin2.up hb)
        have HD : Hid (sameEs l m = (sameE x y && sameEs (l.drop (k + 1)) (m.drop (k + 1)))) := HEQ.out.trans (sameEs_drop hx hy)
        obtain ⟨bb, hbb⟩ : ∃ bb, sameE x y = bb := ⟨_, rfl⟩
        rw [hbb] at HOK HD
        obtain ⟨op1, num1, text1, ps1, pm1, bd1⟩ := x
        obtain ⟨op2, num2, text2, ps2, pm2, bd2⟩ := y
        obtain ⟨_, ⟨pa1, pc1, rfl, _⟩, ⟨na1, nc1, rfl, _⟩, ⟨ba1, bc1, rfl, _⟩⟩ := hin1
        obtain ⟨_, ⟨pa2, pc2, rfl, _⟩, ⟨na2, nc2, rfl, _⟩, ⟨ba2, bc2, rfl, _⟩⟩ := hin2
        obtain ⟨q0, q1, q2, q3, q4, q5⟩ := hce1.kept (HB.out.block g1 gl1)
        obtain ⟨r0, r1, r2, r3, r4, r5⟩ := hce2.kept (HB.out.block g2 gl2)
        have hidx : 0 ≤ (k : Int) ∧ (k : Int) < (l.length : Int) := ⟨by omega, by omega⟩
        have hgl1 : g1 < wr.heap.size := Nat.lt_of_lt_of_le gl1 HB.out.size
        have hgl2 : g2 < wr.heap.size := Nat.lt_of_lt_of_le gl2 HB.out.size
        have hal : ∀ (o : Obj) (q : Nat), (wr.alloc o).cell? ⟨g2, q, none⟩ = wr.cell? ⟨g2, q, none⟩ := fun o q => cell_kept (Below.heap_alloc _ _ _ hgl2)
        simp only [exV] at HOK
        clear A1 A2 hce1 hce2 hx hy hbb HEQ
        go_wp2_with fail
        refine (HOK.out _ ((HB.out.alloc HB.out.size _).alloc (by have := HB.out.size; simp; omega) _)).mono ?_
        rintro en w2 ⟨rfl, hb2⟩
        have HB2 : Hid (Below w.heap.size w w2) := ((HB.out.alloc HB.out.size _).alloc (by have := HB.out.size; simp; omega) _).trans (hb2.mono (by have := HB.out.size; simp; omega))
        clear hb2 q0 q1 q2 q3 q4 q5 r0 r1 r2 r3 r4 r5 HOK hal
        cases bb with
        | true =>
          go_wp2_with fail
          go_roundw
          case rel => exact ⟨k + 1, by go_num, by omega, HB2, by show _ = _; rw [HD.out, Bool.true_and]⟩
          case measure => simp [intOf]; omega
        | false =>
          go_wp2
          go_ret
          exact ⟨by rw [HD.out, Bool.false_and]; rfl, HB2.out⟩
      · obtain rfl : k = l.length := by omega
        go_wp2
        go_ret
        exact ⟨by rw [HEQ.out, sameEs_end _ _ HN.out]; rfl, HB.out⟩
  · rw [sameEs_len hn]
    have hn2 : ¬ ((l.length : Int) = (m.length : Int)) := by omega
    clear hg1 hg2 hl
    go_enter Tryz.func64, Tryz.ntmps64
    go_wp2
    go_ret
    exact ⟨rfl, Below.refl _ _⟩
set_option maxRecDepth 100000 in
set_option maxHeartbeats 2000000 in
theorem eqFuncS {l m : List TS} (hl : ∀ p ∈ l, OkSS p) {v v' : Value} {w : World} (h : SlAt (· < w.heap.size) v l.length (fun g o => SsAt (· < w.heap.size) w g o l)) (h' : SlAt (· < w.heap.size) v' m.length (fun g o => SsAt (· < w.heap.size) w g o m)) :
    Calls Tryz.prog 38 #[v, v', .func (.func 39) #[] #[]] w fun e w' => e = .returned (.bool (sameSs l m)) ∧ Below w.heap.size w w' := by
  obtain ⟨ad1, cap1, rfl, hc1, hx1, hg1⟩ := h
  obtain ⟨ad2, cap2, rfl, hc2, hx2, hg2⟩ := h'
  unfold maxLen at hx1 hx2
  by_cases hn : l.length = m.length
  · have HL := Lib.hid hl
    have HG1 := Lib.hid hg1
    have HG2 := Lib.hid hg2
    have HN := Lib.hid hn
    rw [← hn] at hc2 ⊢
    clear hl hg1 hg2 hn
    go_enter Tryz.func38, Tryz.ntmps38
    go_wp2_with fail
    go_loopw [17] (fun i wr => ∃ k : Nat, i = .int .i64 (k : Int) ∧ k ≤ l.length ∧ Hid (Below w.heap.size w wr) ∧ Hid (sameSs l m = sameSs (l.drop k) (m.drop k)))
      (fun i _ => l.length - (intOf i).toNat)
    case atStart => exact ⟨0, rfl, Nat.zero_le _, Below.refl _ _, rfl⟩
    case round =>
      obtain ⟨k, rfl, hk, HB, HEQ⟩ := hrel
      by_cases hlt : k < l.length
      · obtain ⟨x, hx⟩ : ∃ x, l[k]? = some x := ⟨_, List.getElem?_eq_getElem hlt⟩
        obtain ⟨y, hy⟩ : ∃ y, m[k]? = some y := ⟨_, List.getElem?_eq_getElem (by rw [← HN.out]; exact hlt)⟩
        obtain ⟨g1, o1, rfl, gl1, A1⟩ := HG1.out (by omega)
        obtain ⟨g2, o2, rfl, gl2, A2⟩ := HG2.out (by have := HN.out; omega)
        obtain ⟨a1, b1, c1, hce1, hin1⟩ := A1.get hx
        obtain ⟨a2, b2, c2, hce2, hin2⟩ := A2.get hy
        have HOK : Hid (∀ W, Below w.heap.size w W → Calls Tryz.prog 39 #[stV x a1 b1 c1, stV y a2 b2 c2] W fun e w' => e = .returned (.bool (sameS x y)) ∧ Below W.heap.size W w') := fun W hb => HL.out x (List.mem_of_getElem? hx) y _ _ _ _ _ _ W (hin1.up hb) (hin2.up hb)
        have HD : Hid (sameSs l m = (sameS x y && sameSs (l.drop (k + 1)) (m.drop (k + 1)))) := HEQ.out.trans (sameSs_drop hx hy)
        obtain ⟨bb, hbb⟩ : ∃ bb, sameS x y = bb := ⟨_, rfl⟩
        rw [hbb] at HOK HD
        obtain ⟨op1, text1, ps1, pm1, bd1, num1⟩ := x
        obtain ⟨op2, text2, ps2, pm2, bd2, num2⟩ := y
        obtain ⟨_, ⟨pa1, pc1, rfl, _⟩, ⟨na1, nc1, rfl, _⟩, ⟨ba1, bc1, rfl, _⟩⟩ := hin1
        obtain ⟨_, ⟨pa2, pc2, rfl, _⟩, ⟨na2, nc2, rfl, _⟩, ⟨ba2, bc2, rfl, _⟩⟩ := hin2
        obtain ⟨q0, q1, q2, q3, q4, q5⟩ := hce1.kept (HB.out.block g1 gl1)
        obtain ⟨r0, r1, r2, r3, r4, r5⟩ := hce2.kept (HB.out.block g2 gl2)
        have hidx : 0 ≤ (k : Int) ∧ (k : Int) < (l.length : Int) := ⟨by omega, by omega⟩
        have hgl1 : g1 < wr.heap.size := Nat.lt_of_lt_of_le gl1 HB.out.size
        have hgl2 : g2 < wr.heap.size := Nat.lt_of_lt_of_le gl2 HB.out.size
        have hal : ∀ (o : Obj) (q : Nat), (wr.alloc o).cell? ⟨g2, q, none⟩ = wr.cell? ⟨g2, q, none⟩ := fun o q => cell_kept (Below.heap_alloc _ _ _ hgl2)
        simp only [stV] at HOK
        clear A1 A2 hce1 hce2 hx hy hbb HEQ
        go_wp2_with fail
        refine (HOK.out _ ((HB.out.alloc HB.out.size _).alloc (by have := HB.out.size; simp; omega) _)).mono ?_
        rintro en w2 ⟨rfl, hb2⟩
        have HB2 : Hid (Below w.heap.size w w2) := ((HB.out.alloc HB.out.size _).alloc (by have := HB.out.size; simp; omega) _).trans (hb2.mono (by have := HB.out.size; simp; omega))
        clear hb2 q0 q1 q2 q3 q4 q5 r0 r1 r2 r3 r4 r5 HOK hal
        cases bb with
        | true =>
          go_wp2_with fail
          go_roundw
          case rel => exact ⟨k + 1, by go_num, by omega, HB2, by show _ = _; rw [HD.out, Bool.true_and]⟩
          case measure => simp [intOf]; omega
        | false =>
          go_wp2
          go_ret
          exact ⟨by rw [HD.out, Bool.false_and]; rfl, HB2.out⟩
      · obtain rfl : k = l.length := by omega
        go_wp2
        go_ret
        exact ⟨by rw [HEQ.out, sameSs_end _ _ HN.out]; rfl, HB.out⟩
  · rw [sameSs_len hn]
    have hn2 : ¬ ((l.length : Int) = (m.length : Int)) := by omega
    clear hg1 hg2 hl
    go_enter Tryz.func38, Tryz.ntmps38
    go_wp2
    go_ret
    exact ⟨rfl, Below.refl _ _⟩
end Go.Proofs.YthghjnkeofkoiaaGreatDoor
