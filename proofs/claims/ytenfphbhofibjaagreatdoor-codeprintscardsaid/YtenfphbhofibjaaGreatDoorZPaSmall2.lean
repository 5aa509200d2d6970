/-
 The program's parser: its calls name and op.
 Conditions: as each theorem says.
-/
import Derived.Test.YtenfphbhofibjaaGreatDoorZPbB
set_option maxRecDepth 100000
set_option maxHeartbeats 2000000
set_option linter.unusedVariables false
namespace Go.Proofs.YtenfphbhofibjaaGreatDoor
open Go.RowKit LM TM PM
theorem fld1 (k : Int) (t : ByteArray) (n p : Int) (w : World) : (Instr.field 118 (.agg #[.int .i64 k, .string t, .int .i64 n, .int .i64 p]) 1).run Tryz.prog w = .ok (.string t) w := by kernel_rfl
theorem fld2 (k : Int) (t : ByteArray) (n p : Int) (w : World) : (Instr.field 118 (.agg #[.int .i64 k, .string t, .int .i64 n, .int .i64 p]) 2).run Tryz.prog w = .ok (.int .i64 n) w := by kernel_rfl
theorem name_p {w : World} {pb : Nat} {ts : List Tok} {d : Nat} (h : PAt w pb ts d) (hG : GoodT ts) : Calls Tryz.prog 173 #[.pointer (some ⟨pb, 0, none⟩)] w fun en w' => Ret (pName ts) w pb d VN en w' := by
 have HP := Lib.hid h
 have HGD := Lib.hid hG
 have hpl := h.lt
 obtain ⟨t, l, g, o, cap, rfl, c0, c1, q0, q1, q2, q3, h1, h2, f0, hg⟩ := h.open hG
 unfold maxLen at h2
 clear h hG
 by_cases hk : t.kind = 1
 ·have hk1 : ((t.kind : Int) == 1) = true := by simp [hk]
  have hkn : ((t.kind : Int) != 1) = false := by simp [hk]
  cases hr : reserved t.text with
  | true =>
   have hp : pName (t :: l) = pFail 1 (t :: l) := by simp [pName, nameB, hd0, hr]
   rw [hp]
   have HR := Lib.hid hr
   clear hp hr
   go_enter Tryz.func173, Tryz.ntmps173
   go_wp2_with fail
   refine (reserved_any t.text _).mono ?_
   rintro en w1 ⟨rfl, rfl⟩
   rw [HR.out]
   go_wp2_with fail
   refine (fail_any HP.out HGD.out 1).mono ?_
   rintro en w2 ⟨rfl, rfl⟩
   exact ⟨rfl, rfl, Below.refl _ _⟩
  | false =>
   have hp : pName (t :: l) = .ok ⟨t.text.toArray⟩ l := by simp [pName, nameB, hd0, hr, hk]
   rw [hp]
   have HR := Lib.hid hr
   clear hp hr
   go_enter Tryz.func173, Tryz.ntmps173
   go_wp2_with fail
   refine (reserved_any t.text _).mono ?_
   rintro en w1 ⟨rfl, rfl⟩
   rw [HR.out]
   go_wp2_with fail
   refine (take_any HP.out HGD.out (by simp [hd0, hk])).mono ?_
   rintro en w2 ⟨rfl, h3, h4⟩
   have H3 := Lib.hid h3
   have H4 := Lib.hid h4
   clear h3 h4
   unfold ptokV
   simp only [hd0, List.headD_cons]
   have hfl := fld1
   go_wp2_with fail
   go_ret
   exact ⟨rfl, H3.out, H4.out⟩
 ·have hp : pName (t :: l) = pFail 1 (t :: l) := by simp [pName, nameB, hd0, hk]
  rw [hp]
  clear hp
  have hkn : ((t.kind : Int) != 1) = true := by simp; omega
  have hkz : ¬ ((t.kind : Int) = 1) := by omega
  go_enter Tryz.func173, Tryz.ntmps173
  go_wp2_with fail
  refine (fail_any HP.out HGD.out 1).mono ?_
  rintro en w2 ⟨rfl, rfl⟩
  exact ⟨rfl, rfl, Below.refl _ _⟩
theorem zop (w : World) : (zeroValue 32).run Tryz.prog w = .ok (.int .i64 0) w := by kernel_rfl
theorem check_str (em : Bool) (s : ByteArray) (w : World) : (Instr.checkKey em 10000 9 (.string s)).run Tryz.prog w = .ok () w := by
 rw [show (10000 : Nat) = 9999 + 1 from rfl, Instr.checkKey]
 simp [run_underlying Tryz.underlying9]
theorem find_str (x : Bs) (es : List MapEntry) (w : World) (r : Option (Nat × Value)) (h : Instr.findNow .string (.string ⟨x.toArray⟩) es 0 = some r) : (Instr.findKey 9 (.string ⟨x.toArray⟩) es).run Tryz.prog w = .ok r w := by
 simp [Instr.findKey, run_underlying Tryz.underlying9, h]
theorem now_cons (x k : Bs) (e : MapEntry) (es : List MapEntry) (i : Nat) (h : e.key = .string ⟨k.toArray⟩) : Instr.findNow .string (.string ⟨x.toArray⟩) (e :: es) i = if x = k then some (some (i, e.val)) else Instr.findNow .string (.string ⟨x.toArray⟩) es (i + 1) := by
 rw [Instr.findNow, h]
 have hb : ((⟨x.toArray⟩ : ByteArray) == ⟨k.toArray⟩) = (x == k) := by
  show (x.toArray == k.toArray) = _
  simp
 have e1 : Instr.sameNow .string (.string ⟨x.toArray⟩) (.string ⟨k.toArray⟩) = some (x == k) := by rw [← hb]; rfl
 rw [e1]
 by_cases hx : x = k
 ·subst hx; simp
 ·have e2 : (x == k) = false := by simp [hx]
  rw [e2, if_neg hx]
theorem map1 {es : List MapEntry} {p : Value × Value} {l : List (Value × Value)} (h : (es.map fun e => (e.key, e.val)) = p :: l) : ∃ e es', es = e :: es' ∧ e.key = p.1 ∧ e.val = p.2 ∧ (es'.map fun e => (e.key, e.val)) = l := by
 cases es with
 | nil => simp at h
 | cons e es' =>
  simp at h
  exact ⟨e, es', rfl, by rw [← h.1], by rw [← h.1], h.2⟩
theorem map0 {es : List MapEntry} (h : (es.map fun e => (e.key, e.val)) = []) : es = [] := by simpa using h
theorem now_signs {es : List MapEntry} {i : Nat} (hi : i < 4) (he : (es.map fun e => (e.key, e.val)) = entriesAt (signEs i)) (x : Bs) : ∃ q, Instr.findNow .string (.string ⟨x.toArray⟩) es 0 = some q ∧ (q = none ∧ opOf i x = none ∨ ∃ j n, q = some (j, .int .i64 ((n : Nat) : Int)) ∧ opOf i x = some n) := by
 rcases (show i = 0 ∨ i = 1 ∨ i = 2 ∨ i = 3 from by omega) with rfl | rfl | rfl | rfl
 ·obtain ⟨e1, l1, rfl, k1, v1, h1⟩ := map1 he
  obtain ⟨e2, l2, rfl, k2, v2, h2⟩ := map1 h1
  obtain ⟨e3, l3, rfl, k3, v3, h3⟩ := map1 h2
  obtain rfl := map0 h3
  rw [now_cons x _ _ _ _ k1, now_cons x _ _ _ _ k2, now_cons x _ _ _ _ k3, v1, v2, v3, Instr.findNow]
  unfold opOf
  split
  ·exact ⟨_, rfl, .inr ⟨_, 11, rfl, by simp⟩⟩
  ·split
   ·exact ⟨_, rfl, .inr ⟨_, 12, rfl, by simp_all⟩⟩
   ·split
    ·exact ⟨_, rfl, .inr ⟨_, 13, rfl, by simp_all⟩⟩
    ·exact ⟨_, rfl, .inl ⟨rfl, by simp_all⟩⟩
 ·obtain ⟨e1, l1, rfl, k1, v1, h1⟩ := map1 he
  obtain ⟨e2, l2, rfl, k2, v2, h2⟩ := map1 h1
  obtain rfl := map0 h2
  rw [now_cons x _ _ _ _ k1, now_cons x _ _ _ _ k2, v1, v2, Instr.findNow]
  unfold opOf
  split
  ·exact ⟨_, rfl, .inr ⟨_, 8, rfl, by simp_all⟩⟩
  ·split
   ·exact ⟨_, rfl, .inr ⟨_, 9, rfl, by simp_all⟩⟩
   ·exact ⟨_, rfl, .inl ⟨rfl, by simp_all⟩⟩
 ·obtain ⟨e1, l1, rfl, k1, v1, h1⟩ := map1 he
  obtain rfl := map0 h1
  rw [now_cons x _ _ _ _ k1, v1, Instr.findNow]
  unfold opOf
  split
  ·exact ⟨_, rfl, .inr ⟨_, 10, rfl, by simp_all⟩⟩
  ·exact ⟨_, rfl, .inl ⟨rfl, by simp_all⟩⟩
 ·obtain ⟨e1, l1, rfl, k1, v1, h1⟩ := map1 he
  obtain ⟨e2, l2, rfl, k2, v2, h2⟩ := map1 h1
  obtain rfl := map0 h2
  rw [now_cons x _ _ _ _ k1, now_cons x _ _ _ _ k2, v1, v2, Instr.findNow]
  unfold opOf
  split
  ·exact ⟨_, rfl, .inr ⟨_, 6, rfl, by simp_all⟩⟩
  ·split
   ·exact ⟨_, rfl, .inr ⟨_, 7, rfl, by simp_all⟩⟩
   ·exact ⟨_, rfl, .inl ⟨rfl, by simp_all⟩⟩
theorem sign_look {w : World} {b i : Nat} (hi : i < 4) (h : SignMap w b i) (x : Bs) : (Instr.lookup 105 (.map (some b)) (.string ⟨x.toArray⟩) true).run Tryz.prog w = .ok (.tuple #[.int .i64 (((opOf i x).getD 0 : Nat) : Int), .bool (opOf i x).isSome]) w := by
 obtain ⟨es, c, hb, he⟩ := h
 have hz := zop w
 obtain ⟨q, hq, hqq⟩ := now_signs hi he x
 have hf := find_str x es.toList w q hq
 rcases hqq with ⟨rfl, ho⟩ | ⟨j, n, rfl, ho⟩
 ·rw [ho]
  simp [Instr.lookup, run_underlying Tryz.underlying105, MapKept.run_getObj_map hb, check_str, hf, hz, Result.andThen]
 ·rw [ho]
  simp [Instr.lookup, run_underlying Tryz.underlying105, MapKept.run_getObj_map hb, check_str, hf, Result.andThen]
theorem op_any {w : World} {pb : Nat} {ts : List Tok} {d : Nat} (h : PAt w pb ts d) (hG : GoodT ts) (i : Nat) (hi : i < 4) : Calls Tryz.prog 197 #[.pointer (some ⟨pb, 0, none⟩), .int .i64 (i : Int)] w fun en w' => en = .returned (.tuple #[.int .i64 (((pOp i ts).getD 0 : Nat) : Int), .bool (pOp i ts).isSome]) ∧ PAt w' pb (if (pOp i ts).isSome then ts.tail else ts) d ∧ w.grownBy w' (some pb) := by
 have HP := Lib.hid h
 have HGD := Lib.hid hG
 have hpl := h.lt
 have hmm : ∃ b, w.cell? ⟨pb, 2 + i, none⟩ = some (.map (some b)) ∧ SignMap w b i := by
  obtain ⟨g, o, cap, b0, b1, b2, b3, h⟩ := h
  have hb := h.blk
  obtain ⟨m0, m1, m2, m3⟩ := h.maps
  rcases (show i = 0 ∨ i = 1 ∨ i = 2 ∨ i = 3 from by omega) with rfl | rfl | rfl | rfl
  ·exact ⟨b0, by simp [World.cell?, hb], m0⟩
  ·exact ⟨b1, by simp [World.cell?, hb], m1⟩
  ·exact ⟨b2, by simp [World.cell?, hb], m2⟩
  ·exact ⟨b3, by simp [World.cell?, hb], m3⟩
 obtain ⟨b, cm, hsm⟩ := hmm
 obtain ⟨t, l, g, o, cap, rfl, c0, c1, q0, q1, q2, q3, h1, h2, f0, hg⟩ := h.open hG
 unfold maxLen at h2
 clear h hG
 by_cases hk : t.kind = 4
 ·have hk1 : ((t.kind : Int) != 4) = false := by simp [hk]
  have hp : pOp i (t :: l) = opOf i t.text := by simp [pOp, hd0, hk]
  have hl := sign_look hi (w := w.drew) (by obtain ⟨es, c, x1, x2⟩ := hsm; exact ⟨es, c, x1, x2⟩) t.text
  have HK : Hid ((hd0 (t :: l)).kind ≠ 0) := by show _ ≠ _; simp [hd0, hk]
  rw [hp]
  clear hp hsm
  cases ho : opOf i t.text with
  | none =>
   rw [ho] at hl
   simp only [Option.getD_none, Option.isSome_none] at hl ⊢
   clear ho
   rcases (show i = 0 ∨ i = 1 ∨ i = 2 ∨ i = 3 from by omega) with rfl | rfl | rfl | rfl
   all_goals
    go_enter Tryz.func197, Tryz.ntmps197
    go_wp2_with fail
    go_region
    go_wp2_with fail
    go_ret2
    exact ⟨rfl, HP.out.drew, gr_drew (gr_refl _ _)⟩
  | some n =>
   rw [ho] at hl
   simp only [Option.getD_some, Option.isSome_some] at hl ⊢
   clear ho
   rcases (show i = 0 ∨ i = 1 ∨ i = 2 ∨ i = 3 from by omega) with rfl | rfl | rfl | rfl
   all_goals
    go_enter Tryz.func197, Tryz.ntmps197
    go_wp2_with fail
    go_region
    go_wp2_with fail
    refine (take_any HP.out.drew HGD.out HK.out).mono ?_
    rintro en w2 ⟨rfl, h3, h4⟩
    have H3 := Lib.hid h3
    have H4 : Hid (w.grownBy w2 (some pb)) := ⟨h4.os, h4.tape, h4.output, h4.size, h4.block⟩
    clear h3 h4
    unfold ptokV
    go_wp2_with fail
    go_ret2
    exact ⟨rfl, H3.out, H4.out⟩
 ·have hk1 : ((t.kind : Int) != 4) = true := by simp; omega
  have hkz : ¬ ((t.kind : Int) = 4) := by omega
  have hp : pOp i (t :: l) = none := by simp [pOp, hd0, hk]
  rw [hp]
  simp only [Option.getD_none, Option.isSome_none]
  clear hp hsm cm
  go_enter Tryz.func197, Tryz.ntmps197
  go_wp2_with fail
  go_ret2
  exact ⟨rfl, HP.out, gr_refl _ _⟩
end Go.Proofs.YtenfphbhofibjaaGreatDoor
