/-
 TrPart, TrInt, TrReg, TrAdd0, joined.
 Conditions: as each theorem says.
-/
import Derived.Test.YtpboencfnjmmbaaGreatDoorZTrB
import Derived.Test.YtpboencfnjmmbaaGreatDoorZLs
import Derived.Test.YtpboencfnjmmbaaGreatDoorZJRgn
set_option maxRecDepth 100000
set_option maxHeartbeats 6400000
set_option linter.unusedVariables false
namespace Go.Proofs.YtpboencfnjmmbaaGreatDoor
open Go.RowKit TM
def exV : TE → Value → Value → Value → Value
 | .mk op num text _ _ _, vp, vn, vb => .agg #[.int .i64 (op : Int), .int .i64 num, .string text, vp, vn, vb]
def stV : TS → Value → Value → Value → Value
 | .mk kind name _ _ _ pos, vx, vb, ve => .agg #[.int .i64 (kind : Int), .string name, vx, vb, ve, .int .i64 pos]
structure Lg (B : Nat) (w : World) : Prop where
 tab : Lib.TabBelow Tryz.prog B w "internal/strconv.uint64pow10" .u64 Lib.pow10Tab
 lt : 0 < B
 signs : ∀ i, i < 18 → w.cell? ⟨0, i, none⟩ = some (.string ⟨(sign i).toArray⟩)
theorem Lg.on {B : Nat} {w w' : World} (h : Lg B w) (hb : Below B w w') : Lg B w' :=
 ⟨h.tab.on hb, h.lt, fun i hi => (hb.cell (p := ⟨_, i, none⟩) h.lt).trans (h.signs i hi)⟩
section
variable {B : Nat} {w w' : World}
theorem EIn.on {e : TE} {vp vn vb : Value} (h : EIn (· < B) w e vp vn vb) (hb : Below B w w') : EIn (· < B) w' e vp vn vb := EIn.kept (fun k hk => ⟨hk, hb.block k hk⟩) e h
theorem SIn.on {e : TS} {vp vn vb : Value} (h : SIn (· < B) w e vp vn vb) (hb : Below B w w') : SIn (· < B) w' e vp vn vb := SIn.kept (fun k hk => ⟨hk, hb.block k hk⟩) e h
def EsIn (B : Nat) (w : World) (v : Value) (l : List TE) : Prop := SlAt (· < B) v l.length fun g o => EsAt (· < B) w g o l
def SsIn (B : Nat) (w : World) (v : Value) (l : List TS) : Prop := SlAt (· < B) v l.length fun g o => SsAt (· < B) w g o l
theorem EsIn.on {l : List TE} {v : Value} (h : EsIn B w v l) (hb : Below B w w') : EsIn B w' v l := h.imp (fun _ h => h) fun g o hg hA => EsAt.kept (fun k hk => ⟨hk, hb.block k hk⟩) l hg hA
theorem SsIn.on {l : List TS} {v : Value} (h : SsIn B w v l) (hb : Below B w w') : SsIn B w' v l := h.imp (fun _ h => h) fun g o hg hA => SsAt.kept (fun k hk => ⟨hk, hb.block k hk⟩) l hg hA
end
theorem slNil (P : Nat → Prop) (A : Nat → Nat → Prop) : SlAt P (.slice none 0 0) 0 A := ⟨none, 0, rfl, Nat.le_refl _, by simp [maxLen], fun h => absurd h (by simp)⟩
theorem noE_in (B : Nat) (w : World) : EIn (· < B) w noE (.slice none 0 0) (.slice none 0 0) (.slice none 0 0) := ⟨⟨by decide, by decide, by decide⟩, slNil _ _, slNil _ _, slNil _ _⟩
theorem part_any {B : Nat} {w : World} {vp : Value} {l : List TE} (hS : EsIn B w vp l) (hB : B ≤ w.heap.size) (i : Nat) (hi : i ≤ 9223372036854775807) :
 ∃ a b c, EIn (· < B) w (ptE l i) a b c ∧ ∀ w1, Below B w w1 → Calls Tryz.prog 111 #[vp, .int .i64 (i : Int)] w1 fun e w' => e = .returned (exV (ptE l i) a b c) ∧ Below w1.heap.size w1 w' := by
 by_cases hlt : i < l.length
 ·obtain ⟨e, he⟩ : ∃ e, l[i]? = some e := ⟨_, List.getElem?_eq_getElem hlt⟩
  have hp : ptE l i = e := by unfold ptE; rw [List.getD_eq_getElem?_getD, he]; rfl
  obtain ⟨ad, cap, rfl, hc1, hc2, hg⟩ := hS
  obtain ⟨g, o, rfl, hgB, hA⟩ := hg (by omega)
  obtain ⟨a, b, c, hc, hin⟩ := hA.get he
  rw [hp]
  cases e with
  | mk op num text parts params body =>
   have hin2 := hin
   obtain ⟨_, ⟨pa, pc, rfl, _⟩, ⟨na, nc, rfl, _⟩, ⟨ba, bc, rfl, _⟩⟩ := hin2
   refine ⟨_, _, _, hin, fun w1 hb => ?_⟩
   have hc' := hc.kept (hb.block g hgB)
   obtain ⟨q0, q1, q2, q3, q4, q5⟩ := hc'
   have hcmp : decide ((l.length : Int) ≤ (i : Int)) = false := by simp; omega
   have hidx : 0 ≤ (i : Int) ∧ (i : Int) < (l.length : Int) := ⟨by omega, by omega⟩
   unfold maxLen at hc2
   have hgl : g < w1.heap.size := Nat.lt_of_lt_of_le hgB (Nat.le_trans hB hb.size)
   clear hc hin hA hp he
   go_enter Tryz.func111, Tryz.ntmps111
   go_wp2
   exact bodyPost_ret (v := exV (.mk op num text parts params body) (.slice pa parts.length pc) (.slice na params.length nc) (.slice ba body.length bc)) (by simp [results, Tryz.results111, go_sem, exV]) rfl ⟨rfl, (Below.refl _ _).alloc (Nat.le_refl _) _⟩
 ·have hp : ptE l i = noE := by unfold ptE; rw [List.getD_eq_getElem?_getD, List.getElem?_eq_none (by omega)]; rfl
  rw [hp]
  refine ⟨_, _, _, noE_in B w, fun w1 hb => ?_⟩
  obtain ⟨ad, cap, rfl, hc1, hc2, hg⟩ := hS
  have hcmp : decide ((l.length : Int) ≤ (i : Int)) = true := by simp; omega
  unfold maxLen at hc2
  clear hg hp
  go_enter Tryz.func111, Tryz.ntmps111
  go_wp2
  exact bodyPost_ret (v := exV noE (.slice none 0 0) (.slice none 0 0) (.slice none 0 0)) (by simp [results, Tryz.results111, go_sem, exV, noE]) rfl ⟨rfl, (Below.refl _ _).alloc (Nat.le_refl _) _⟩
end Go.Proofs.YtpboencfnjmmbaaGreatDoor
namespace Go.Proofs.YtpboencfnjmmbaaGreatDoor
open Go.Shelf Go.RowKit Go.Sort Go.Lib TM
theorem digits20 (u : Nat) (h : u < 18446744073709551616) : (Lib.decDigits u).length ≤ 20 := by
 rw [Lib.decDigits_length]
 by_cases h0 : u = 0
 ·subst h0; rw [Lib.nDigits]; decide
 ·have := Lib.numDigits_eq u (by omega) h
  split at this <;> omega
theorem digits1 (u : Nat) : 0 < (Lib.decDigits u).length := by
 rw [Lib.decDigits_length, Lib.nDigits]
 split <;> omega
theorem appU_any {B : Nat} {w : World} {v : Value} {l : Bs} (hR : Bt B w v l) (hB : B ≤ w.heap.size) (u : Nat) (hu64 : u < 18446744073709551616) (hl : l.length ≤ 1000000000)
 (htab : Lib.TabIs Tryz.prog w "internal/strconv.uint64pow10" .u64 Lib.pow10Tab) :
 Calls Tryz.prog 145 #[v, .int .u64 u, .int .i64 10] w fun e w' => ∃ v', e = .returned v' ∧ Bt B w' v' (l ++ Lib.decDigits u) ∧ Gr w w' v v' := by
 have HR : Hid (Bt B w v l) := hR
 have hd20 := digits20 u hu64
 have hd1 := digits1 u
 clear hR
 by_cases hi : u < 100
 ·go_enter Tryz.func145, Tryz.ntmps145
  go_wp2_with (first
   | (go_at_call 146; refine (Tryz.internal_strconv_small u hi _).mono ?_; rintro e w' ⟨rfl, rfl⟩)
   | (at_builtin; refine wpList_app_str rfl (.tmp 13) (.tmp 16) rfl rfl HR.out hB ⟨(Lib.decDigits u).toArray⟩ rfl (by simp [ByteArray.size]; omega) ?_))
  intro v1 w1 h1 k1
  have H1 : Hid (Bt B w1 v1 (l ++ Lib.decDigits u)) := h1
  have K1 : Hid (Gr _ w1 v v1) := k1
  clear h1 k1
  go_wp2
  go_ret
  exact ⟨v1, rfl, H1.out, K1.out⟩
 ·have hu1 : 1 ≤ u := by omega
  have hnd20 : Lib.nDigits u ≤ 20 := by have := Lib.numDigits_eq u hu1 hu64; split at this <;> omega
  have hal : Tryz.prog.arrayLen 225 = 24 := by simp [Program.arrayLen, Tryz.underlying225]
  have hsl1 : ∀ W, (Instr.sliceAt 225 (.pointer (some ⟨w.heap.size, 0, none⟩)) none (some (.int .i64 (Lib.nDigits u : Int))) none).run Tryz.prog W = .ok (.slice (some ⟨w.heap.size, 0, none⟩) (Lib.nDigits u) 24) W := fun W => by
   rw [run_sliceAt_array_h W 225 ⟨w.heap.size, 0, none⟩ (by simp [Program.arrayLen, Program.elem, Tryz.underlying225]) .i64 (Lib.nDigits u : Int) (by omega) (by rw [hal]; omega)]
   go_simp
  have hH0 := Lib.holds_zero0 w 225 (Lib.nDigits u) (by omega)
  have hfmt := Tryz.internal_strconv_formatBase10 w.heap.size 0 24 u (Array.replicate (Lib.nDigits u) 0) (w.alloc (.cells Lib.zeros24 225)) hH0 (by rw [Array.size_replicate]; exact Lib.lt_pow_nDigits u) hu64 (by rw [Array.size_replicate]; omega)
  rw [Array.size_replicate] at hfmt
  have HH0 := Lib.hid hH0
  clear hH0 hal
  go_enter Tryz.func145, Tryz.ntmps145
  go_wp2_with (first
   | (go_at_call 147; refine (Tryz.internal_strconv_numDigits u hu1 hu64 _ (Lib.tabIs_alloc htab _)).mono ?_; rintro e w' ⟨rfl, rfl⟩))
  refine hfmt.mono ?_
  rintro e w' ⟨rfl, k, v', dk, rfl, hF⟩
  have hcells : ∀ j u', (Lib.byteCells (Lib.decDigits u))[j]? = some u' → ((putRow (fun (b : UInt8) => Value.int .u8 (b.toNat : Int)) (w.alloc (.cells Lib.zeros24 225)) w.heap.size 0 dk).drewN k).cell? ((⟨w.heap.size, 0, none⟩ : Addr).add j) = some u' := by
   intro j u' hj
   have hjl : j < (Lib.decDigits u).length := by
    have h5 := (List.getElem?_eq_some_iff.1 hj).1
    rwa [Lib.byteCells_length] at h5
   have e5 : (Lib.byteCells (Lib.decDigits u))[j]? = some (Value.int .u8 ((Lib.decDigits u)[j].toNat : Int)) := by simp [Lib.byteCells, hjl]
   rw [e5] at hj
   cases hj
   rw [Lib.row_is_numeral hF j hjl, Lib.add_plain, World.cell?_drewN]
   exact cell?_putRow (fun (b : UInt8) => Value.int .u8 (b.toNat : Int)) _ w.heap.size 0 _ dk HH0.out (by rw [hF.size, Array.size_replicate]) j (by rw [hF.size]; rw [Lib.decDigits_length] at hjl; exact hjl)
  obtain ⟨os, eo⟩ := Lib.fin_at w (.cells Lib.zeros24 225) dk k 0
  have HBW : Hid (Below w.heap.size w ((putRow (fun (b : UInt8) => Value.int .u8 (b.toNat : Int)) (w.alloc (.cells Lib.zeros24 225)) w.heap.size 0 dk).drewN k)) := by
   show Below _ _ _
   rw [eo]
   exact Lib.below_grow w.heap.size w (Nat.le_refl _) k os
  generalize (putRow (fun (b : UInt8) => Value.int .u8 (b.toNat : Int)) (w.alloc (.cells Lib.zeros24 225)) w.heap.size 0 dk).drewN k = W2 at hcells HBW ⊢
  have HR2 : Hid (Bt B W2 v l) := HR.out.below HBW.out
  have hB2 : B ≤ W2.heap.size := Nat.le_trans hB HBW.out.size
  have HC : Hid (∀ j u', (Lib.byteCells (Lib.decDigits u))[j]? = some u' → W2.cell? ((⟨w.heap.size, 0, none⟩ : Addr).add j) = some u') := hcells
  clear eo HH0 hfmt hcells
  obtain ⟨i0, hi0, hz0, hz1, hz2⟩ := info_parts infoU8
  go_wp2_with (at_builtin; refine wpList_append_own2 rfl (.tmp 24) (.tmp 26) 73 rfl B 5 i0 (.int .u8 0) 1 1 Tryz.underlying73 hi0 hz0 hz1 hz2 rfl (by decide) _ l.length _ rfl HR2.out ⟨w.heap.size, 0, none⟩ (Lib.nDigits u) 24 (Lib.byteCells (Lib.decDigits u)) rfl (by rw [Lib.byteCells_length, Lib.decDigits_length, Nat.mul_one]) HC.out (by intro u' hu'; simp only [Lib.byteCells, List.mem_map] at hu'; obtain ⟨b, _, rfl⟩ := hu'; rfl) (by rw [← Lib.decDigits_length]; exact hd1) (by unfold maxLen; omega) (by omega) hB2 ?_)
  intro v1 w1 h1 k1 o1
  have H1 : Hid (Bt B w1 v1 (l ++ Lib.decDigits u)) := by
   show w1.ownsRow _ _ _ _ _ _
   rw [List.length_append, Lib.decDigits_length, show Lib.byteCells (l ++ Lib.decDigits u) = Lib.byteCells l ++ Lib.byteCells (Lib.decDigits u) from by simp [Lib.byteCells]]
   exact h1
  have K1 : Hid (Gr w w1 v v1) := Gr.pre ⟨k1, fun k hk => by
   rcases o1 with o1 | o1
   ·exact .inl (o1.symm.trans hk)
   ·rw [o1] at hk; cases hk; exact .inr (Nat.le_refl _)⟩ HBW.out (fun k hk => (HR.out.lt k hk).2)
  clear h1 k1 o1
  go_wp2
  go_ret
  exact ⟨v1, rfl, H1.out, K1.out⟩
theorem appI_any {B : Nat} {w : World} {v : Value} {l : Bs} (hR : Bt B w v l) (hB : B ≤ w.heap.size) (n : Int) (h0 : 0 ≤ n) (h1 : n ≤ 9223372036854775807) (hl : l.length ≤ 1000000000)
 (htab : Lib.TabIs Tryz.prog w "internal/strconv.uint64pow10" .u64 Lib.pow10Tab) :
 Calls Tryz.prog 79 #[v, .int .i64 n, .int .i64 10] w fun e w' => ∃ v', e = .returned v' ∧ Bt B w' v' (l ++ Lib.itoa n) ∧ Gr w w' v v' := by
 obtain ⟨u, rfl⟩ : ∃ u : Nat, n = (u : Int) := ⟨n.toNat, by omega⟩
 have hit : Lib.itoa (u : Int) = Lib.decDigits u := by unfold Lib.itoa; rw [if_neg (by omega)]; simp
 rw [hit]
 have hc := appU_any hR hB u (by omega) hl htab
 have HC : Hid (Calls Tryz.prog 145 #[v, .int .u64 u, .int .i64 10] w fun e w' => ∃ v', e = .returned v' ∧ Bt B w' v' (l ++ Lib.decDigits u) ∧ Gr w w' v v') := hc
 clear hc hR htab hit
 have hin : Calls Tryz.prog 113 #[v, .int .i64 (u : Int), .int .i64 10] w fun e w' => ∃ v', e = .returned v' ∧ Bt B w' v' (l ++ Lib.decDigits u) ∧ Gr w w' v v' := by
  go_enter Tryz.func113, Tryz.ntmps113
  go_wp2_with (go_at_call 145; refine HC.out.mono ?_; rintro e w1 ⟨v1, rfl, h2, k2⟩; refine Hid.out ?_)
  refine Lib.hid ?_
  have H2 := Lib.hid h2
  have K2 := Lib.hid k2
  clear h2 k2
  go_wp2
  go_ret
  exact ⟨v1, rfl, H2.out, K2.out⟩
 have HI := Lib.hid hin
 clear hin HC
 go_enter Tryz.func79, Tryz.ntmps79
 go_wp2_with (go_at_call 113; refine HI.out.mono ?_; rintro e w1 ⟨v1, rfl, h2, k2⟩; refine Hid.out ?_)
 refine Lib.hid ?_
 have H2 := Lib.hid h2
 have K2 := Lib.hid k2
 clear h2 k2
 go_wp2
 go_ret
 exact ⟨v1, rfl, H2.out, K2.out⟩
end Go.Proofs.YtpboencfnjmmbaaGreatDoor
namespace Go.Proofs.YtpboencfnjmmbaaGreatDoor
open Go.RowKit TM
def cur (l : Nat → Bool) (a : Act) : Value → List (Nat × Nat × Bs) → Value
 | v, [] => v
 | v, x :: C => if l x.1 then cur l a (a.eval (.tmp x.2.1)) C else v
def curX (l : Nat → Bool) : Bs → List (Nat × Nat × Bs) → Bs
 | s, [] => s
 | s, x :: C => if l x.1 then curX l (s ++ x.2.2) C else s
theorem cur_pure {l : Nat → Bool} {a : Act} {i d : Nat} {u : Value} : ∀ {C : List (Nat × Nat × Bs)} {v : Value}, (∀ x ∈ C, x.1 ≠ i ∧ x.2.1 ≠ d) → cur (more l i) (a.put (some d) u) v C = cur l a v C
 | [], v, h => rfl
 | x :: C, v, h => by
  have hx := h x (by simp)
  simp only [cur, more_ne l hx.1, eval_other hx.2]
  rw [cur_pure (fun y hy => h y (by simp [hy]))]
theorem curX_pure {l : Nat → Bool} {i : Nat} : ∀ {C : List (Nat × Nat × Bs)} {s : Bs}, (∀ x ∈ C, x.1 ≠ i) → curX (more l i) s C = curX l s C
 | [], s, h => rfl
 | x :: C, s, h => by
  simp only [curX, more_ne l (h x (by simp))]
  rw [curX_pure (fun y hy => h y (by simp [hy]))]
theorem cur_step {l : Nat → Bool} {a : Act} {i d : Nat} {m : Bs} {u : Value} (hd : d < a.tmps.size) : ∀ {C1 C2 : List (Nat × Nat × Bs)} {v : Value}, (∀ x ∈ C1, l x.1 = true) → (∀ x ∈ C2, l x.1 = false ∧ x.1 ≠ i) → cur (more l i) (a.put (some d) u) v (C1 ++ (i, d, m) :: C2) = u
 | [], C2, v, h1, h2 => by
  simp only [List.nil_append, cur, more_self, if_true]
  rw [eval_put _ _ _ _ hd, if_pos rfl]
  cases C2 with
  | nil => rfl
  | cons x C2 =>
   have := h2 x (by simp)
   simp only [cur, more_ne l this.2, this.1, Bool.false_eq_true, if_false]
 | x :: C1, C2, v, h1, h2 => by
  simp only [List.cons_append, cur, more_of l (h1 x (by simp)), if_true]
  exact cur_step hd (fun y hy => h1 y (by simp [hy])) h2
theorem curX_step {l : Nat → Bool} {i d : Nat} {m : Bs} : ∀ {C1 C2 : List (Nat × Nat × Bs)} {s : Bs}, (∀ x ∈ C1, l x.1 = true) → l i = false → (∀ x ∈ C2, l x.1 = false ∧ x.1 ≠ i) → curX (more l i) s (C1 ++ (i, d, m) :: C2) = curX l s (C1 ++ (i, d, m) :: C2) ++ m
 | [], C2, s, h1, hi, h2 => by
  simp only [List.nil_append, curX, more_self, if_true, hi, Bool.false_eq_true, if_false]
  cases C2 with
  | nil => rfl
  | cons x C2 =>
   have := h2 x (by simp)
   simp only [curX, more_ne l this.2, this.1, Bool.false_eq_true, if_false]
 | x :: C1, C2, s, h1, hi, h2 => by
  simp only [List.cons_append, curX, more_of l (h1 x (by simp)), h1 x (by simp), if_true]
  exact curX_step (fun y hy => h1 y (by simp [hy])) hi h2
structure JC (B : Nat) (w0 : World) (v0 : Value) (x0 : Bs) (C : List (Nat × Nat × Bs)) (bi bd bc : Nat) (m : Bs) (z zs : Nat) (l : Nat → Bool) (a : Act) (W : World) : Prop where
 gr : Gr w0 W v0 (cur l a v0 C)
 row : Bt B W (cur l a v0 C) (curX l x0 C)
 bld : l bi = true → l bc = false → ∃ g, a.eval (.tmp bd) = .slice (some ⟨g, 0, none⟩) m.length m.length ∧ W.heap[g]? = some (.cells (Lib.byteCells m).toArray 5 (0, 0)) ∧ (cur l a v0 C).ownBlock ≠ some g
 s0 : l z = false → a.eval (.tmp zs) = v0
section
variable {B : Nat} {w0 : World} {v0 : Value} {x0 : Bs} {C C1 C2 : List (Nat × Nat × Bs)} {bi bd bc z zs : Nat} {m : Bs} {l : Nat → Bool} {a : Act} {W W' : World}
theorem JC.start (h : Bt B w0 v0 x0) (a : Act) (ha : a.eval (.tmp zs) = v0) : JC B w0 v0 x0 C bi bd bc m z zs (fun _ => false) a w0.drew := by
 have e1 : cur (fun _ => false) a v0 C = v0 := by cases C <;> rfl
 have e2 : curX (fun _ => false) x0 C = x0 := by cases C <;> rfl
 refine ⟨?_, ?_, fun h => by simp at h, fun _ => ha⟩
 ·rw [e1]; exact (Gr.refl _ _).drew
 ·rw [e1, e2]; exact h
theorem JC.pureB (h : JC B w0 v0 x0 C bi bd bc m z zs l a W) {i d : Nat} {u : Value} (hC : ∀ x ∈ C, x.1 ≠ i ∧ x.2.1 ≠ d) (hb : bi ≠ i ∧ bc ≠ i ∧ bd ≠ d ∧ z ≠ i ∧ zs ≠ d) (hw : Below W.heap.size W W') : JC B w0 v0 x0 C bi bd bc m z zs (more l i) (a.put (some d) u) W' := by
 have e1 := cur_pure (l := l) (a := a) (i := i) (d := d) (u := u) (v := v0) hC
 have e2 := curX_pure (l := l) (i := i) (s := x0) (fun x hx => (hC x hx).1)
 refine ⟨?_, ?_, fun h1 h2 => ?_, fun h1 => by rw [more_ne _ hb.2.2.2.1] at h1; rw [eval_other hb.2.2.2.2]; exact h.s0 h1⟩
 ·rw [e1]; exact h.gr.below hw
 ·rw [e1, e2]; exact h.row.below hw
 ·rw [more_ne _ hb.1] at h1
  rw [more_ne _ hb.2.1] at h2
  obtain ⟨g, g1, g2, g3⟩ := h.bld h1 h2
  exact ⟨g, by rw [eval_other hb.2.2.1]; exact g1, (hw.block g (Array.getElem?_eq_some_iff.1 g2).1).trans g2, by rw [e1]; exact g3⟩
theorem JC.pure (h : JC B w0 v0 x0 C bi bd bc m z zs l a W) {i d : Nat} {u : Value} (hC : ∀ x ∈ C, x.1 ≠ i ∧ x.2.1 ≠ d) (hb : bi ≠ i ∧ bc ≠ i ∧ bd ≠ d ∧ z ≠ i ∧ zs ≠ d) : JC B w0 v0 x0 C bi bd bc m z zs (more l i) (a.put (some d) u) W :=
 h.pureB hC hb (Below.refl _ _)
theorem JC.build (h : JC B w0 v0 x0 C bi bd bc m z zs l a W) (hC : ∀ x ∈ C, x.1 ≠ bi ∧ x.2.1 ≠ bd) (hz : z ≠ bi ∧ zs ≠ bd) (hd : bd < a.tmps.size) {cs : Array Value} (hcs : cs.toList = Lib.byteCells m) {n : Nat} (hn : n = m.length) :
 JC B w0 v0 x0 C bi bd bc m z zs (more l bi) (a.put (some bd) (.slice (some ⟨W.heap.size, 0, none⟩) n n)) (W.alloc (.cells cs 5)) := by
 subst hn
 obtain rfl : cs = (Lib.byteCells m).toArray := by rw [← hcs]
 have e1 := cur_pure (l := l) (a := a) (i := bi) (d := bd) (u := .slice (some ⟨W.heap.size, 0, none⟩) m.length m.length) (v := v0) hC
 have e2 := curX_pure (l := l) (i := bi) (s := x0) (fun x hx => (hC x hx).1)
 refine ⟨?_, ?_, fun h1 h2 => ⟨W.heap.size, ?_, heap_alloc_new _ _, ?_⟩, fun h1 => by rw [more_ne _ hz.1] at h1; rw [eval_other hz.2]; exact h.s0 h1⟩
 ·rw [e1]; exact h.gr.alloc _
 ·rw [e1, e2]; exact h.row.alloc _
 ·rw [eval_put _ _ _ _ hd, if_pos rfl]
 ·rw [e1]
  intro e
  have := (h.row.lt _ e).2
  omega
theorem JC.step {i d : Nat} {k : Bs} (h : JC B w0 v0 x0 (C1 ++ (i, d, k) :: C2) bi bd bc m z zs l a W) (hd : d < a.tmps.size) (h1 : ∀ x ∈ C1, l x.1 = true) (hi : l i = false) (h2 : ∀ x ∈ C2, l x.1 = false ∧ x.1 ≠ i) (hb : bi ≠ i ∧ bd ≠ d ∧ (z = i ∨ zs ≠ d)) {u : Value}
 (hr : Bt B W' u (curX l x0 (C1 ++ (i, d, k) :: C2) ++ k)) (hg : Gr W W' (cur l a v0 (C1 ++ (i, d, k) :: C2)) u) : JC B w0 v0 x0 (C1 ++ (i, d, k) :: C2) bi bd bc m z zs (more l i) (a.put (some d) u) W' := by
 have e1 := cur_step (l := l) (a := a) (i := i) (d := d) (m := k) (u := u) hd (v := v0) h1 h2
 have e2 := curX_step (l := l) (i := i) (d := d) (m := k) (s := x0) h1 hi h2
 refine ⟨?_, ?_, fun q1 q2 => ?_, fun q1 => ?_⟩
 ·rw [e1]; exact h.gr.trans hg
 ·rw [e1, e2]; exact hr
 ·rw [more_ne _ hb.1] at q1
  have q3 : l bc = false := by
   by_cases e : bc = i
   ·rw [e]; exact hi
   ·rwa [more_ne _ e] at q2
  obtain ⟨g, g1, g2, g3⟩ := h.bld q1 q3
  have hlt := (Array.getElem?_eq_some_iff.1 g2).1
  refine ⟨g, by rw [eval_other hb.2.1]; exact g1, (hg.g.block g hlt (fun e => g3 e.symm)).trans g2, ?_⟩
  rw [e1]
  intro e
  rcases hg.o g e with h5 | h5
  ·exact g3 h5
  ·omega
 ·rcases hb.2.2 with hz | hz
  ·rw [hz, more_self] at q1; cases q1
  ·rw [eval_other hz]
   by_cases hz2 : z = i
   ·rw [hz2, more_self] at q1; cases q1
   ·rw [more_ne _ hz2] at q1; exact h.s0 q1
theorem JC.hand {i d : Nat} (h : JC B w0 v0 x0 (C1 ++ (i, d, []) :: C2) bi bd bc m z zs l a W) (hd : d < a.tmps.size) (h1 : ∀ x ∈ C1, l x.1 = true) (hi : l i = false) (h2 : ∀ x ∈ C2, l x.1 = false ∧ x.1 ≠ i) (hb : bi ≠ i ∧ bd ≠ d ∧ (z = i ∨ zs ≠ d)) {u : Value} (hc : cur l a v0 (C1 ++ (i, d, []) :: C2) = u) :
 JC B w0 v0 x0 (C1 ++ (i, d, []) :: C2) bi bd bc m z zs (more l i) (a.put (some d) u) W := by
 subst hc
 exact h.step hd h1 hi h2 hb (by rw [List.append_nil]; exact h.row) (Gr.refl _ _)
theorem JC.str {i d : Nat} {s : ByteArray} (h : JC B w0 v0 x0 (C1 ++ (i, d, s.data.toList) :: C2) bi bd bc m z zs l a W) (hB : B ≤ w0.heap.size) (hd : d < a.tmps.size) (h1 : ∀ x ∈ C1, l x.1 = true) (hi : l i = false) (h2 : ∀ x ∈ C2, l x.1 = false ∧ x.1 ≠ i) (hb : bi ≠ i ∧ bd ≠ d ∧ (z = i ∨ zs ≠ d)) {vc : Value} (hc : cur l a v0 (C1 ++ (i, d, s.data.toList) :: C2) = vc) (hl : (curX l x0 (C1 ++ (i, d, s.data.toList) :: C2)).length + s.size ≤ 1000000000000) (ty : TypeId) :
 ∃ u W', (Builtin.append_ #[73, 9] ty #[vc, .string s]).run Tryz.prog W = .ok u W' ∧ JC B w0 v0 x0 (C1 ++ (i, d, s.data.toList) :: C2) bi bd bc m z zs (more l i) (a.put (some d) u) W' := by
 subst hc
 obtain ⟨u, W', hr, r1, r2⟩ := run_app_str (P := Tryz.prog) rfl h.row (Nat.le_trans hB h.gr.size) s hl ty
 exact ⟨u, W', hr, h.step hd h1 hi h2 hb r1 r2⟩
theorem JC.put {d : Nat} (h : JC B w0 v0 x0 (C1 ++ (bc, d, m) :: C2) bi bd bc m z zs l a W) (hB : B ≤ w0.heap.size) (hd : d < a.tmps.size) (h1 : ∀ x ∈ C1, l x.1 = true) (hi : l bc = false) (hbi : l bi = true) (h2 : ∀ x ∈ C2, l x.1 = false ∧ x.1 ≠ bc) (hb : bi ≠ bc ∧ bd ≠ d ∧ (z = bc ∨ zs ≠ d)) {k : Nat} (hk : m.length = k) (hm : 0 < k) {vc : Value} (hc : cur l a v0 (C1 ++ (bc, d, m) :: C2) = vc) (hl : (curX l x0 (C1 ++ (bc, d, m) :: C2)).length + m.length ≤ 1000000000000) (ty : TypeId) :
 ∃ g u W', a.eval (.tmp bd) = .slice (some ⟨g, 0, none⟩) k k ∧ (Builtin.append_ #[73, 73] ty #[vc, .slice (some ⟨g, 0, none⟩) k k]).run Tryz.prog W = .ok u W' ∧ JC B w0 v0 x0 (C1 ++ (bc, d, m) :: C2) bi bd bc m z zs (more l bc) (a.put (some d) u) W' := by
 subst hc
 subst hk
 obtain ⟨g, g1, g2, g3⟩ := h.bld hbi hi
 obtain ⟨u, W', hr, r1, r2⟩ := run_app_row (P := Tryz.prog) rfl h.row (Nat.le_trans hB h.gr.size) m (g := g) (n := m.length) (c := m.length) (cs := (Lib.byteCells m).toArray) rfl g2 rfl hm hl ty
 exact ⟨g, u, W', g1, hr, h.step hd h1 hi h2 hb r1 r2⟩
end
end Go.Proofs.YtpboencfnjmmbaaGreatDoor
namespace Go.Proofs.YtpboencfnjmmbaaGreatDoor
open Go.RowKit TM
def AddE (e : TE) : Prop := ∀ (B : Nat) (w : World) (v : Value) (l : Bs) (vp vn vb : Value), Bt B w v l → B ≤ w.heap.size → Lg B w → EIn (· < B) w e vp vn vb → l.length + (txE e).length ≤ 1000000000 →
 Calls Tryz.prog 50 #[v, exV e vp vn vb] w fun en w' => ∃ v', en = .returned v' ∧ Bt B w' v' (l ++ txE e) ∧ Gr w w' v v'
def AddSs (s : List TS) : Prop := ∀ (B : Nat) (w : World) (v : Value) (l : Bs) (vs : Value), Bt B w v l → B ≤ w.heap.size → Lg B w → SsIn B w vs s → l.length + (txSs s).length ≤ 1000000000 →
 Calls Tryz.prog 48 #[v, vs] w fun en w' => ∃ v', en = .returned v' ∧ Bt B w' v' (l ++ txSs s) ∧ Gr w w' v v'
structure Small (n : Nat) : Prop where
 e : ∀ e, szE e < n ∨ e = noE → AddE e
 s : ∀ s, szSs s < n → AddSs s
def Six (x : Value) : Prop := ∃ (op num : Int) (text : ByteArray) (a b c : Option Addr) (n1 c1 n2 c2 n3 c3 : Nat), x = .agg #[.int .i64 op, .int .i64 num, .string text, .slice a n1 c1, .slice b n2 c2, .slice c n3 c3]
theorem six_of {P : Nat → Prop} {w : World} {e : TE} {vp vn vb : Value} (h : EIn P w e vp vn vb) : Six (exV e vp vn vb) := by
 cases e with
 | mk op num text parts params body =>
  obtain ⟨_, ⟨pa, pc, rfl, _⟩, ⟨na, nc, rfl, _⟩, ⟨ba, bc, rfl, _⟩⟩ := h
  exact ⟨_, _, _, _, _, _, _, _, _, _, _, _, rfl⟩
structure Pk (B : Nat) (w : World) (vp : Value) (i : Nat) (t : Bs) (x : Value) : Prop where
 six : Six x
 part : ∀ W, Below B w W → Calls Tryz.prog 111 #[vp, .int .i64 (i : Int)] W fun e W' => e = .returned x ∧ Below W.heap.size W W'
 add : ∀ W vc X, Bt B W vc X → B ≤ W.heap.size → Below B w W → X.length + t.length ≤ 1000000000 → Calls Tryz.prog 50 #[vc, x] W fun e W' => ∃ u, e = .returned u ∧ Bt B W' u (X ++ t) ∧ Gr W W' vc u
theorem pack {n B : Nat} {w : World} {vp : Value} {parts : List TE} (hA : Small n) (hS : EsIn B w vp parts) (hB : B ≤ w.heap.size) (hG : Lg B w) (i : Nat) (hi : i ≤ 9223372036854775807) (hsz : szEs parts < n) : ∃ x, Pk B w vp i (pt (txEs parts) i) x := by
 obtain ⟨a, b, c, h1, h2⟩ := part_any hS hB i hi
 refine ⟨exV (ptE parts i) a b c, six_of h1, h2, fun W vc X hr hBW hbel hl => ?_⟩
 rw [← ptE_tx] at hl ⊢
 refine hA.e _ ?_ B W vc X a b c hr hBW (hG.on hbel) (EIn.on h1 hbel) hl
 rcases ptE_sz parts i with h | h
 ·exact .inl (by omega)
 ·exact .inr h
theorem packAt {n B : Nat} {w : World} {parts : List TE} {g o : Nat} (hA : Small n) (hG : Lg B w) (hg : EsAt (· < B) w g o parts) (hgB : g < B) {i : Nat} {e : TE} (he : parts[i]? = some e) (hsz : szEs parts < n) :
 ∃ (op num : Int) (text : ByteArray) (a b c : Option Addr) (n1 c1 n2 c2 n3 c3 : Nat), (∀ W, Below B w W → W.cell? ⟨g, o + i * 6, none⟩ = some (.int .i64 op) ∧ W.cell? ⟨g, o + i * 6 + 1, none⟩ = some (.int .i64 num) ∧ W.cell? ⟨g, o + i * 6 + 2, none⟩ = some (.string text) ∧ W.cell? ⟨g, o + i * 6 + 3, none⟩ = some (.slice a n1 c1) ∧ W.cell? ⟨g, o + i * 6 + 4, none⟩ = some (.slice b n2 c2) ∧ W.cell? ⟨g, o + i * 6 + 5, none⟩ = some (.slice c n3 c3)) ∧
  ∀ W vc X, Bt B W vc X → B ≤ W.heap.size → Below B w W → X.length + (txE e).length ≤ 1000000000 → Calls Tryz.prog 50 #[vc, .agg #[.int .i64 op, .int .i64 num, .string text, .slice a n1 c1, .slice b n2 c2, .slice c n3 c3]] W fun en W' => ∃ u, en = .returned u ∧ Bt B W' u (X ++ txE e) ∧ Gr W W' vc u := by
 obtain ⟨vp, vn, vb, hc, hin⟩ := hg.get he
 have hlt := szEs_get he
 cases e with
 | mk op num text ps pm bd =>
  have hin2 := hin
  obtain ⟨_, ⟨pa, pc, rfl, _⟩, ⟨na, nc, rfl, _⟩, ⟨ba, bc, rfl, _⟩⟩ := hin2
  refine ⟨op, num, text, pa, na, ba, ps.length, pc, pm.length, nc, bd.length, bc, fun W hb => hc.kept (hb.block g hgB), fun W vc X hr hBW hbel hl => ?_⟩
  exact hA.e _ (.inl (by omega)) B W vc X _ _ _ hr hBW (hG.on hbel) (EIn.on hin hbel) hl
end Go.Proofs.YtpboencfnjmmbaaGreatDoor
