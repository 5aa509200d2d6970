/-
  Package tree's addCall: what is called, and what with, behind a row.
  Conditions: as each theorem says.
-/
import Derived.Test.YtpgbfkdknggceaaGreatDoorTrAdd0
import Derived.Test.YtpgbfkdknggceaaGreatDoorTrLists
namespace Go.Proofs.YtpgbfkdknggceaaGreatDoor
open Go.RowKit TM
set_option linter.unusedVariables false
set_option maxRecDepth 100000 in
set_option maxHeartbeats 4000000 in
theorem addCall_any {n : Nat} (hA : Small n) {op : Nat} {num : Int} {text : ByteArray} {parts : List TE} {params : List ByteArray} {body : List TS} (hsz : szE (.mk op num text parts params body) ≤ n)
    {B : Nat} {w : World} {v : Value} {l : Bs} {vp vn vb : Value} (hR : Bt B w v l) (hB : B ≤ w.heap.size) (hG : Lg B w) (hE : EIn (· < B) w (.mk op num text parts params body) vp vn vb) (hl : l.length + (callT (txEs parts)).length ≤ 1000000000) :
    Calls Tryz.prog 41 #[v, exV (.mk op num text parts params body) vp vn vb] w fun en w' => ∃ v', en = .returned v' ∧ Bt B w' v' (l ++ callT (txEs parts)) ∧ Gr w w' v v' := by
  have hszp : szEs parts < n := by unfold szE at hsz; omega
  have hszb : szSs body < n := by unfold szE at hsz; omega
  have hE2 := hE
  obtain ⟨_, ⟨pa, pc, rfl, hpc1, hpc2, hpg⟩, ⟨na, nc, rfl, hnc1, hnc2, hng⟩, ⟨ba, bc, rfl, hbc1, hbc2, hbg⟩⟩ := hE2
  obtain ⟨x, hx⟩ := pack hA hE.2.1 hB hG 0 (by omega) hszp
  have HAT : Hid (∀ g o, g < B → EsAt (· < B) w g o parts → ∀ k e, parts[k]? = some e → ∃ (op num : Int) (text : ByteArray) (a b c : Option Addr) (n1 c1 n2 c2 n3 c3 : Nat), (∀ W, Below B w W → W.cell? ⟨g, o + k * 6, none⟩ = some (.int .i64 op) ∧ W.cell? ⟨g, o + k * 6 + 1, none⟩ = some (.int .i64 num) ∧ W.cell? ⟨g, o + k * 6 + 2, none⟩ = some (.string text) ∧ W.cell? ⟨g, o + k * 6 + 3, none⟩ = some (.slice a n1 c1) ∧ W.cell? ⟨g, o + k * 6 + 4, none⟩ = some (.slice b n2 c2) ∧ W.cell? ⟨g, o + k * 6 + 5, none⟩ = some (.slice c n3 c3)) ∧ ∀ W vc X, Bt B W vc X → B ≤ W.heap.size → Below B w W → X.length + (txE e).length ≤ 1000000000 → Calls Tryz.prog 23 #[vc, .agg #[.int .i64 op, .int .i64 num, .string text, .slice a n1 c1, .slice b n2 c2, .slice c n3 c3]] W fun en W2 => ∃ u, en = .returned u ∧ Bt B W2 u (X ++ txE e) ∧ Gr W W2 vc u) := fun g o hgB h k e he => packAt hA hG h hgB he hszp
  have HPG : Hid (0 < parts.length → ∃ g o, pa = some ⟨g, o, none⟩ ∧ g < B ∧ EsAt (· < B) w g o parts) := hpg
  have hT : callT (txEs parts) = pt (txEs parts) 0 ++ [40] ++ commas ((txEs parts).drop 1) ++ [41] := rfl
  rw [hT] at hl ⊢
  clear hT
  obtain ⟨C, hC0, hC1, hC2, hC3⟩ := front ((txEs parts).drop 1)
  have HC0 : Hid (C 0 = []) := hC0
  have HC1 : Hid (∀ j e, parts[j + 1]? = some e → C (j + 1) = C j ++ com j ++ txE e) := fun j e he => hC1 j (txE e) (by rw [List.getElem?_drop, Nat.add_comm 1 j]; exact txEs_get he)
  have HC3 : Hid (∀ j, parts.length ≤ j + 1 → C j = commas ((txEs parts).drop 1)) := fun j hj => hC3 j (by rw [List.length_drop, txEs_length]; omega)
  generalize pt (txEs parts) 0 = T at hl hx ⊢
  generalize commas ((txEs parts).drop 1) = M at hl hC2 HC3 ⊢
  have hlT : l.length + T.length + M.length + 2 ≤ 1000000000 := by simp at hl; omega
  have hlC : ∀ j, (C j).length ≤ M.length := hC2
  have HX : Hid (Pk B w (.slice pa parts.length pc) 0 T x) := hx
  have HR0 : Hid (Bt B w v l) := hR
  unfold maxLen at hpc2
  clear hE hl hx hA hsz hszp hszb hR hG hpg hnc1 hnc2 hng hbc1 hbc2 hbg hC0 hC1 hC2 hC3
  unfold exV
  go_enter Tryz.func41, Tryz.ntmps41
  go_wp2_with fail
  obtain ⟨w1, hw1⟩ : ∃ w1, w1 = w.alloc (.cells #[.int .i64 (op : Int), .int .i64 num, .string text, .slice pa parts.length pc, .slice na params.length nc, .slice ba body.length bc] 35) := ⟨_, rfl⟩
  obtain ⟨gb, hgb⟩ : ∃ gb, gb = w.heap.size := ⟨_, rfl⟩
  have HBW : Hid (Below w.heap.size w w1) := by rw [hw1]; exact (Below.refl _ _).alloc (Nat.le_refl _) _
  have HBX : Hid (w1.heap[gb]? = some (.cells #[.int .i64 (op : Int), .int .i64 num, .string text, .slice pa parts.length pc, .slice na params.length nc, .slice ba body.length bc] 35 (0, 0))) := by rw [hw1, hgb]; exact heap_alloc_new _ _
  have HR : Hid (Bt B w1 v l) := by rw [hw1]; exact HR0.out.alloc _
  have hB1 : B ≤ w1.heap.size := Nat.le_trans hB HBW.out.size
  rw [← hw1, ← hgb]
  clear hw1 hgb
  have hbx1 : w1.heap[gb]? = _ := HR.out.block (Gr.refl _ _) HBX.out (by decide)
  have hc1_3 : w1.cell? ⟨gb, 3, none⟩ = some (.slice pa parts.length pc) := by simp [World.cell?, hbx1]
  clear hbx1
  go_wp2_with fail
  refine (HX.out.part _ ((HBW.out.mono hB).trans (HR.out.bel (Gr.refl _ _) hB1))).mono ?_
  rintro e w2 ⟨rfl, b2⟩
  have HR2 : Hid (Bt B w2 v (l)) := by show Bt _ _ _ _; exact HR.out.below b2
  have HG2 : Hid (Gr w1 w2 v v) := by show Gr _ _ _ _; exact (Gr.refl _ _).below b2
  have hB2 : B ≤ w2.heap.size := Nat.le_trans hB1 HG2.out.size
  clear b2
  go_wp2_with fail
  refine (HX.out.add _ _ _ HR2.out hB2 ((HBW.out.mono hB).trans (HR.out.bel (HG2.out) hB1)) (by first | omega | (simp; omega))).mono ?_
  rintro e w3 ⟨v3, rfl, r3, g3⟩
  have HR3 : Hid (Bt B w3 v3 (l ++ T)) := by show Bt _ _ _ _; simpa using r3
  have HG3 : Hid (Gr w1 w3 v v3) := by show Gr _ _ _ _; exact (HG2.out).trans g3
  have hB3 : B ≤ w3.heap.size := Nat.le_trans hB1 HG3.out.size
  clear r3 g3
  go_wp2_with (at_builtin; refine wpList_app_row rfl (.tmp 10) (.tmp 11) rfl rfl HR3.out hB3 [40] rfl (by rfl) rfl (by simp) (by first | omega | (simp; omega)) ?_)
  intro v4 w4 r4 g4
  have HR4 : Hid (Bt B w4 v4 (l ++ T ++ [40])) := by show Bt _ _ _ _; simpa using r4
  have HG4 : Hid (Gr w1 w4 v v4) := by show Gr _ _ _ _; exact (HG3.out).trans g4
  have hB4 : B ≤ w4.heap.size := Nat.le_trans hB1 HG4.out.size
  clear r4 g4
  go_wp2_with fail
  go_loopw [5, 0] (fun i u wr => ∃ j : Nat, i = .int .i64 ((j + 1 : Nat) : Int) ∧ j ≤ parts.length ∧ Hid (Bt B wr u (l ++ T ++ [40] ++ C j)) ∧ Hid (Gr w1 wr v u))
    (fun i _ _ => parts.length + 1 - (intOf i).toNat)
  case atStart => exact ⟨0, rfl, Nat.zero_le _, by rw [HC0.out, List.append_nil]; exact HR4, HG4⟩
  case round =>
    obtain ⟨j, rfl, hjp, HRj, HGj⟩ := hrel
    have hBj : B ≤ wr.heap.size := Nat.le_trans hB1 HGj.out.size
    have hjm := hlC j
    obtain ⟨A, hA⟩ : ∃ A, l ++ T ++ [40] ++ C j = A := ⟨_, rfl⟩
    have hAl : A.length ≤ l.length + T.length + M.length + 1 := by rw [← hA]; simp; omega
    rw [hA] at HRj
    have HA : Hid (l ++ T ++ [40] ++ C j = A) := hA
    clear hA
    have hbx : wr.heap[gb]? = _ := HR.out.block HGj.out HBX.out (by decide)
    have hcl : wr.cell? ⟨gb, 3, none⟩ = some (.slice pa parts.length pc) := by simp [World.cell?, hbx]
    clear hbx
    have HBEL : Hid (Below B w wr) := (HBW.out.mono hB).trans (HR.out.bel HGj.out hB1)
    by_cases hlt : j + 1 < parts.length
    · obtain ⟨e, he⟩ : ∃ e, parts[j + 1]? = some e := ⟨_, List.getElem?_eq_getElem hlt⟩
      obtain ⟨ga, oa, rfl, hgB, hEs⟩ := HPG.out (by omega)
      obtain ⟨op2, num2, text2, a2, b2, c2, n1, m1, n2, m2, n3, m3, hce, had⟩ := HAT.out ga oa hgB hEs (j + 1) e he
      have HCE := Lib.hid hce
      have HAD := Lib.hid had
      have HN : Hid (l ++ T ++ [40] ++ C (j + 1) = A ++ com j ++ txE e) := by show _ = _; rw [← HA.out, HC1.out j e he]; simp
      have hjm2 := hlC (j + 1)
      have hNl : A.length + (com j).length + (txE e).length ≤ l.length + T.length + M.length + 1 := by have := congrArg List.length HN.out; simp at this; omega
      have hidx : 0 ≤ ((j + 1 : Nat) : Int) ∧ ((j + 1 : Nat) : Int) < (parts.length : Int) := ⟨by omega, by omega⟩
      have hgl : ga < wr.heap.size := Nat.lt_of_lt_of_le hgB hBj
      generalize txE e = U at *
      clear hce had he hEs
      by_cases h0 : j = 0
      · subst h0
        have HN2 : Hid (l ++ T ++ [40] ++ C (0 + 1) = A ++ U) := by show _ = _; rw [HN.out]; simp [com]
        clear HN
        obtain ⟨q0, q1, q2, q3, q4, q5⟩ := HCE.out wr HBEL.out
        simp only [Nat.zero_add, Nat.one_mul] at q0 q1 q2 q3 q4 q5 hidx hlt
        go_wp2_with fail
        refine (HAD.out _ _ _ HRj.out hBj HBEL.out (by simp [com] at hNl; omega)).mono ?_
        rintro en w5 ⟨v5, rfl, r5, g5⟩
        have HR5 : Hid (Bt B w5 v5 (l ++ T ++ [40] ++ C (0 + 1))) := by show Bt _ _ _ _; rw [HN2.out]; exact r5
        have HG5 : Hid (Gr w1 w5 v v5) := HGj.out.trans g5
        clear r5 g5 q0 q1 q2 q3 q4 q5
        go_wp2_with fail
        go_roundw
        case rel => exact ⟨0 + 1, by go_num, by omega, HR5, HG5⟩
        case measure => simp [intOf]; omega
      · have hc1 : decide ((1 : Int) < ((j + 1 : Nat) : Int)) = true := by simp; omega
        have HN2 : Hid (l ++ T ++ [40] ++ C (j + 1) = A ++ [44, 32] ++ U) := by show _ = _; rw [HN.out]; simp [com, h0]
        clear HN
        have hcm : (com j).length = 2 := by simp [com, h0]
        go_wp2_with (at_builtin; refine wpList_app_str rfl (.tmp 22) _ rfl rfl HRj.out hBj ⟨#[44, 32]⟩ rfl (by show _ + 2 ≤ _; omega) ?_)
        intro v4 w4 r4 g4
        have HR4 : Hid (Bt B w4 v4 (A ++ [44, 32])) := r4
        have HG4 : Hid (Gr w1 w4 v v4) := HGj.out.trans g4
        have hB4 : B ≤ w4.heap.size := Nat.le_trans hB1 HG4.out.size
        have HBEL4 : Hid (Below B w w4) := (HBW.out.mono hB).trans (HR.out.bel HG4.out hB1)
        clear r4 g4
        obtain ⟨q0, q1, q2, q3, q4, q5⟩ := HCE.out w4 HBEL4.out
        have hbx : w4.heap[gb]? = _ := HR.out.block HG4.out HBX.out (by decide)
        have hcl4 : w4.cell? ⟨gb, 3, none⟩ = some (.slice (some ⟨ga, oa, none⟩) parts.length pc) := by simp [World.cell?, hbx]
        clear hbx
        have hgl4 : ga < w4.heap.size := Nat.lt_of_lt_of_le hgB hB4
        go_wp2_with fail
        refine (HAD.out _ _ _ HR4.out hB4 HBEL4.out (by simp; omega)).mono ?_
        rintro en w5 ⟨v5, rfl, r5, g5⟩
        have HR5 : Hid (Bt B w5 v5 (l ++ T ++ [40] ++ C (j + 1))) := by show Bt _ _ _ _; rw [HN2.out]; exact r5
        have HG5 : Hid (Gr w1 w5 v v5) := HG4.out.trans g5
        clear r5 g5 q0 q1 q2 q3 q4 q5
        go_wp2_with fail
        go_roundw
        case rel => exact ⟨j + 1, by go_num, by omega, HR5, HG5⟩
        case measure => simp [intOf]; omega
    · have HM : Hid (l ++ T ++ [40] ++ M = A) := by show _ = _; rw [← HA.out, HC3.out j (by omega)]
      have hcmp : decide (((j + 1 : Nat) : Int) < (parts.length : Int)) = false := by simp; omega
      go_wp2_with (at_builtin; refine wpList_app_row rfl (.tmp 31) (.tmp 32) rfl rfl HRj.out hBj [41] rfl (by rfl) rfl (by simp) (by first | omega | (simp; omega)) ?_)
      intro v4 w4 r4 g4
      have HR4 : Hid (Bt B w4 v4 (l ++ (T ++ [40] ++ M ++ [41]))) := by show Bt _ _ _ _; rw [← HM.out] at r4; simpa using r4
      have HG4 : Hid (Gr w w4 v v4) := (HGj.out.trans g4).pre HBW.out (fun k hk => (HR0.out.lt k hk).2)
      clear r4 g4
      go_wp2
      go_ret
      exact ⟨v4, rfl, HR4.out, HG4.out⟩
end Go.Proofs.YtpgbfkdknggceaaGreatDoor
