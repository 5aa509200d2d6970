/-
  Package tree's addField and addBlock: what and its key, statements in brackets, behind a row.
  Conditions: as each theorem says.
-/
import Derived.Test.YtpgbfkdknggceaaGreatDoorTrAdd0
namespace Go.Proofs.YtpgbfkdknggceaaGreatDoor
open Go.RowKit TM
set_option linter.unusedVariables false
set_option maxRecDepth 100000 in
set_option maxHeartbeats 4000000 in
theorem addField_any {n : Nat} (hA : Small n) {parts : List TE} (hszp : szEs parts < n)
    {B : Nat} {w : World} {v : Value} {l : Bs} {vp : Value} (hR : Bt B w v l) (hB1 : B ≤ w.heap.size) (hG : Lg B w) (hE : EsIn B w vp parts) (hl : l.length + (fieldT (txEs parts)).length ≤ 1000000000) :
    Calls Tryz.prog 40 #[v, vp] w fun en w' => ∃ v', en = .returned v' ∧ Bt B w' v' (l ++ fieldT (txEs parts)) ∧ Gr w w' v v' := by
  obtain ⟨x, hx⟩ := pack hA hE hB1 hG 0 (by omega) hszp
  obtain ⟨y, hy⟩ := pack hA hE hB1 hG 1 (by omega) hszp
  have hT : fieldT (txEs parts) = pt (txEs parts) 0 ++ [91] ++ pt (txEs parts) 1 ++ [93] := rfl
  rw [hT] at hl ⊢
  clear hT
  generalize pt (txEs parts) 0 = T at hl hx ⊢
  generalize pt (txEs parts) 1 = U at hl hy ⊢
  have hlT : l.length + T.length + U.length + 2 ≤ 1000000000 := by simp at hl; omega
  have HX : Hid (Pk B w vp 0 T x) := hx
  have HY : Hid (Pk B w vp 1 U y) := hy
  have HR : Hid (Bt B w v l) := hR
  clear hE hl hx hy hA hszp hR hG
  go_enter Tryz.func40, Tryz.ntmps40
  go_wp2_with fail
  refine (HX.out.part _ (HR.out.bel (Gr.refl _ _) hB1)).mono ?_
  rintro e w2 ⟨rfl, b2⟩
  have HR2 : Hid (Bt B w2 v (l)) := by show Bt _ _ _ _; exact HR.out.below b2
  have HG2 : Hid (Gr w w2 v v) := by show Gr _ _ _ _; exact (Gr.refl _ _).below b2
  have hB2 : B ≤ w2.heap.size := Nat.le_trans hB1 HG2.out.size
  clear b2
  go_wp2_with fail
  refine (HX.out.add _ _ _ HR2.out hB2 (HR.out.bel (HG2.out) hB1) (by first | omega | (simp; omega))).mono ?_
  rintro e w3 ⟨v3, rfl, r3, g3⟩
  have HR3 : Hid (Bt B w3 v3 (l ++ T)) := by show Bt _ _ _ _; simpa using r3
  have HG3 : Hid (Gr w w3 v v3) := by show Gr _ _ _ _; exact (HG2.out).trans g3
  have hB3 : B ≤ w3.heap.size := Nat.le_trans hB1 HG3.out.size
  clear r3 g3
  go_wp2_with (at_builtin; refine wpList_app_row rfl (.tmp 8) (.tmp 9) rfl rfl HR3.out hB3 [91] rfl (by rfl) rfl (by simp) (by first | omega | (simp; omega)) ?_)
  intro v4 w4 r4 g4
  have HR4 : Hid (Bt B w4 v4 (l ++ T ++ [91])) := by show Bt _ _ _ _; simpa using r4
  have HG4 : Hid (Gr w w4 v v4) := by show Gr _ _ _ _; exact (HG3.out).trans g4
  have hB4 : B ≤ w4.heap.size := Nat.le_trans hB1 HG4.out.size
  clear r4 g4
  go_wp2_with fail
  refine (HY.out.part _ (HR.out.bel (HG4.out) hB1)).mono ?_
  rintro e w5 ⟨rfl, b5⟩
  have HR5 : Hid (Bt B w5 v4 (l ++ T ++ [91])) := by show Bt _ _ _ _; exact HR4.out.below b5
  have HG5 : Hid (Gr w w5 v v4) := by show Gr _ _ _ _; exact (HG4.out).below b5
  have hB5 : B ≤ w5.heap.size := Nat.le_trans hB1 HG5.out.size
  clear b5
  go_wp2_with fail
  refine (HY.out.add _ _ _ HR5.out hB5 (HR.out.bel (HG5.out) hB1) (by first | omega | (simp; omega))).mono ?_
  rintro e w6 ⟨v6, rfl, r6, g6⟩
  have HR6 : Hid (Bt B w6 v6 (l ++ T ++ [91] ++ U)) := by show Bt _ _ _ _; simpa using r6
  have HG6 : Hid (Gr w w6 v v6) := by show Gr _ _ _ _; exact (HG5.out).trans g6
  have hB6 : B ≤ w6.heap.size := Nat.le_trans hB1 HG6.out.size
  clear r6 g6
  go_wp2_with (at_builtin; refine wpList_app_row rfl (.tmp 14) (.tmp 15) rfl rfl HR6.out hB6 [93] rfl (by rfl) rfl (by simp) (by first | omega | (simp; omega)) ?_)
  intro v7 w7 r7 g7
  have HR7 : Hid (Bt B w7 v7 (l ++ T ++ [91] ++ U ++ [93])) := by show Bt _ _ _ _; simpa using r7
  have HG7 : Hid (Gr w w7 v v7) := by show Gr _ _ _ _; exact (HG6.out).trans g7
  have hB7 : B ≤ w7.heap.size := Nat.le_trans hB1 HG7.out.size
  clear r7 g7
  have HRz : Hid (Bt B w7 v7 (l ++ (T ++ [91] ++ U ++ [93]))) := by show Bt _ _ _ _; simpa using HR7.out
  have HGz : Hid (Gr w w7 v v7) := by show Gr _ _ _ _; exact HG7.out
  go_wp2
  go_ret
  exact ⟨v7, rfl, HRz.out, HGz.out⟩
set_option maxRecDepth 100000 in
set_option maxHeartbeats 4000000 in
theorem addBlock_any {n : Nat} (hA : Small n) {s : List TS} (hsz : szSs s < n)
    {B : Nat} {w : World} {v : Value} {l : Bs} {vs : Value} (hR : Bt B w v l) (hB1 : B ≤ w.heap.size) (hG : Lg B w) (hE : SsIn B w vs s) (hl : l.length + (blockT (txSs s)).length ≤ 1000000000) :
    Calls Tryz.prog 57 #[v, vs] w fun en w' => ∃ v', en = .returned v' ∧ Bt B w' v' (l ++ blockT (txSs s)) ∧ Gr w w' v v' := by
  have hs := hA.s s hsz
  have HS : Hid (∀ W u X, Bt B W u X → B ≤ W.heap.size → Below B w W → X.length + (txSs s).length ≤ 1000000000 → Calls Tryz.prog 21 #[u, vs] W fun en W2 => ∃ u2, en = .returned u2 ∧ Bt B W2 u2 (X ++ txSs s) ∧ Gr W W2 u u2) := fun W u X h1 h2 h3 h4 => hs B W u X vs h1 h2 (hG.on h3) (hE.on h3) h4
  have hT : blockT (txSs s) = [123, 10] ++ txSs s ++ [125] := rfl
  rw [hT] at hl ⊢
  generalize txSs s = T at hl HS ⊢
  have hlT : l.length + T.length + 3 ≤ 1000000000 := by simp at hl; omega
  have HR : Hid (Bt B w v l) := hR
  clear hE hl hA hsz hR hG hT hs
  go_enter Tryz.func57, Tryz.ntmps57
  go_wp2_with (at_builtin; refine wpList_app_str rfl (.tmp 5) _ rfl rfl HR.out hB1 ⟨#[123, 10]⟩ rfl (by show _ + 2 ≤ _; first | omega | (simp; omega)) ?_)
  intro v2 w2 r2 g2
  have HR2 : Hid (Bt B w2 v2 (l ++ [123, 10])) := by show Bt _ _ _ _; simpa using r2
  have HG2 : Hid (Gr w w2 v v2) := by show Gr _ _ _ _; exact (Gr.refl _ _).trans g2
  have hB2 : B ≤ w2.heap.size := Nat.le_trans hB1 HG2.out.size
  clear r2 g2
  go_wp2_with fail
  refine (HS.out _ _ _ HR2.out hB2 (HR.out.bel (HG2.out) hB1) (by first | omega | (simp; omega))).mono ?_
  rintro e w3 ⟨v3, rfl, r3, g3⟩
  have HR3 : Hid (Bt B w3 v3 (l ++ [123, 10] ++ T)) := by show Bt _ _ _ _; simpa using r3
  have HG3 : Hid (Gr w w3 v v3) := by show Gr _ _ _ _; exact (HG2.out).trans g3
  have hB3 : B ≤ w3.heap.size := Nat.le_trans hB1 HG3.out.size
  clear r3 g3
  go_wp2_with (at_builtin; refine wpList_app_row rfl (.tmp 9) (.tmp 10) rfl rfl HR3.out hB3 [125] rfl (by rfl) rfl (by simp) (by first | omega | (simp; omega)) ?_)
  intro v4 w4 r4 g4
  have HR4 : Hid (Bt B w4 v4 (l ++ [123, 10] ++ T ++ [125])) := by show Bt _ _ _ _; simpa using r4
  have HG4 : Hid (Gr w w4 v v4) := by show Gr _ _ _ _; exact (HG3.out).trans g4
  have hB4 : B ≤ w4.heap.size := Nat.le_trans hB1 HG4.out.size
  clear r4 g4
  have HRz : Hid (Bt B w4 v4 (l ++ ([123, 10] ++ T ++ [125]))) := by show Bt _ _ _ _; simpa using HR4.out
  have HGz : Hid (Gr w w4 v v4) := by show Gr _ _ _ _; exact HG4.out
  go_wp2
  go_ret
  exact ⟨v4, rfl, HRz.out, HGz.out⟩
end Go.Proofs.YtpgbfkdknggceaaGreatDoor
