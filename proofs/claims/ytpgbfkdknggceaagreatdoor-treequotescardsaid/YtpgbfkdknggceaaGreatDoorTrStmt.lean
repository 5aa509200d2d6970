/-
  Package tree's addStmt: a statement of each kind, behind a row.
  Conditions: as each theorem says.
-/
import Derived.Test.YtpgbfkdknggceaaGreatDoorTrBlocks
import Derived.Test.YtpgbfkdknggceaaGreatDoorTrSimple
namespace Go.Proofs.YtpgbfkdknggceaaGreatDoor
open Go.RowKit TM
set_option linter.unusedVariables false
set_option maxRecDepth 100000 in
set_option maxHeartbeats 4000000 in
theorem addStmt0 {name : ByteArray} {exprs : List TE} {body els : List TS} {pos : Int} {pa na ba : Option Addr} {pc nc bc : Nat} {B : Nat} {w : World} {v : Value} {l M : Bs} (hR : Bt B w v l) (hB : B ≤ w.heap.size) (hlM : l.length + M.length + 1 ≤ 1000000000)
    (HM : Hid (∀ W u X, Bt B W u X → B ≤ W.heap.size → Below B w W → X.length + M.length ≤ 1000000000 → Calls Tryz.prog 36 #[u, .agg #[.int .i64 0, .string name, .slice pa exprs.length pc, .slice na body.length nc, .slice ba els.length bc, .int .i64 pos]] W fun en W2 => ∃ u2, en = .returned u2 ∧ Bt B W2 u2 (X ++ M) ∧ Gr W W2 u u2)) :
    Calls Tryz.prog 22 #[v, .agg #[.int .i64 0, .string name, .slice pa exprs.length pc, .slice na body.length nc, .slice ba els.length bc, .int .i64 pos]] w fun en w' => ∃ v', en = .returned v' ∧ Bt B w' v' (l ++ (M ++ [59] ++ [10])) ∧ Gr w w' v v' := by
  have HR0 : Hid (Bt B w v l) := hR
  clear hR
  go_enter Tryz.func22, Tryz.ntmps22
  go_wp2_with fail
  obtain ⟨w1, hw1⟩ : ∃ w1, w1 = w.alloc (.cells #[.int .i64 0, .string name, .slice pa exprs.length pc, .slice na body.length nc, .slice ba els.length bc, .int .i64 pos] 30) := ⟨_, rfl⟩
  obtain ⟨gb, hgb⟩ : ∃ gb, gb = w.heap.size := ⟨_, rfl⟩
  have HBW : Hid (Below w.heap.size w w1) := by rw [hw1]; exact (Below.refl _ _).alloc (Nat.le_refl _) _
  have HBX : Hid (w1.heap[gb]? = some (.cells #[.int .i64 0, .string name, .slice pa exprs.length pc, .slice na body.length nc, .slice ba els.length bc, .int .i64 pos] 30 (0, 0))) := by rw [hw1, hgb]; exact heap_alloc_new _ _
  have HR : Hid (Bt B w1 v l) := by rw [hw1]; exact HR0.out.alloc _
  have hB1 : B ≤ w1.heap.size := Nat.le_trans hB HBW.out.size
  rw [← hw1, ← hgb]
  clear hw1 hgb
  refine (HM.out _ _ _ HR.out hB1 (HBW.out.mono hB) (by first | omega | (simp; omega))).mono ?_
  rintro e w2 ⟨v2, rfl, r2, g2⟩
  have HR2 : Hid (Bt B w2 v2 (l ++ M)) := by show Bt _ _ _ _; simpa using r2
  have HG2 : Hid (Gr w1 w2 v v2) := by show Gr _ _ _ _; exact (Gr.refl _ _).trans g2
  have hB2 : B ≤ w2.heap.size := Nat.le_trans hB1 HG2.out.size
  clear r2 g2
  go_wp2_with (at_builtin; refine wpList_app_row rfl (.tmp 9) (.tmp 10) rfl rfl HR2.out hB2 [59] rfl (by rfl) rfl (by simp) (by first | omega | (simp; omega)) ?_)
  intro v3 w3 r3 g3
  have HR3 : Hid (Bt B w3 v3 (l ++ M ++ [59])) := by show Bt _ _ _ _; simpa using r3
  have HG3 : Hid (Gr w1 w3 v v3) := by show Gr _ _ _ _; exact (HG2.out).trans g3
  have hB3 : B ≤ w3.heap.size := Nat.le_trans hB1 HG3.out.size
  clear r3 g3
  go_wp2_with (at_builtin; refine wpList_app_row rfl (.tmp 19) (.tmp 20) rfl rfl HR3.out hB3 [10] rfl (by rfl) rfl (by simp) (by first | omega | (simp; omega)) ?_)
  intro v4 w4 r4 g4
  have HR4 : Hid (Bt B w4 v4 (l ++ M ++ [59] ++ [10])) := by show Bt _ _ _ _; simpa using r4
  have HG4 : Hid (Gr w1 w4 v v4) := by show Gr _ _ _ _; exact (HG3.out).trans g4
  have hB4 : B ≤ w4.heap.size := Nat.le_trans hB1 HG4.out.size
  clear r4 g4
  have HRz : Hid (Bt B w4 v4 (l ++ (M ++ [59] ++ [10]))) := by show Bt _ _ _ _; simpa using HR4.out
  have HGz : Hid (Gr w w4 v v4) := by show Gr _ _ _ _; exact (HG4.out).pre HBW.out (fun k hk => (HR0.out.lt k hk).2)
  go_wp2
  go_ret
  exact ⟨v4, rfl, HRz.out, HGz.out⟩
set_option maxRecDepth 100000 in
set_option maxHeartbeats 4000000 in
theorem addStmt1 {name : ByteArray} {exprs : List TE} {body els : List TS} {pos : Int} {pa na ba : Option Addr} {pc nc bc : Nat} {B : Nat} {w : World} {v : Value} {l M : Bs} (hR : Bt B w v l) (hB : B ≤ w.heap.size) (hlM : l.length + M.length + 1 ≤ 1000000000)
    (HM : Hid (∀ W u X, Bt B W u X → B ≤ W.heap.size → Below B w W → X.length + M.length ≤ 1000000000 → Calls Tryz.prog 36 #[u, .agg #[.int .i64 1, .string name, .slice pa exprs.length pc, .slice na body.length nc, .slice ba els.length bc, .int .i64 pos]] W fun en W2 => ∃ u2, en = .returned u2 ∧ Bt B W2 u2 (X ++ M) ∧ Gr W W2 u u2)) :
    Calls Tryz.prog 22 #[v, .agg #[.int .i64 1, .string name, .slice pa exprs.length pc, .slice na body.length nc, .slice ba els.length bc, .int .i64 pos]] w fun en w' => ∃ v', en = .returned v' ∧ Bt B w' v' (l ++ (M ++ [59] ++ [10])) ∧ Gr w w' v v' := by
  have HR0 : Hid (Bt B w v l) := hR
  clear hR
  go_enter Tryz.func22, Tryz.ntmps22
  go_wp2_with fail
  obtain ⟨w1, hw1⟩ : ∃ w1, w1 = w.alloc (.cells #[.int .i64 1, .string name, .slice pa exprs.length pc, .slice na body.length nc, .slice ba els.length bc, .int .i64 pos] 30) := ⟨_, rfl⟩
  obtain ⟨gb, hgb⟩ : ∃ gb, gb = w.heap.size := ⟨_, rfl⟩
  have HBW : Hid (Below w.heap.size w w1) := by rw [hw1]; exact (Below.refl _ _).alloc (Nat.le_refl _) _
  have HBX : Hid (w1.heap[gb]? = some (.cells #[.int .i64 1, .string name, .slice pa exprs.length pc, .slice na body.length nc, .slice ba els.length bc, .int .i64 pos] 30 (0, 0))) := by rw [hw1, hgb]; exact heap_alloc_new _ _
  have HR : Hid (Bt B w1 v l) := by rw [hw1]; exact HR0.out.alloc _
  have hB1 : B ≤ w1.heap.size := Nat.le_trans hB HBW.out.size
  rw [← hw1, ← hgb]
  clear hw1 hgb
  refine (HM.out _ _ _ HR.out hB1 (HBW.out.mono hB) (by first | omega | (simp; omega))).mono ?_
  rintro e w2 ⟨v2, rfl, r2, g2⟩
  have HR2 : Hid (Bt B w2 v2 (l ++ M)) := by show Bt _ _ _ _; simpa using r2
  have HG2 : Hid (Gr w1 w2 v v2) := by show Gr _ _ _ _; exact (Gr.refl _ _).trans g2
  have hB2 : B ≤ w2.heap.size := Nat.le_trans hB1 HG2.out.size
  clear r2 g2
  go_wp2_with (at_builtin; refine wpList_app_row rfl (.tmp 9) (.tmp 10) rfl rfl HR2.out hB2 [59] rfl (by rfl) rfl (by simp) (by first | omega | (simp; omega)) ?_)
  intro v3 w3 r3 g3
  have HR3 : Hid (Bt B w3 v3 (l ++ M ++ [59])) := by show Bt _ _ _ _; simpa using r3
  have HG3 : Hid (Gr w1 w3 v v3) := by show Gr _ _ _ _; exact (HG2.out).trans g3
  have hB3 : B ≤ w3.heap.size := Nat.le_trans hB1 HG3.out.size
  clear r3 g3
  go_wp2_with (at_builtin; refine wpList_app_row rfl (.tmp 19) (.tmp 20) rfl rfl HR3.out hB3 [10] rfl (by rfl) rfl (by simp) (by first | omega | (simp; omega)) ?_)
  intro v4 w4 r4 g4
  have HR4 : Hid (Bt B w4 v4 (l ++ M ++ [59] ++ [10])) := by show Bt _ _ _ _; simpa using r4
  have HG4 : Hid (Gr w1 w4 v v4) := by show Gr _ _ _ _; exact (HG3.out).trans g4
  have hB4 : B ≤ w4.heap.size := Nat.le_trans hB1 HG4.out.size
  clear r4 g4
  have HRz : Hid (Bt B w4 v4 (l ++ (M ++ [59] ++ [10]))) := by show Bt _ _ _ _; simpa using HR4.out
  have HGz : Hid (Gr w w4 v v4) := by show Gr _ _ _ _; exact (HG4.out).pre HBW.out (fun k hk => (HR0.out.lt k hk).2)
  go_wp2
  go_ret
  exact ⟨v4, rfl, HRz.out, HGz.out⟩
set_option maxRecDepth 100000 in
set_option maxHeartbeats 4000000 in
theorem addStmt2 {name : ByteArray} {exprs : List TE} {body els : List TS} {pos : Int} {pa na ba : Option Addr} {pc nc bc : Nat} {B : Nat} {w : World} {v : Value} {l M : Bs} (hR : Bt B w v l) (hB : B ≤ w.heap.size) (hlM : l.length + M.length + 1 ≤ 1000000000)
    (HM : Hid (∀ W u X, Bt B W u X → B ≤ W.heap.size → Below B w W → X.length + M.length ≤ 1000000000 → Calls Tryz.prog 36 #[u, .agg #[.int .i64 2, .string name, .slice pa exprs.length pc, .slice na body.length nc, .slice ba els.length bc, .int .i64 pos]] W fun en W2 => ∃ u2, en = .returned u2 ∧ Bt B W2 u2 (X ++ M) ∧ Gr W W2 u u2)) :
    Calls Tryz.prog 22 #[v, .agg #[.int .i64 2, .string name, .slice pa exprs.length pc, .slice na body.length nc, .slice ba els.length bc, .int .i64 pos]] w fun en w' => ∃ v', en = .returned v' ∧ Bt B w' v' (l ++ (M ++ [59] ++ [10])) ∧ Gr w w' v v' := by
  have HR0 : Hid (Bt B w v l) := hR
  clear hR
  go_enter Tryz.func22, Tryz.ntmps22
  go_wp2_with fail
  obtain ⟨w1, hw1⟩ : ∃ w1, w1 = w.alloc (.cells #[.int .i64 2, .string name, .slice pa exprs.length pc, .slice na body.length nc, .slice ba els.length bc, .int .i64 pos] 30) := ⟨_, rfl⟩
  obtain ⟨gb, hgb⟩ : ∃ gb, gb = w.heap.size := ⟨_, rfl⟩
  have HBW : Hid (Below w.heap.size w w1) := by rw [hw1]; exact (Below.refl _ _).alloc (Nat.le_refl _) _
  have HBX : Hid (w1.heap[gb]? = some (.cells #[.int .i64 2, .string name, .slice pa exprs.length pc, .slice na body.length nc, .slice ba els.length bc, .int .i64 pos] 30 (0, 0))) := by rw [hw1, hgb]; exact heap_alloc_new _ _
  have HR : Hid (Bt B w1 v l) := by rw [hw1]; exact HR0.out.alloc _
  have hB1 : B ≤ w1.heap.size := Nat.le_trans hB HBW.out.size
  rw [← hw1, ← hgb]
  clear hw1 hgb
  refine (HM.out _ _ _ HR.out hB1 (HBW.out.mono hB) (by first | omega | (simp; omega))).mono ?_
  rintro e w2 ⟨v2, rfl, r2, g2⟩
  have HR2 : Hid (Bt B w2 v2 (l ++ M)) := by show Bt _ _ _ _; simpa using r2
  have HG2 : Hid (Gr w1 w2 v v2) := by show Gr _ _ _ _; exact (Gr.refl _ _).trans g2
  have hB2 : B ≤ w2.heap.size := Nat.le_trans hB1 HG2.out.size
  clear r2 g2
  go_wp2_with (at_builtin; refine wpList_app_row rfl (.tmp 9) (.tmp 10) rfl rfl HR2.out hB2 [59] rfl (by rfl) rfl (by simp) (by first | omega | (simp; omega)) ?_)
  intro v3 w3 r3 g3
  have HR3 : Hid (Bt B w3 v3 (l ++ M ++ [59])) := by show Bt _ _ _ _; simpa using r3
  have HG3 : Hid (Gr w1 w3 v v3) := by show Gr _ _ _ _; exact (HG2.out).trans g3
  have hB3 : B ≤ w3.heap.size := Nat.le_trans hB1 HG3.out.size
  clear r3 g3
  go_wp2_with (at_builtin; refine wpList_app_row rfl (.tmp 19) (.tmp 20) rfl rfl HR3.out hB3 [10] rfl (by rfl) rfl (by simp) (by first | omega | (simp; omega)) ?_)
  intro v4 w4 r4 g4
  have HR4 : Hid (Bt B w4 v4 (l ++ M ++ [59] ++ [10])) := by show Bt _ _ _ _; simpa using r4
  have HG4 : Hid (Gr w1 w4 v v4) := by show Gr _ _ _ _; exact (HG3.out).trans g4
  have hB4 : B ≤ w4.heap.size := Nat.le_trans hB1 HG4.out.size
  clear r4 g4
  have HRz : Hid (Bt B w4 v4 (l ++ (M ++ [59] ++ [10]))) := by show Bt _ _ _ _; simpa using HR4.out
  have HGz : Hid (Gr w w4 v v4) := by show Gr _ _ _ _; exact (HG4.out).pre HBW.out (fun k hk => (HR0.out.lt k hk).2)
  go_wp2
  go_ret
  exact ⟨v4, rfl, HRz.out, HGz.out⟩
set_option maxRecDepth 100000 in
set_option maxHeartbeats 4000000 in
theorem addStmt3 {name : ByteArray} {exprs : List TE} {body els : List TS} {pos : Int} {pa na ba : Option Addr} {pc nc bc : Nat} {B : Nat} {w : World} {v : Value} {l M : Bs} (hR : Bt B w v l) (hB : B ≤ w.heap.size) (hlM : l.length + M.length + 1 ≤ 1000000000)
    (HM : Hid (∀ W u X, Bt B W u X → B ≤ W.heap.size → Below B w W → X.length + M.length ≤ 1000000000 → Calls Tryz.prog 35 #[u, .agg #[.int .i64 3, .string name, .slice pa exprs.length pc, .slice na body.length nc, .slice ba els.length bc, .int .i64 pos]] W fun en W2 => ∃ u2, en = .returned u2 ∧ Bt B W2 u2 (X ++ M) ∧ Gr W W2 u u2)) :
    Calls Tryz.prog 22 #[v, .agg #[.int .i64 3, .string name, .slice pa exprs.length pc, .slice na body.length nc, .slice ba els.length bc, .int .i64 pos]] w fun en w' => ∃ v', en = .returned v' ∧ Bt B w' v' (l ++ (M ++ [10])) ∧ Gr w w' v v' := by
  have HR0 : Hid (Bt B w v l) := hR
  clear hR
  go_enter Tryz.func22, Tryz.ntmps22
  go_wp2_with fail
  obtain ⟨w1, hw1⟩ : ∃ w1, w1 = w.alloc (.cells #[.int .i64 3, .string name, .slice pa exprs.length pc, .slice na body.length nc, .slice ba els.length bc, .int .i64 pos] 30) := ⟨_, rfl⟩
  obtain ⟨gb, hgb⟩ : ∃ gb, gb = w.heap.size := ⟨_, rfl⟩
  have HBW : Hid (Below w.heap.size w w1) := by rw [hw1]; exact (Below.refl _ _).alloc (Nat.le_refl _) _
  have HBX : Hid (w1.heap[gb]? = some (.cells #[.int .i64 3, .string name, .slice pa exprs.length pc, .slice na body.length nc, .slice ba els.length bc, .int .i64 pos] 30 (0, 0))) := by rw [hw1, hgb]; exact heap_alloc_new _ _
  have HR : Hid (Bt B w1 v l) := by rw [hw1]; exact HR0.out.alloc _
  have hB1 : B ≤ w1.heap.size := Nat.le_trans hB HBW.out.size
  rw [← hw1, ← hgb]
  clear hw1 hgb
  refine (HM.out _ _ _ HR.out hB1 (HBW.out.mono hB) (by first | omega | (simp; omega))).mono ?_
  rintro e w2 ⟨v2, rfl, r2, g2⟩
  have HR2 : Hid (Bt B w2 v2 (l ++ M)) := by show Bt _ _ _ _; simpa using r2
  have HG2 : Hid (Gr w1 w2 v v2) := by show Gr _ _ _ _; exact (Gr.refl _ _).trans g2
  have hB2 : B ≤ w2.heap.size := Nat.le_trans hB1 HG2.out.size
  clear r2 g2
  go_wp2_with (at_builtin; refine wpList_app_row rfl (.tmp 19) (.tmp 20) rfl rfl HR2.out hB2 [10] rfl (by rfl) rfl (by simp) (by first | omega | (simp; omega)) ?_)
  intro v3 w3 r3 g3
  have HR3 : Hid (Bt B w3 v3 (l ++ M ++ [10])) := by show Bt _ _ _ _; simpa using r3
  have HG3 : Hid (Gr w1 w3 v v3) := by show Gr _ _ _ _; exact (HG2.out).trans g3
  have hB3 : B ≤ w3.heap.size := Nat.le_trans hB1 HG3.out.size
  clear r3 g3
  have HRz : Hid (Bt B w3 v3 (l ++ (M ++ [10]))) := by show Bt _ _ _ _; simpa using HR3.out
  have HGz : Hid (Gr w w3 v v3) := by show Gr _ _ _ _; exact (HG3.out).pre HBW.out (fun k hk => (HR0.out.lt k hk).2)
  go_wp2
  go_ret
  exact ⟨v3, rfl, HRz.out, HGz.out⟩
set_option maxRecDepth 100000 in
set_option maxHeartbeats 4000000 in
theorem addStmt4 {name : ByteArray} {exprs : List TE} {body els : List TS} {pos : Int} {pa na ba : Option Addr} {pc nc bc : Nat} {B : Nat} {w : World} {v : Value} {l M : Bs} (hR : Bt B w v l) (hB : B ≤ w.heap.size) (hlM : l.length + M.length + 1 ≤ 1000000000)
    (HM : Hid (∀ W u X, Bt B W u X → B ≤ W.heap.size → Below B w W → X.length + M.length ≤ 1000000000 → Calls Tryz.prog 35 #[u, .agg #[.int .i64 4, .string name, .slice pa exprs.length pc, .slice na body.length nc, .slice ba els.length bc, .int .i64 pos]] W fun en W2 => ∃ u2, en = .returned u2 ∧ Bt B W2 u2 (X ++ M) ∧ Gr W W2 u u2)) :
    Calls Tryz.prog 22 #[v, .agg #[.int .i64 4, .string name, .slice pa exprs.length pc, .slice na body.length nc, .slice ba els.length bc, .int .i64 pos]] w fun en w' => ∃ v', en = .returned v' ∧ Bt B w' v' (l ++ (M ++ [10])) ∧ Gr w w' v v' := by
  have HR0 : Hid (Bt B w v l) := hR
  clear hR
  go_enter Tryz.func22, Tryz.ntmps22
  go_wp2_with fail
  obtain ⟨w1, hw1⟩ : ∃ w1, w1 = w.alloc (.cells #[.int .i64 4, .string name, .slice pa exprs.length pc, .slice na body.length nc, .slice ba els.length bc, .int .i64 pos] 30) := ⟨_, rfl⟩
  obtain ⟨gb, hgb⟩ : ∃ gb, gb = w.heap.size := ⟨_, rfl⟩
  have HBW : Hid (Below w.heap.size w w1) := by rw [hw1]; exact (Below.refl _ _).alloc (Nat.le_refl _) _
  have HBX : Hid (w1.heap[gb]? = some (.cells #[.int .i64 4, .string name, .slice pa exprs.length pc, .slice na body.length nc, .slice ba els.length bc, .int .i64 pos] 30 (0, 0))) := by rw [hw1, hgb]; exact heap_alloc_new _ _
  have HR : Hid (Bt B w1 v l) := by rw [hw1]; exact HR0.out.alloc _
  have hB1 : B ≤ w1.heap.size := Nat.le_trans hB HBW.out.size
  rw [← hw1, ← hgb]
  clear hw1 hgb
  refine (HM.out _ _ _ HR.out hB1 (HBW.out.mono hB) (by first | omega | (simp; omega))).mono ?_
  rintro e w2 ⟨v2, rfl, r2, g2⟩
  have HR2 : Hid (Bt B w2 v2 (l ++ M)) := by show Bt _ _ _ _; simpa using r2
  have HG2 : Hid (Gr w1 w2 v v2) := by show Gr _ _ _ _; exact (Gr.refl _ _).trans g2
  have hB2 : B ≤ w2.heap.size := Nat.le_trans hB1 HG2.out.size
  clear r2 g2
  go_wp2_with (at_builtin; refine wpList_app_row rfl (.tmp 19) (.tmp 20) rfl rfl HR2.out hB2 [10] rfl (by rfl) rfl (by simp) (by first | omega | (simp; omega)) ?_)
  intro v3 w3 r3 g3
  have HR3 : Hid (Bt B w3 v3 (l ++ M ++ [10])) := by show Bt _ _ _ _; simpa using r3
  have HG3 : Hid (Gr w1 w3 v v3) := by show Gr _ _ _ _; exact (HG2.out).trans g3
  have hB3 : B ≤ w3.heap.size := Nat.le_trans hB1 HG3.out.size
  clear r3 g3
  have HRz : Hid (Bt B w3 v3 (l ++ (M ++ [10]))) := by show Bt _ _ _ _; simpa using HR3.out
  have HGz : Hid (Gr w w3 v v3) := by show Gr _ _ _ _; exact (HG3.out).pre HBW.out (fun k hk => (HR0.out.lt k hk).2)
  go_wp2
  go_ret
  exact ⟨v3, rfl, HRz.out, HGz.out⟩
set_option maxRecDepth 100000 in
set_option maxHeartbeats 4000000 in
theorem addStmt5 {name : ByteArray} {exprs : List TE} {body els : List TS} {pos : Int} {pa na ba : Option Addr} {pc nc bc : Nat} {B : Nat} {w : World} {v : Value} {l M : Bs} (hR : Bt B w v l) (hB : B ≤ w.heap.size) (hlM : l.length + M.length + 1 ≤ 1000000000)
    (HM : Hid (∀ W u X, Bt B W u X → B ≤ W.heap.size → Below B w W → X.length + M.length ≤ 1000000000 → Calls Tryz.prog 36 #[u, .agg #[.int .i64 5, .string name, .slice pa exprs.length pc, .slice na body.length nc, .slice ba els.length bc, .int .i64 pos]] W fun en W2 => ∃ u2, en = .returned u2 ∧ Bt B W2 u2 (X ++ M) ∧ Gr W W2 u u2)) :
    Calls Tryz.prog 22 #[v, .agg #[.int .i64 5, .string name, .slice pa exprs.length pc, .slice na body.length nc, .slice ba els.length bc, .int .i64 pos]] w fun en w' => ∃ v', en = .returned v' ∧ Bt B w' v' (l ++ (M ++ [59] ++ [10])) ∧ Gr w w' v v' := by
  have HR0 : Hid (Bt B w v l) := hR
  clear hR
  go_enter Tryz.func22, Tryz.ntmps22
  go_wp2_with fail
  obtain ⟨w1, hw1⟩ : ∃ w1, w1 = w.alloc (.cells #[.int .i64 5, .string name, .slice pa exprs.length pc, .slice na body.length nc, .slice ba els.length bc, .int .i64 pos] 30) := ⟨_, rfl⟩
  obtain ⟨gb, hgb⟩ : ∃ gb, gb = w.heap.size := ⟨_, rfl⟩
  have HBW : Hid (Below w.heap.size w w1) := by rw [hw1]; exact (Below.refl _ _).alloc (Nat.le_refl _) _
  have HBX : Hid (w1.heap[gb]? = some (.cells #[.int .i64 5, .string name, .slice pa exprs.length pc, .slice na body.length nc, .slice ba els.length bc, .int .i64 pos] 30 (0, 0))) := by rw [hw1, hgb]; exact heap_alloc_new _ _
  have HR : Hid (Bt B w1 v l) := by rw [hw1]; exact HR0.out.alloc _
  have hB1 : B ≤ w1.heap.size := Nat.le_trans hB HBW.out.size
  rw [← hw1, ← hgb]
  clear hw1 hgb
  refine (HM.out _ _ _ HR.out hB1 (HBW.out.mono hB) (by first | omega | (simp; omega))).mono ?_
  rintro e w2 ⟨v2, rfl, r2, g2⟩
  have HR2 : Hid (Bt B w2 v2 (l ++ M)) := by show Bt _ _ _ _; simpa using r2
  have HG2 : Hid (Gr w1 w2 v v2) := by show Gr _ _ _ _; exact (Gr.refl _ _).trans g2
  have hB2 : B ≤ w2.heap.size := Nat.le_trans hB1 HG2.out.size
  clear r2 g2
  go_wp2_with (at_builtin; refine wpList_app_row rfl (.tmp 9) (.tmp 10) rfl rfl HR2.out hB2 [59] rfl (by rfl) rfl (by simp) (by first | omega | (simp; omega)) ?_)
  intro v3 w3 r3 g3
  have HR3 : Hid (Bt B w3 v3 (l ++ M ++ [59])) := by show Bt _ _ _ _; simpa using r3
  have HG3 : Hid (Gr w1 w3 v v3) := by show Gr _ _ _ _; exact (HG2.out).trans g3
  have hB3 : B ≤ w3.heap.size := Nat.le_trans hB1 HG3.out.size
  clear r3 g3
  go_wp2_with (at_builtin; refine wpList_app_row rfl (.tmp 19) (.tmp 20) rfl rfl HR3.out hB3 [10] rfl (by rfl) rfl (by simp) (by first | omega | (simp; omega)) ?_)
  intro v4 w4 r4 g4
  have HR4 : Hid (Bt B w4 v4 (l ++ M ++ [59] ++ [10])) := by show Bt _ _ _ _; simpa using r4
  have HG4 : Hid (Gr w1 w4 v v4) := by show Gr _ _ _ _; exact (HG3.out).trans g4
  have hB4 : B ≤ w4.heap.size := Nat.le_trans hB1 HG4.out.size
  clear r4 g4
  have HRz : Hid (Bt B w4 v4 (l ++ (M ++ [59] ++ [10]))) := by show Bt _ _ _ _; simpa using HR4.out
  have HGz : Hid (Gr w w4 v v4) := by show Gr _ _ _ _; exact (HG4.out).pre HBW.out (fun k hk => (HR0.out.lt k hk).2)
  go_wp2
  go_ret
  exact ⟨v4, rfl, HRz.out, HGz.out⟩
set_option maxRecDepth 100000 in
set_option maxHeartbeats 4000000 in
theorem addStmt6 {name : ByteArray} {exprs : List TE} {body els : List TS} {pos : Int} {pa na ba : Option Addr} {pc nc bc : Nat} {B : Nat} {w : World} {v : Value} {l M : Bs} (hR : Bt B w v l) (hB : B ≤ w.heap.size) (hlM : l.length + M.length + 1 ≤ 1000000000)
    (HM : Hid (∀ W u X, Bt B W u X → B ≤ W.heap.size → Below B w W → X.length + M.length ≤ 1000000000 → Calls Tryz.prog 36 #[u, .agg #[.int .i64 6, .string name, .slice pa exprs.length pc, .slice na body.length nc, .slice ba els.length bc, .int .i64 pos]] W fun en W2 => ∃ u2, en = .returned u2 ∧ Bt B W2 u2 (X ++ M) ∧ Gr W W2 u u2)) :
    Calls Tryz.prog 22 #[v, .agg #[.int .i64 6, .string name, .slice pa exprs.length pc, .slice na body.length nc, .slice ba els.length bc, .int .i64 pos]] w fun en w' => ∃ v', en = .returned v' ∧ Bt B w' v' (l ++ (M ++ [59] ++ [10])) ∧ Gr w w' v v' := by
  have HR0 : Hid (Bt B w v l) := hR
  clear hR
  go_enter Tryz.func22, Tryz.ntmps22
  go_wp2_with fail
  obtain ⟨w1, hw1⟩ : ∃ w1, w1 = w.alloc (.cells #[.int .i64 6, .string name, .slice pa exprs.length pc, .slice na body.length nc, .slice ba els.length bc, .int .i64 pos] 30) := ⟨_, rfl⟩
  obtain ⟨gb, hgb⟩ : ∃ gb, gb = w.heap.size := ⟨_, rfl⟩
  have HBW : Hid (Below w.heap.size w w1) := by rw [hw1]; exact (Below.refl _ _).alloc (Nat.le_refl _) _
  have HBX : Hid (w1.heap[gb]? = some (.cells #[.int .i64 6, .string name, .slice pa exprs.length pc, .slice na body.length nc, .slice ba els.length bc, .int .i64 pos] 30 (0, 0))) := by rw [hw1, hgb]; exact heap_alloc_new _ _
  have HR : Hid (Bt B w1 v l) := by rw [hw1]; exact HR0.out.alloc _
  have hB1 : B ≤ w1.heap.size := Nat.le_trans hB HBW.out.size
  rw [← hw1, ← hgb]
  clear hw1 hgb
  refine (HM.out _ _ _ HR.out hB1 (HBW.out.mono hB) (by first | omega | (simp; omega))).mono ?_
  rintro e w2 ⟨v2, rfl, r2, g2⟩
  have HR2 : Hid (Bt B w2 v2 (l ++ M)) := by show Bt _ _ _ _; simpa using r2
  have HG2 : Hid (Gr w1 w2 v v2) := by show Gr _ _ _ _; exact (Gr.refl _ _).trans g2
  have hB2 : B ≤ w2.heap.size := Nat.le_trans hB1 HG2.out.size
  clear r2 g2
  go_wp2_with (at_builtin; refine wpList_app_row rfl (.tmp 9) (.tmp 10) rfl rfl HR2.out hB2 [59] rfl (by rfl) rfl (by simp) (by first | omega | (simp; omega)) ?_)
  intro v3 w3 r3 g3
  have HR3 : Hid (Bt B w3 v3 (l ++ M ++ [59])) := by show Bt _ _ _ _; simpa using r3
  have HG3 : Hid (Gr w1 w3 v v3) := by show Gr _ _ _ _; exact (HG2.out).trans g3
  have hB3 : B ≤ w3.heap.size := Nat.le_trans hB1 HG3.out.size
  clear r3 g3
  go_wp2_with (at_builtin; refine wpList_app_row rfl (.tmp 19) (.tmp 20) rfl rfl HR3.out hB3 [10] rfl (by rfl) rfl (by simp) (by first | omega | (simp; omega)) ?_)
  intro v4 w4 r4 g4
  have HR4 : Hid (Bt B w4 v4 (l ++ M ++ [59] ++ [10])) := by show Bt _ _ _ _; simpa using r4
  have HG4 : Hid (Gr w1 w4 v v4) := by show Gr _ _ _ _; exact (HG3.out).trans g4
  have hB4 : B ≤ w4.heap.size := Nat.le_trans hB1 HG4.out.size
  clear r4 g4
  have HRz : Hid (Bt B w4 v4 (l ++ (M ++ [59] ++ [10]))) := by show Bt _ _ _ _; simpa using HR4.out
  have HGz : Hid (Gr w w4 v v4) := by show Gr _ _ _ _; exact (HG4.out).pre HBW.out (fun k hk => (HR0.out.lt k hk).2)
  go_wp2
  go_ret
  exact ⟨v4, rfl, HRz.out, HGz.out⟩
set_option maxRecDepth 100000 in
set_option maxHeartbeats 4000000 in
theorem addStmt7 {name : ByteArray} {exprs : List TE} {body els : List TS} {pos : Int} {pa na ba : Option Addr} {pc nc bc : Nat} {B : Nat} {w : World} {v : Value} {l M : Bs} (hR : Bt B w v l) (hB : B ≤ w.heap.size) (hlM : l.length + M.length + 1 ≤ 1000000000)
    (HM : Hid (∀ W u X, Bt B W u X → B ≤ W.heap.size → Below B w W → X.length + M.length ≤ 1000000000 → Calls Tryz.prog 35 #[u, .agg #[.int .i64 7, .string name, .slice pa exprs.length pc, .slice na body.length nc, .slice ba els.length bc, .int .i64 pos]] W fun en W2 => ∃ u2, en = .returned u2 ∧ Bt B W2 u2 (X ++ M) ∧ Gr W W2 u u2)) :
    Calls Tryz.prog 22 #[v, .agg #[.int .i64 7, .string name, .slice pa exprs.length pc, .slice na body.length nc, .slice ba els.length bc, .int .i64 pos]] w fun en w' => ∃ v', en = .returned v' ∧ Bt B w' v' (l ++ (M ++ [10])) ∧ Gr w w' v v' := by
  have HR0 : Hid (Bt B w v l) := hR
  clear hR
  go_enter Tryz.func22, Tryz.ntmps22
  go_wp2_with fail
  obtain ⟨w1, hw1⟩ : ∃ w1, w1 = w.alloc (.cells #[.int .i64 7, .string name, .slice pa exprs.length pc, .slice na body.length nc, .slice ba els.length bc, .int .i64 pos] 30) := ⟨_, rfl⟩
  obtain ⟨gb, hgb⟩ : ∃ gb, gb = w.heap.size := ⟨_, rfl⟩
  have HBW : Hid (Below w.heap.size w w1) := by rw [hw1]; exact (Below.refl _ _).alloc (Nat.le_refl _) _
  have HBX : Hid (w1.heap[gb]? = some (.cells #[.int .i64 7, .string name, .slice pa exprs.length pc, .slice na body.length nc, .slice ba els.length bc, .int .i64 pos] 30 (0, 0))) := by rw [hw1, hgb]; exact heap_alloc_new _ _
  have HR : Hid (Bt B w1 v l) := by rw [hw1]; exact HR0.out.alloc _
  have hB1 : B ≤ w1.heap.size := Nat.le_trans hB HBW.out.size
  rw [← hw1, ← hgb]
  clear hw1 hgb
  refine (HM.out _ _ _ HR.out hB1 (HBW.out.mono hB) (by first | omega | (simp; omega))).mono ?_
  rintro e w2 ⟨v2, rfl, r2, g2⟩
  have HR2 : Hid (Bt B w2 v2 (l ++ M)) := by show Bt _ _ _ _; simpa using r2
  have HG2 : Hid (Gr w1 w2 v v2) := by show Gr _ _ _ _; exact (Gr.refl _ _).trans g2
  have hB2 : B ≤ w2.heap.size := Nat.le_trans hB1 HG2.out.size
  clear r2 g2
  go_wp2_with (at_builtin; refine wpList_app_row rfl (.tmp 19) (.tmp 20) rfl rfl HR2.out hB2 [10] rfl (by rfl) rfl (by simp) (by first | omega | (simp; omega)) ?_)
  intro v3 w3 r3 g3
  have HR3 : Hid (Bt B w3 v3 (l ++ M ++ [10])) := by show Bt _ _ _ _; simpa using r3
  have HG3 : Hid (Gr w1 w3 v v3) := by show Gr _ _ _ _; exact (HG2.out).trans g3
  have hB3 : B ≤ w3.heap.size := Nat.le_trans hB1 HG3.out.size
  clear r3 g3
  have HRz : Hid (Bt B w3 v3 (l ++ (M ++ [10]))) := by show Bt _ _ _ _; simpa using HR3.out
  have HGz : Hid (Gr w w3 v v3) := by show Gr _ _ _ _; exact (HG3.out).pre HBW.out (fun k hk => (HR0.out.lt k hk).2)
  go_wp2
  go_ret
  exact ⟨v3, rfl, HRz.out, HGz.out⟩
set_option maxRecDepth 100000 in
set_option maxHeartbeats 4000000 in
theorem addStmt8 {name : ByteArray} {exprs : List TE} {body els : List TS} {pos : Int} {pa na ba : Option Addr} {pc nc bc : Nat} {B : Nat} {w : World} {v : Value} {l M : Bs} (hR : Bt B w v l) (hB : B ≤ w.heap.size) (hlM : l.length + M.length + 1 ≤ 1000000000)
    (HM : Hid (∀ W u X, Bt B W u X → B ≤ W.heap.size → Below B w W → X.length + M.length ≤ 1000000000 → Calls Tryz.prog 36 #[u, .agg #[.int .i64 8, .string name, .slice pa exprs.length pc, .slice na body.length nc, .slice ba els.length bc, .int .i64 pos]] W fun en W2 => ∃ u2, en = .returned u2 ∧ Bt B W2 u2 (X ++ M) ∧ Gr W W2 u u2)) :
    Calls Tryz.prog 22 #[v, .agg #[.int .i64 8, .string name, .slice pa exprs.length pc, .slice na body.length nc, .slice ba els.length bc, .int .i64 pos]] w fun en w' => ∃ v', en = .returned v' ∧ Bt B w' v' (l ++ (M ++ [59] ++ [10])) ∧ Gr w w' v v' := by
  have HR0 : Hid (Bt B w v l) := hR
  clear hR
  go_enter Tryz.func22, Tryz.ntmps22
  go_wp2_with fail
  obtain ⟨w1, hw1⟩ : ∃ w1, w1 = w.alloc (.cells #[.int .i64 8, .string name, .slice pa exprs.length pc, .slice na body.length nc, .slice ba els.length bc, .int .i64 pos] 30) := ⟨_, rfl⟩
  obtain ⟨gb, hgb⟩ : ∃ gb, gb = w.heap.size := ⟨_, rfl⟩
  have HBW : Hid (Below w.heap.size w w1) := by rw [hw1]; exact (Below.refl _ _).alloc (Nat.le_refl _) _
  have HBX : Hid (w1.heap[gb]? = some (.cells #[.int .i64 8, .string name, .slice pa exprs.length pc, .slice na body.length nc, .slice ba els.length bc, .int .i64 pos] 30 (0, 0))) := by rw [hw1, hgb]; exact heap_alloc_new _ _
  have HR : Hid (Bt B w1 v l) := by rw [hw1]; exact HR0.out.alloc _
  have hB1 : B ≤ w1.heap.size := Nat.le_trans hB HBW.out.size
  rw [← hw1, ← hgb]
  clear hw1 hgb
  refine (HM.out _ _ _ HR.out hB1 (HBW.out.mono hB) (by first | omega | (simp; omega))).mono ?_
  rintro e w2 ⟨v2, rfl, r2, g2⟩
  have HR2 : Hid (Bt B w2 v2 (l ++ M)) := by show Bt _ _ _ _; simpa using r2
  have HG2 : Hid (Gr w1 w2 v v2) := by show Gr _ _ _ _; exact (Gr.refl _ _).trans g2
  have hB2 : B ≤ w2.heap.size := Nat.le_trans hB1 HG2.out.size
  clear r2 g2
  go_wp2_with (at_builtin; refine wpList_app_row rfl (.tmp 9) (.tmp 10) rfl rfl HR2.out hB2 [59] rfl (by rfl) rfl (by simp) (by first | omega | (simp; omega)) ?_)
  intro v3 w3 r3 g3
  have HR3 : Hid (Bt B w3 v3 (l ++ M ++ [59])) := by show Bt _ _ _ _; simpa using r3
  have HG3 : Hid (Gr w1 w3 v v3) := by show Gr _ _ _ _; exact (HG2.out).trans g3
  have hB3 : B ≤ w3.heap.size := Nat.le_trans hB1 HG3.out.size
  clear r3 g3
  go_wp2_with (at_builtin; refine wpList_app_row rfl (.tmp 19) (.tmp 20) rfl rfl HR3.out hB3 [10] rfl (by rfl) rfl (by simp) (by first | omega | (simp; omega)) ?_)
  intro v4 w4 r4 g4
  have HR4 : Hid (Bt B w4 v4 (l ++ M ++ [59] ++ [10])) := by show Bt _ _ _ _; simpa using r4
  have HG4 : Hid (Gr w1 w4 v v4) := by show Gr _ _ _ _; exact (HG3.out).trans g4
  have hB4 : B ≤ w4.heap.size := Nat.le_trans hB1 HG4.out.size
  clear r4 g4
  have HRz : Hid (Bt B w4 v4 (l ++ (M ++ [59] ++ [10]))) := by show Bt _ _ _ _; simpa using HR4.out
  have HGz : Hid (Gr w w4 v v4) := by show Gr _ _ _ _; exact (HG4.out).pre HBW.out (fun k hk => (HR0.out.lt k hk).2)
  go_wp2
  go_ret
  exact ⟨v4, rfl, HRz.out, HGz.out⟩
/-- addStmt puts s's text behind a row. -/
theorem addStmt_any {n : Nat} (hA : Small n) (s : TS) (hsz : szS s ≤ n) {B : Nat} {w : World} {v : Value} {l : Bs} {vx vb ve : Value} (hR : Bt B w v l) (hB : B ≤ w.heap.size) (hG : Lg B w) (hE : SIn (· < B) w s vx vb ve) (hl : l.length + (txS s).length ≤ 1000000000) :
    Calls Tryz.prog 22 #[v, stV s vx vb ve] w fun en w' => ∃ v', en = .returned v' ∧ Bt B w' v' (l ++ txS s) ∧ Gr w w' v v' := by
  cases s with
  | mk kind name exprs body els pos =>
    have hE2 := hE
    obtain ⟨hk8, ⟨pa, pc, rfl, _⟩, ⟨na, nc, rfl, _⟩, ⟨ba, bc, rfl, _⟩⟩ := hE2
    have hT : txS (.mk kind name exprs body els pos) = stT kind name (txEs exprs) (txSs body) els.isEmpty (txSs els) := by rw [txS]
    rw [hT] at hl ⊢
    rcases (show kind = 0 ∨ kind = 1 ∨ kind = 2 ∨ kind = 3 ∨ kind = 4 ∨ kind = 5 ∨ kind = 6 ∨ kind = 7 ∨ kind = 8 from by omega) with rfl | rfl | rfl | rfl | rfl | rfl | rfl | rfl | rfl
    · have hM : stT 0 name (txEs exprs) (txSs body) els.isEmpty (txSs els) = simpleT 0 name (txEs exprs) ++ [59] ++ [10] := rfl
      rw [hM] at hl ⊢
      exact addStmt0 hR hB (by simp at hl; omega) (fun W u X h1 h2 h3 h4 => addSimpleLet hA hsz h1 h2 (hG.on h3) (SIn.on hE h3) h4)
    · have hM : stT 1 name (txEs exprs) (txSs body) els.isEmpty (txSs els) = simpleT 1 name (txEs exprs) ++ [59] ++ [10] := rfl
      rw [hM] at hl ⊢
      exact addStmt1 hR hB (by simp at hl; omega) (fun W u X h1 h2 h3 h4 => addSimpleSet hA hsz h1 h2 (hG.on h3) (SIn.on hE h3) h4)
    · have hM : stT 2 name (txEs exprs) (txSs body) els.isEmpty (txSs els) = simpleT 2 name (txEs exprs) ++ [59] ++ [10] := rfl
      rw [hM] at hl ⊢
      exact addStmt2 hR hB (by simp at hl; omega) (fun W u X h1 h2 h3 h4 => addSimplePut hA hsz h1 h2 (hG.on h3) (SIn.on hE h3) h4)
    · cases els with
      | nil =>
        have hM : stT 3 name (txEs exprs) (txSs body) ([] : List TS).isEmpty (txSs []) = blocksT 3 name (txEs exprs) (txSs body) true (txSs []) ++ [10] := rfl
        rw [hM] at hl ⊢
        exact addStmt3 hR hB (by simp at hl; omega) (fun W u X h1 h2 h3 h4 => addBlocksIf0 hA hsz rfl h1 h2 (hG.on h3) (SIn.on hE h3) h4)
      | cons s0 els =>
        have hM : stT 3 name (txEs exprs) (txSs body) (s0 :: els).isEmpty (txSs (s0 :: els)) = blocksT 3 name (txEs exprs) (txSs body) false (txSs (s0 :: els)) ++ [10] := rfl
        rw [hM] at hl ⊢
        exact addStmt3 hR hB (by simp at hl; omega) (fun W u X h1 h2 h3 h4 => addBlocksIf1 hA hsz (by simp) h1 h2 (hG.on h3) (SIn.on hE h3) h4)
    · have hM : stT 4 name (txEs exprs) (txSs body) els.isEmpty (txSs els) = blocksT 4 name (txEs exprs) (txSs body) els.isEmpty (txSs els) ++ [10] := rfl
      rw [hM] at hl ⊢
      exact addStmt4 hR hB (by simp at hl; omega) (fun W u X h1 h2 h3 h4 => addBlocksWhile hA hsz h1 h2 (hG.on h3) (SIn.on hE h3) h4)
    · have hM : stT 5 name (txEs exprs) (txSs body) els.isEmpty (txSs els) = simpleT 5 name (txEs exprs) ++ [59] ++ [10] := rfl
      rw [hM] at hl ⊢
      exact addStmt5 hR hB (by simp at hl; omega) (fun W u X h1 h2 h3 h4 => addSimpleRet hA hsz h1 h2 (hG.on h3) (SIn.on hE h3) h4)
    · have hM : stT 6 name (txEs exprs) (txSs body) els.isEmpty (txSs els) = simpleT 6 name (txEs exprs) ++ [59] ++ [10] := rfl
      rw [hM] at hl ⊢
      exact addStmt6 hR hB (by simp at hl; omega) (fun W u X h1 h2 h3 h4 => addSimpleThr hA hsz h1 h2 (hG.on h3) (SIn.on hE h3) h4)
    · have hM : stT 7 name (txEs exprs) (txSs body) els.isEmpty (txSs els) = blocksT 7 name (txEs exprs) (txSs body) els.isEmpty (txSs els) ++ [10] := rfl
      rw [hM] at hl ⊢
      exact addStmt7 hR hB (by simp at hl; omega) (fun W u X h1 h2 h3 h4 => addBlocksTry hA hsz h1 h2 (hG.on h3) (SIn.on hE h3) h4)
    · have hM : stT 8 name (txEs exprs) (txSs body) els.isEmpty (txSs els) = simpleT 8 name (txEs exprs) ++ [59] ++ [10] := rfl
      rw [hM] at hl ⊢
      exact addStmt8 hR hB (by simp at hl; omega) (fun W u X h1 h2 h3 h4 => addSimpleDo hA hsz h1 h2 (hG.on h3) (SIn.on hE h3) h4)
set_option maxRecDepth 100000 in
set_option maxHeartbeats 2000000 in
theorem addStmts_any {n : Nat} (hA : Small n) (s : List TS) (hsz : szSs s ≤ n) : AddSs s := by
  intro B w v l vs hR hB hG hE hl
  obtain ⟨ad, cap, rfl, hc1, hc2, hg⟩ := hE
  unfold maxLen at hc2
  have HR0 : Hid (Bt B w v l) := hR
  have HPG : Hid (0 < s.length → ∃ g o, ad = some ⟨g, o, none⟩ ∧ g < B ∧ SsAt (· < B) w g o s) := hg
  have HC1 : Hid (∀ k e, s[k]? = some e → txSs (s.take (k + 1)) = txSs (s.take k) ++ txS e) := fun k e he => txSs_take he
  have hlC : ∀ k, (txSs (s.take k)).length ≤ (txSs s).length := fun k => by
    have := txSs_append (s.take k) (s.drop k)
    rw [List.take_append_drop] at this
    rw [this]; simp
  have HAT : Hid (∀ g o, g < B → SsAt (· < B) w g o s → ∀ k e, s[k]? = some e → ∃ (kd : Int) (nm : ByteArray) (a b c : Option Addr) (n1 c1 n2 c2 n3 c3 : Nat) (ps : Int), (∀ W, Below B w W → W.cell? ⟨g, o + k * 6, none⟩ = some (.int .i64 kd) ∧ W.cell? ⟨g, o + k * 6 + 1, none⟩ = some (.string nm) ∧ W.cell? ⟨g, o + k * 6 + 2, none⟩ = some (.slice a n1 c1) ∧ W.cell? ⟨g, o + k * 6 + 3, none⟩ = some (.slice b n2 c2) ∧ W.cell? ⟨g, o + k * 6 + 4, none⟩ = some (.slice c n3 c3) ∧ W.cell? ⟨g, o + k * 6 + 5, none⟩ = some (.int .i64 ps)) ∧ ∀ W vc X, Bt B W vc X → B ≤ W.heap.size → Below B w W → X.length + (txS e).length ≤ 1000000000 → Calls Tryz.prog 22 #[vc, .agg #[.int .i64 kd, .string nm, .slice a n1 c1, .slice b n2 c2, .slice c n3 c3, .int .i64 ps]] W fun en W2 => ∃ u, en = .returned u ∧ Bt B W2 u (X ++ txS e) ∧ Gr W W2 vc u) := by
    intro g o hgB hs k e he
    obtain ⟨vx, vb, ve, hc, hin⟩ := hs.get he
    have hlt := szSs_get he
    cases e with
    | mk kd nm xs bd el ps =>
      have hin2 := hin
      obtain ⟨_, ⟨pa, pc, rfl, _⟩, ⟨na, nc, rfl, _⟩, ⟨ba, bc, rfl, _⟩⟩ := hin2
      exact ⟨kd, nm, pa, na, ba, _, pc, _, nc, _, bc, ps, fun W hb => hc.kept (hb.block g hgB), fun W vc X hr hBW hbel hl => addStmt_any hA _ (by omega) hr hBW (hG.on hbel) (SIn.on hin hbel) hl⟩
  clear hR hg hG hA hsz
  go_enter Tryz.func21, Tryz.ntmps21
  go_wp2_with fail
  go_loopw [9, 0] (fun i u wr => ∃ k : Nat, i = .int .i64 (k : Int) ∧ k ≤ s.length ∧ Hid (Bt B wr u (l ++ txSs (s.take k))) ∧ Hid (Gr w wr v u))
    (fun i _ _ => s.length - (intOf i).toNat)
  case atStart => exact ⟨0, rfl, Nat.zero_le _, by simpa [txSs] using HR0, Gr.refl _ _⟩
  case round =>
    obtain ⟨k, rfl, hk, HRj, HGj⟩ := hrel
    have hBj : B ≤ wr.heap.size := Nat.le_trans hB HGj.out.size
    have HBEL : Hid (Below B w wr) := HR0.out.bel HGj.out hB
    by_cases hlt : k < s.length
    · obtain ⟨e, he⟩ : ∃ e, s[k]? = some e := ⟨_, List.getElem?_eq_getElem hlt⟩
      obtain ⟨ga, oa, rfl, hgB, hSs⟩ := HPG.out (by omega)
      obtain ⟨kd, nm, a, b, c, n1, c1, n2, c2, n3, c3, ps, hce, had⟩ := HAT.out ga oa hgB hSs k e he
      obtain ⟨q0, q1, q2, q3, q4, q5⟩ := hce wr HBEL.out
      have HAD := Lib.hid had
      have hN := HC1.out k e he
      have HN : Hid (l ++ txSs (s.take (k + 1)) = l ++ txSs (s.take k) ++ txS e) := by show _ = _; rw [hN]; simp
      have hNl : l.length + (txSs (s.take k)).length + (txS e).length ≤ 1000000000 := by
        have h1 := hlC (k + 1)
        rw [hN, List.length_append] at h1
        omega
      generalize txS e = U at *
      obtain ⟨A, hA⟩ : ∃ A, l ++ txSs (s.take k) = A := ⟨_, rfl⟩
      have hAl : A.length + U.length ≤ 1000000000 := by rw [← hA, List.length_append]; omega
      rw [hA] at HRj HN
      have hidx : 0 ≤ (k : Int) ∧ (k : Int) < (s.length : Int) := ⟨by omega, by omega⟩
      have hgl : ga < wr.heap.size := Nat.lt_of_lt_of_le hgB hBj
      clear hce had he hSs hN hA
      go_wp2_with fail
      obtain ⟨w1, hw1⟩ : ∃ w1, w1 = wr.alloc (.cells #[.int .i64 kd, .string nm, .slice a n1 c1, .slice b n2 c2, .slice c n3 c3, .int .i64 ps] 30) := ⟨_, rfl⟩
      have HR1 : Hid (Bt B w1 u0 A) := by rw [hw1]; exact HRj.out.alloc _
      have HG1 : Hid (Gr w w1 v u0) := by rw [hw1]; exact HGj.out.alloc _
      rw [← hw1]
      clear hw1
      refine (HAD.out _ _ _ HR1.out (Nat.le_trans hB HG1.out.size) (HR0.out.bel HG1.out hB) hAl).mono ?_
      rintro en w5 ⟨v5, rfl, r5, g5⟩
      have HR5 : Hid (Bt B w5 v5 (l ++ txSs (s.take (k + 1)))) := by show Bt _ _ _ _; rw [HN.out]; exact r5
      have HG5 : Hid (Gr w w5 v v5) := HG1.out.trans g5
      clear r5 g5 q0 q1 q2 q3 q4 q5
      go_wp2_with fail
      go_roundw
      case rel => exact ⟨k + 1, by go_num, by omega, HR5, HG5⟩
      case measure => simp [intOf]; omega
    · obtain rfl : k = s.length := by omega
      rw [List.take_length] at HRj
      go_wp2
      go_ret
      exact ⟨_, rfl, HRj.out, HGj.out⟩
end Go.Proofs.YtpgbfkdknggceaaGreatDoor
