/-
  Package tree's addExpr: an expression of each kind, behind a row; and by induction all trees' texts.
  Conditions: as each theorem says.
-/
import Derived.Test.YtpgbfkdknggceaaGreatDoorTrUn
import Derived.Test.YtpgbfkdknggceaaGreatDoorTrBin
import Derived.Test.YtpgbfkdknggceaaGreatDoorTrCall
import Derived.Test.YtpgbfkdknggceaaGreatDoorTrRec
import Derived.Test.YtpgbfkdknggceaaGreatDoorTrFn
import Derived.Test.YtpgbfkdknggceaaGreatDoorTrStmt
namespace Go.Proofs.YtpgbfkdknggceaaGreatDoor
open Go.RowKit TM
set_option linter.unusedVariables false
def valX (v : Value) (gb k : Nat) (s x : Value) : Nat → Option Value
  | 0 => some v
  | 1 => some (.pointer (some ⟨gb, 0, none⟩))
  | 2 => some (.int .i64 (k : Int))
  | 3 => some (.pointer (some ⟨0, k, none⟩))
  | 4 => some s
  | 5 => some x
  | _ => none
set_option maxRecDepth 100000 in
set_option maxHeartbeats 4000000 in
theorem addExpr0 {num : Int} {text : ByteArray} {parts : List TE} {params : List ByteArray} {body : List TS} {pa na ba : Option Addr} {pc nc bc : Nat} {B : Nat} {w : World} {v : Value} {l M : Bs} (hR : Bt B w v l) (hB : B ≤ w.heap.size) (hlM : l.length + M.length ≤ 1000000000) (hM : M = [110, 105, 108]) :
    Calls Tryz.prog 23 #[v, .agg #[.int .i64 0, .int .i64 num, .string text, .slice pa parts.length pc, .slice na params.length nc, .slice ba body.length bc]] w fun en w' => ∃ v', en = .returned v' ∧ Bt B w' v' (l ++ M) ∧ Gr w w' v v' := by
  subst hM
  have hlT : l.length + 3 ≤ 1000000000 := by simp at hlM; omega
  clear hlM
  have HR0 : Hid (Bt B w v l) := hR
  clear hR
  go_enter Tryz.func23, Tryz.ntmps23
  go_wp2_with (at_builtin; refine Hid.out ?_)
  refine Lib.hid ?_
  obtain ⟨w1, hw1⟩ : ∃ w1, w1 = w.alloc (.cells #[.int .i64 0, .int .i64 num, .string text, .slice pa parts.length pc, .slice na params.length nc, .slice ba body.length bc] 35) := ⟨_, rfl⟩
  obtain ⟨gb, hgb⟩ : ∃ gb, gb = w.heap.size := ⟨_, rfl⟩
  have HBW : Hid (Below w.heap.size w w1) := by rw [hw1]; exact (Below.refl _ _).alloc (Nat.le_refl _) _
  have HBX : Hid (w1.heap[gb]? = some (.cells #[.int .i64 0, .int .i64 num, .string text, .slice pa parts.length pc, .slice na params.length nc, .slice ba body.length bc] 35 (0, 0))) := by rw [hw1, hgb]; exact heap_alloc_new _ _
  have HR : Hid (Bt B w1 v l) := by rw [hw1]; exact HR0.out.alloc _
  have hB1 : B ≤ w1.heap.size := Nat.le_trans hB HBW.out.size
  rw [← hw1, ← hgb]
  clear hw1 hgb
  refine wpList_app_str rfl (.tmp 9) _ rfl rfl HR.out hB1 ⟨#[110, 105, 108]⟩ rfl (by show _ + 3 ≤ _; first | omega | (simp; omega)) ?_
  intro v2 w2 r2 g2
  have HR2 : Hid (Bt B w2 v2 (l ++ [110, 105, 108])) := by show Bt _ _ _ _; simpa using r2
  have HG2 : Hid (Gr w1 w2 v v2) := by show Gr _ _ _ _; exact (Gr.refl _ _).trans g2
  have hB2 : B ≤ w2.heap.size := Nat.le_trans hB1 HG2.out.size
  clear r2 g2
  have HRz : Hid (Bt B w2 v2 (l ++ [110, 105, 108])) := by show Bt _ _ _ _; simpa using HR2.out
  have HGz : Hid (Gr w w2 v v2) := by show Gr _ _ _ _; exact (HG2.out).pre HBW.out (fun k hk => (HR0.out.lt k hk).2)
  go_wp2
  go_ret
  exact ⟨v2, rfl, HRz.out, HGz.out⟩
set_option maxRecDepth 100000 in
set_option maxHeartbeats 4000000 in
theorem addExpr1 {num : Int} {text : ByteArray} {parts : List TE} {params : List ByteArray} {body : List TS} {pa na ba : Option Addr} {pc nc bc : Nat} {B : Nat} {w : World} {v : Value} {l M : Bs} (hR : Bt B w v l) (hB : B ≤ w.heap.size) (hlM : l.length + M.length ≤ 1000000000) (hM : M = [102, 97, 108, 115, 101]) :
    Calls Tryz.prog 23 #[v, .agg #[.int .i64 1, .int .i64 num, .string text, .slice pa parts.length pc, .slice na params.length nc, .slice ba body.length bc]] w fun en w' => ∃ v', en = .returned v' ∧ Bt B w' v' (l ++ M) ∧ Gr w w' v v' := by
  subst hM
  have hlT : l.length + 5 ≤ 1000000000 := by simp at hlM; omega
  clear hlM
  have HR0 : Hid (Bt B w v l) := hR
  clear hR
  go_enter Tryz.func23, Tryz.ntmps23
  go_wp2_with (at_builtin; refine Hid.out ?_)
  refine Lib.hid ?_
  obtain ⟨w1, hw1⟩ : ∃ w1, w1 = w.alloc (.cells #[.int .i64 1, .int .i64 num, .string text, .slice pa parts.length pc, .slice na params.length nc, .slice ba body.length bc] 35) := ⟨_, rfl⟩
  obtain ⟨gb, hgb⟩ : ∃ gb, gb = w.heap.size := ⟨_, rfl⟩
  have HBW : Hid (Below w.heap.size w w1) := by rw [hw1]; exact (Below.refl _ _).alloc (Nat.le_refl _) _
  have HBX : Hid (w1.heap[gb]? = some (.cells #[.int .i64 1, .int .i64 num, .string text, .slice pa parts.length pc, .slice na params.length nc, .slice ba body.length bc] 35 (0, 0))) := by rw [hw1, hgb]; exact heap_alloc_new _ _
  have HR : Hid (Bt B w1 v l) := by rw [hw1]; exact HR0.out.alloc _
  have hB1 : B ≤ w1.heap.size := Nat.le_trans hB HBW.out.size
  rw [← hw1, ← hgb]
  clear hw1 hgb
  refine wpList_app_str rfl (.tmp 13) _ rfl rfl HR.out hB1 ⟨#[102, 97, 108, 115, 101]⟩ rfl (by show _ + 5 ≤ _; first | omega | (simp; omega)) ?_
  intro v2 w2 r2 g2
  have HR2 : Hid (Bt B w2 v2 (l ++ [102, 97, 108, 115, 101])) := by show Bt _ _ _ _; simpa using r2
  have HG2 : Hid (Gr w1 w2 v v2) := by show Gr _ _ _ _; exact (Gr.refl _ _).trans g2
  have hB2 : B ≤ w2.heap.size := Nat.le_trans hB1 HG2.out.size
  clear r2 g2
  have HRz : Hid (Bt B w2 v2 (l ++ [102, 97, 108, 115, 101])) := by show Bt _ _ _ _; simpa using HR2.out
  have HGz : Hid (Gr w w2 v v2) := by show Gr _ _ _ _; exact (HG2.out).pre HBW.out (fun k hk => (HR0.out.lt k hk).2)
  go_wp2
  go_ret
  exact ⟨v2, rfl, HRz.out, HGz.out⟩
set_option maxRecDepth 100000 in
set_option maxHeartbeats 4000000 in
theorem addExpr2 {num : Int} {text : ByteArray} {parts : List TE} {params : List ByteArray} {body : List TS} {pa na ba : Option Addr} {pc nc bc : Nat} {B : Nat} {w : World} {v : Value} {l M : Bs} (hR : Bt B w v l) (hB : B ≤ w.heap.size) (hlM : l.length + M.length ≤ 1000000000) (hM : M = [116, 114, 117, 101]) :
    Calls Tryz.prog 23 #[v, .agg #[.int .i64 2, .int .i64 num, .string text, .slice pa parts.length pc, .slice na params.length nc, .slice ba body.length bc]] w fun en w' => ∃ v', en = .returned v' ∧ Bt B w' v' (l ++ M) ∧ Gr w w' v v' := by
  subst hM
  have hlT : l.length + 4 ≤ 1000000000 := by simp at hlM; omega
  clear hlM
  have HR0 : Hid (Bt B w v l) := hR
  clear hR
  go_enter Tryz.func23, Tryz.ntmps23
  go_wp2_with (at_builtin; refine Hid.out ?_)
  refine Lib.hid ?_
  obtain ⟨w1, hw1⟩ : ∃ w1, w1 = w.alloc (.cells #[.int .i64 2, .int .i64 num, .string text, .slice pa parts.length pc, .slice na params.length nc, .slice ba body.length bc] 35) := ⟨_, rfl⟩
  obtain ⟨gb, hgb⟩ : ∃ gb, gb = w.heap.size := ⟨_, rfl⟩
  have HBW : Hid (Below w.heap.size w w1) := by rw [hw1]; exact (Below.refl _ _).alloc (Nat.le_refl _) _
  have HBX : Hid (w1.heap[gb]? = some (.cells #[.int .i64 2, .int .i64 num, .string text, .slice pa parts.length pc, .slice na params.length nc, .slice ba body.length bc] 35 (0, 0))) := by rw [hw1, hgb]; exact heap_alloc_new _ _
  have HR : Hid (Bt B w1 v l) := by rw [hw1]; exact HR0.out.alloc _
  have hB1 : B ≤ w1.heap.size := Nat.le_trans hB HBW.out.size
  rw [← hw1, ← hgb]
  clear hw1 hgb
  refine wpList_app_str rfl (.tmp 17) _ rfl rfl HR.out hB1 ⟨#[116, 114, 117, 101]⟩ rfl (by show _ + 4 ≤ _; first | omega | (simp; omega)) ?_
  intro v2 w2 r2 g2
  have HR2 : Hid (Bt B w2 v2 (l ++ [116, 114, 117, 101])) := by show Bt _ _ _ _; simpa using r2
  have HG2 : Hid (Gr w1 w2 v v2) := by show Gr _ _ _ _; exact (Gr.refl _ _).trans g2
  have hB2 : B ≤ w2.heap.size := Nat.le_trans hB1 HG2.out.size
  clear r2 g2
  have HRz : Hid (Bt B w2 v2 (l ++ [116, 114, 117, 101])) := by show Bt _ _ _ _; simpa using HR2.out
  have HGz : Hid (Gr w w2 v v2) := by show Gr _ _ _ _; exact (HG2.out).pre HBW.out (fun k hk => (HR0.out.lt k hk).2)
  go_wp2
  go_ret
  exact ⟨v2, rfl, HRz.out, HGz.out⟩
set_option maxRecDepth 100000 in
set_option maxHeartbeats 4000000 in
theorem addExpr3 {num : Int} {text : ByteArray} {parts : List TE} {params : List ByteArray} {body : List TS} {pa na ba : Option Addr} {pc nc bc : Nat} {B : Nat} {w : World} {v : Value} {l M : Bs} (hR : Bt B w v l) (hB : B ≤ w.heap.size) (hlM : l.length + M.length ≤ 1000000000)
    (HM : Hid (∀ W u X, Bt B W u X → B ≤ W.heap.size → Below B w W → X.length + M.length ≤ 1000000000 → Calls Tryz.prog 37 #[u, .int .i64 num, .int .i64 10] W fun en W2 => ∃ u2, en = .returned u2 ∧ Bt B W2 u2 (X ++ M) ∧ Gr W W2 u u2)) :
    Calls Tryz.prog 23 #[v, .agg #[.int .i64 3, .int .i64 num, .string text, .slice pa parts.length pc, .slice na params.length nc, .slice ba body.length bc]] w fun en w' => ∃ v', en = .returned v' ∧ Bt B w' v' (l ++ M) ∧ Gr w w' v v' := by
  have HR0 : Hid (Bt B w v l) := hR
  clear hR
  go_enter Tryz.func23, Tryz.ntmps23
  go_wp2_with fail
  obtain ⟨w1, hw1⟩ : ∃ w1, w1 = w.alloc (.cells #[.int .i64 3, .int .i64 num, .string text, .slice pa parts.length pc, .slice na params.length nc, .slice ba body.length bc] 35) := ⟨_, rfl⟩
  obtain ⟨gb, hgb⟩ : ∃ gb, gb = w.heap.size := ⟨_, rfl⟩
  have HBW : Hid (Below w.heap.size w w1) := by rw [hw1]; exact (Below.refl _ _).alloc (Nat.le_refl _) _
  have HBX : Hid (w1.heap[gb]? = some (.cells #[.int .i64 3, .int .i64 num, .string text, .slice pa parts.length pc, .slice na params.length nc, .slice ba body.length bc] 35 (0, 0))) := by rw [hw1, hgb]; exact heap_alloc_new _ _
  have HR : Hid (Bt B w1 v l) := by rw [hw1]; exact HR0.out.alloc _
  have hB1 : B ≤ w1.heap.size := Nat.le_trans hB HBW.out.size
  rw [← hw1, ← hgb]
  clear hw1 hgb
  refine (HM.out _ _ _ HR.out hB1 (HBW.out.mono hB) hlM).mono ?_
  rintro e w2 ⟨v2, rfl, r2, g2⟩
  have HR2 : Hid (Bt B w2 v2 (l ++ M)) := by show Bt _ _ _ _; simpa using r2
  have HG2 : Hid (Gr w1 w2 v v2) := by show Gr _ _ _ _; exact (Gr.refl _ _).trans g2
  have hB2 : B ≤ w2.heap.size := Nat.le_trans hB1 HG2.out.size
  clear r2 g2
  have HRz : Hid (Bt B w2 v2 (l ++ M)) := by show Bt _ _ _ _; simpa using HR2.out
  have HGz : Hid (Gr w w2 v v2) := by show Gr _ _ _ _; exact (HG2.out).pre HBW.out (fun k hk => (HR0.out.lt k hk).2)
  go_wp2
  go_ret
  exact ⟨v2, rfl, HRz.out, HGz.out⟩
set_option maxRecDepth 100000 in
set_option maxHeartbeats 4000000 in
theorem addExpr4 {num : Int} {text : ByteArray} {parts : List TE} {params : List ByteArray} {body : List TS} {pa na ba : Option Addr} {pc nc bc : Nat} {B : Nat} {w : World} {v : Value} {l M : Bs} (hR : Bt B w v l) (hB : B ≤ w.heap.size) (hlM : l.length + M.length ≤ 1000000000)
    (HM : Hid (∀ W u X, Bt B W u X → B ≤ W.heap.size → Below B w W → X.length + M.length ≤ 1000000000 → Calls Tryz.prog 26 #[u, .string text] W fun en W2 => ∃ u2, en = .returned u2 ∧ Bt B W2 u2 (X ++ M) ∧ Gr W W2 u u2)) :
    Calls Tryz.prog 23 #[v, .agg #[.int .i64 4, .int .i64 num, .string text, .slice pa parts.length pc, .slice na params.length nc, .slice ba body.length bc]] w fun en w' => ∃ v', en = .returned v' ∧ Bt B w' v' (l ++ M) ∧ Gr w w' v v' := by
  have HR0 : Hid (Bt B w v l) := hR
  clear hR
  go_enter Tryz.func23, Tryz.ntmps23
  go_wp2_with fail
  obtain ⟨w1, hw1⟩ : ∃ w1, w1 = w.alloc (.cells #[.int .i64 4, .int .i64 num, .string text, .slice pa parts.length pc, .slice na params.length nc, .slice ba body.length bc] 35) := ⟨_, rfl⟩
  obtain ⟨gb, hgb⟩ : ∃ gb, gb = w.heap.size := ⟨_, rfl⟩
  have HBW : Hid (Below w.heap.size w w1) := by rw [hw1]; exact (Below.refl _ _).alloc (Nat.le_refl _) _
  have HBX : Hid (w1.heap[gb]? = some (.cells #[.int .i64 4, .int .i64 num, .string text, .slice pa parts.length pc, .slice na params.length nc, .slice ba body.length bc] 35 (0, 0))) := by rw [hw1, hgb]; exact heap_alloc_new _ _
  have HR : Hid (Bt B w1 v l) := by rw [hw1]; exact HR0.out.alloc _
  have hB1 : B ≤ w1.heap.size := Nat.le_trans hB HBW.out.size
  rw [← hw1, ← hgb]
  clear hw1 hgb
  refine (HM.out _ _ _ HR.out hB1 (HBW.out.mono hB) hlM).mono ?_
  rintro e w2 ⟨v2, rfl, r2, g2⟩
  have HR2 : Hid (Bt B w2 v2 (l ++ M)) := by show Bt _ _ _ _; simpa using r2
  have HG2 : Hid (Gr w1 w2 v v2) := by show Gr _ _ _ _; exact (Gr.refl _ _).trans g2
  have hB2 : B ≤ w2.heap.size := Nat.le_trans hB1 HG2.out.size
  clear r2 g2
  have HRz : Hid (Bt B w2 v2 (l ++ M)) := by show Bt _ _ _ _; simpa using HR2.out
  have HGz : Hid (Gr w w2 v v2) := by show Gr _ _ _ _; exact (HG2.out).pre HBW.out (fun k hk => (HR0.out.lt k hk).2)
  go_wp2
  go_ret
  exact ⟨v2, rfl, HRz.out, HGz.out⟩
set_option maxRecDepth 100000 in
set_option maxHeartbeats 4000000 in
theorem addExpr5 {num : Int} {text : ByteArray} {parts : List TE} {params : List ByteArray} {body : List TS} {pa na ba : Option Addr} {pc nc bc : Nat} {B : Nat} {w : World} {v : Value} {l M : Bs} (hR : Bt B w v l) (hB : B ≤ w.heap.size) (hlM : l.length + M.length ≤ 1000000000) (hM : M = text.data.toList) :
    Calls Tryz.prog 23 #[v, .agg #[.int .i64 5, .int .i64 num, .string text, .slice pa parts.length pc, .slice na params.length nc, .slice ba body.length bc]] w fun en w' => ∃ v', en = .returned v' ∧ Bt B w' v' (l ++ M) ∧ Gr w w' v v' := by
  have hlT : l.length + text.size ≤ 1000000000 := by rw [hM] at hlM; exact hlM
  subst hM
  clear hlM
  have HR0 : Hid (Bt B w v l) := hR
  clear hR
  go_enter Tryz.func23, Tryz.ntmps23
  go_wp2_with (at_builtin; refine Hid.out ?_)
  refine Lib.hid ?_
  obtain ⟨w1, hw1⟩ : ∃ w1, w1 = w.alloc (.cells #[.int .i64 5, .int .i64 num, .string text, .slice pa parts.length pc, .slice na params.length nc, .slice ba body.length bc] 35) := ⟨_, rfl⟩
  obtain ⟨gb, hgb⟩ : ∃ gb, gb = w.heap.size := ⟨_, rfl⟩
  have HBW : Hid (Below w.heap.size w w1) := by rw [hw1]; exact (Below.refl _ _).alloc (Nat.le_refl _) _
  have HBX : Hid (w1.heap[gb]? = some (.cells #[.int .i64 5, .int .i64 num, .string text, .slice pa parts.length pc, .slice na params.length nc, .slice ba body.length bc] 35 (0, 0))) := by rw [hw1, hgb]; exact heap_alloc_new _ _
  have HR : Hid (Bt B w1 v l) := by rw [hw1]; exact HR0.out.alloc _
  have hB1 : B ≤ w1.heap.size := Nat.le_trans hB HBW.out.size
  rw [← hw1, ← hgb]
  clear hw1 hgb
  refine wpList_app_str rfl (.tmp 33) (.tmp 35) rfl rfl HR.out hB1 text rfl (by show _ + text.size ≤ _; first | omega | (simp; omega)) ?_
  intro v2 w2 r2 g2
  have HR2 : Hid (Bt B w2 v2 (l ++ text.data.toList)) := by show Bt _ _ _ _; simpa using r2
  have HG2 : Hid (Gr w1 w2 v v2) := by show Gr _ _ _ _; exact (Gr.refl _ _).trans g2
  have hB2 : B ≤ w2.heap.size := Nat.le_trans hB1 HG2.out.size
  clear r2 g2
  have HRz : Hid (Bt B w2 v2 (l ++ text.data.toList)) := by show Bt _ _ _ _; simpa using HR2.out
  have HGz : Hid (Gr w w2 v v2) := by show Gr _ _ _ _; exact (HG2.out).pre HBW.out (fun k hk => (HR0.out.lt k hk).2)
  go_wp2
  go_ret
  exact ⟨v2, rfl, HRz.out, HGz.out⟩
set_option maxRecDepth 100000 in
set_option maxHeartbeats 4000000 in
theorem addExpr6 {num : Int} {text : ByteArray} {parts : List TE} {params : List ByteArray} {body : List TS} {pa na ba : Option Addr} {pc nc bc : Nat} {B : Nat} {w : World} {v : Value} {l M : Bs} (hR : Bt B w v l) (hB : B ≤ w.heap.size) (hlM : l.length + M.length ≤ 1000000000)
    (HM : Hid (∀ W u X, Bt B W u X → B ≤ W.heap.size → Below B w W → X.length + M.length ≤ 1000000000 → Calls Tryz.prog 38 #[u, .int .u8 45, .agg #[.int .i64 6, .int .i64 num, .string text, .slice pa parts.length pc, .slice na params.length nc, .slice ba body.length bc]] W fun en W2 => ∃ u2, en = .returned u2 ∧ Bt B W2 u2 (X ++ M) ∧ Gr W W2 u u2)) :
    Calls Tryz.prog 23 #[v, .agg #[.int .i64 6, .int .i64 num, .string text, .slice pa parts.length pc, .slice na params.length nc, .slice ba body.length bc]] w fun en w' => ∃ v', en = .returned v' ∧ Bt B w' v' (l ++ M) ∧ Gr w w' v v' := by
  have HR0 : Hid (Bt B w v l) := hR
  clear hR
  go_enter Tryz.func23, Tryz.ntmps23
  go_wp2_with fail
  obtain ⟨w1, hw1⟩ : ∃ w1, w1 = w.alloc (.cells #[.int .i64 6, .int .i64 num, .string text, .slice pa parts.length pc, .slice na params.length nc, .slice ba body.length bc] 35) := ⟨_, rfl⟩
  obtain ⟨gb, hgb⟩ : ∃ gb, gb = w.heap.size := ⟨_, rfl⟩
  have HBW : Hid (Below w.heap.size w w1) := by rw [hw1]; exact (Below.refl _ _).alloc (Nat.le_refl _) _
  have HBX : Hid (w1.heap[gb]? = some (.cells #[.int .i64 6, .int .i64 num, .string text, .slice pa parts.length pc, .slice na params.length nc, .slice ba body.length bc] 35 (0, 0))) := by rw [hw1, hgb]; exact heap_alloc_new _ _
  have HR : Hid (Bt B w1 v l) := by rw [hw1]; exact HR0.out.alloc _
  have hB1 : B ≤ w1.heap.size := Nat.le_trans hB HBW.out.size
  rw [← hw1, ← hgb]
  clear hw1 hgb
  refine (HM.out _ _ _ HR.out hB1 (HBW.out.mono hB) hlM).mono ?_
  rintro e w2 ⟨v2, rfl, r2, g2⟩
  have HR2 : Hid (Bt B w2 v2 (l ++ M)) := by show Bt _ _ _ _; simpa using r2
  have HG2 : Hid (Gr w1 w2 v v2) := by show Gr _ _ _ _; exact (Gr.refl _ _).trans g2
  have hB2 : B ≤ w2.heap.size := Nat.le_trans hB1 HG2.out.size
  clear r2 g2
  have HRz : Hid (Bt B w2 v2 (l ++ M)) := by show Bt _ _ _ _; simpa using HR2.out
  have HGz : Hid (Gr w w2 v v2) := by show Gr _ _ _ _; exact (HG2.out).pre HBW.out (fun k hk => (HR0.out.lt k hk).2)
  go_wp2
  go_ret
  exact ⟨v2, rfl, HRz.out, HGz.out⟩
set_option maxRecDepth 100000 in
set_option maxHeartbeats 4000000 in
theorem addExpr7 {num : Int} {text : ByteArray} {parts : List TE} {params : List ByteArray} {body : List TS} {pa na ba : Option Addr} {pc nc bc : Nat} {B : Nat} {w : World} {v : Value} {l M : Bs} (hR : Bt B w v l) (hB : B ≤ w.heap.size) (hlM : l.length + M.length ≤ 1000000000)
    (HM : Hid (∀ W u X, Bt B W u X → B ≤ W.heap.size → Below B w W → X.length + M.length ≤ 1000000000 → Calls Tryz.prog 38 #[u, .int .u8 33, .agg #[.int .i64 7, .int .i64 num, .string text, .slice pa parts.length pc, .slice na params.length nc, .slice ba body.length bc]] W fun en W2 => ∃ u2, en = .returned u2 ∧ Bt B W2 u2 (X ++ M) ∧ Gr W W2 u u2)) :
    Calls Tryz.prog 23 #[v, .agg #[.int .i64 7, .int .i64 num, .string text, .slice pa parts.length pc, .slice na params.length nc, .slice ba body.length bc]] w fun en w' => ∃ v', en = .returned v' ∧ Bt B w' v' (l ++ M) ∧ Gr w w' v v' := by
  have HR0 : Hid (Bt B w v l) := hR
  clear hR
  go_enter Tryz.func23, Tryz.ntmps23
  go_wp2_with fail
  obtain ⟨w1, hw1⟩ : ∃ w1, w1 = w.alloc (.cells #[.int .i64 7, .int .i64 num, .string text, .slice pa parts.length pc, .slice na params.length nc, .slice ba body.length bc] 35) := ⟨_, rfl⟩
  obtain ⟨gb, hgb⟩ : ∃ gb, gb = w.heap.size := ⟨_, rfl⟩
  have HBW : Hid (Below w.heap.size w w1) := by rw [hw1]; exact (Below.refl _ _).alloc (Nat.le_refl _) _
  have HBX : Hid (w1.heap[gb]? = some (.cells #[.int .i64 7, .int .i64 num, .string text, .slice pa parts.length pc, .slice na params.length nc, .slice ba body.length bc] 35 (0, 0))) := by rw [hw1, hgb]; exact heap_alloc_new _ _
  have HR : Hid (Bt B w1 v l) := by rw [hw1]; exact HR0.out.alloc _
  have hB1 : B ≤ w1.heap.size := Nat.le_trans hB HBW.out.size
  rw [← hw1, ← hgb]
  clear hw1 hgb
  refine (HM.out _ _ _ HR.out hB1 (HBW.out.mono hB) hlM).mono ?_
  rintro e w2 ⟨v2, rfl, r2, g2⟩
  have HR2 : Hid (Bt B w2 v2 (l ++ M)) := by show Bt _ _ _ _; simpa using r2
  have HG2 : Hid (Gr w1 w2 v v2) := by show Gr _ _ _ _; exact (Gr.refl _ _).trans g2
  have hB2 : B ≤ w2.heap.size := Nat.le_trans hB1 HG2.out.size
  clear r2 g2
  have HRz : Hid (Bt B w2 v2 (l ++ M)) := by show Bt _ _ _ _; simpa using HR2.out
  have HGz : Hid (Gr w w2 v v2) := by show Gr _ _ _ _; exact (HG2.out).pre HBW.out (fun k hk => (HR0.out.lt k hk).2)
  go_wp2
  go_ret
  exact ⟨v2, rfl, HRz.out, HGz.out⟩
set_option maxRecDepth 100000 in
set_option maxHeartbeats 4000000 in
theorem addExpr8 {num : Int} {text : ByteArray} {parts : List TE} {params : List ByteArray} {body : List TS} {pa na ba : Option Addr} {pc nc bc : Nat} {B : Nat} {w : World} {v : Value} {l M : Bs} (hR : Bt B w v l) (hB : B ≤ w.heap.size) (hlM : l.length + M.length ≤ 1000000000) (hS : ∀ W, Below B w W → W.cell? ⟨0, 8, none⟩ = some (.string ⟨(sign 8).toArray⟩))
    (HM : Hid (∀ W u X, Bt B W u X → B ≤ W.heap.size → Below B w W → X.length + M.length ≤ 1000000000 → Calls Tryz.prog 39 #[u, .string ⟨(sign 8).toArray⟩, .agg #[.int .i64 8, .int .i64 num, .string text, .slice pa parts.length pc, .slice na params.length nc, .slice ba body.length bc]] W fun en W2 => ∃ u2, en = .returned u2 ∧ Bt B W2 u2 (X ++ M) ∧ Gr W W2 u u2)) :
    Calls Tryz.prog 23 #[v, .agg #[.int .i64 8, .int .i64 num, .string text, .slice pa parts.length pc, .slice na params.length nc, .slice ba body.length bc]] w fun en w' => ∃ v', en = .returned v' ∧ Bt B w' v' (l ++ M) ∧ Gr w w' v v' := by
  have HR0 : Hid (Bt B w v l) := hR
  clear hR
  have HS := Lib.hid hS
  clear hS
  go_enter Tryz.func23, Tryz.ntmps23
  go_wp2_with fail
  obtain ⟨w1, hw1⟩ : ∃ w1, w1 = w.alloc (.cells #[.int .i64 8, .int .i64 num, .string text, .slice pa parts.length pc, .slice na params.length nc, .slice ba body.length bc] 35) := ⟨_, rfl⟩
  obtain ⟨gb, hgb⟩ : ∃ gb, gb = w.heap.size := ⟨_, rfl⟩
  have HBW : Hid (Below w.heap.size w w1) := by rw [hw1]; exact (Below.refl _ _).alloc (Nat.le_refl _) _
  have HBX : Hid (w1.heap[gb]? = some (.cells #[.int .i64 8, .int .i64 num, .string text, .slice pa parts.length pc, .slice na params.length nc, .slice ba body.length bc] 35 (0, 0))) := by rw [hw1, hgb]; exact heap_alloc_new _ _
  have HR : Hid (Bt B w1 v l) := by rw [hw1]; exact HR0.out.alloc _
  have hB1 : B ≤ w1.heap.size := Nat.le_trans hB HBW.out.size
  rw [← hw1, ← hgb]
  clear hw1 hgb
  refine region_sh (valX v gb 8 (.string ⟨(sign 8).toArray⟩) (.agg #[.int .i64 8, .int .i64 num, .string text, .slice pa parts.length pc, .slice na params.length nc, .slice ba body.length bc])) (JC B w1 v l [(6, 60, M), (7, 4, [])] 1000 1000 1001 [] 1000 0) (by kernel_rfl) (by kernel_rfl) (by kernel_rfl) (JC.start HR.out _ rfl) ?_ ?_
  · intro hon q hq L a1 W hC hl hBh hS hJ K hK
    have hqn : q < 8 := hq
    clear hq
    rcases (show q = 0 ∨ q = 1 ∨ q = 2 ∨ q = 3 ∨ q = 4 ∨ q = 5 ∨ q = 6 ∨ q = 7 from by omega) with rfl | rfl | rfl | rfl | rfl | rfl | rfl | rfl
    · have e0 := (eval_tmp a1 0).symm.trans ((hS.kept 0 (by kernel_rfl)).trans rfl)
      refine wpOp_step rfl (fun K' hK' => ?_)
      go_simp
      exact hK' _ _ (hK _ _ (hS.put hon (i := 0) rfl rfl (fun u hu => by cases hu; rfl)) (hJ.pure (by simp) (by decide)))
    · have e3 := (eval_tmp a1 3).symm.trans ((hS.kept 3 (by kernel_rfl)).trans rfl)
      refine wpOp_step rfl (fun K' hK' => ?_)
      go_simp
      exact hK' _ _ (hK _ _ (hS.put hon (i := 1) rfl rfl (fun u hu => by cases hu; rfl)) (hJ.pure (by simp) (by decide)))
    · have e55 := (eval_tmp a1 55).symm.trans (hS.get hBh (i := 2) rfl 1 (by simp) rfl rfl rfl)
      have hbx : W.heap[gb]? = _ := HR.out.block hJ.gr HBX.out (by decide)
      have hcl2 : W.cell? ⟨gb, 0, none⟩ = some (.int .i64 8) := by simp [World.cell?, hbx]
      refine wpOp_step rfl (fun K' hK' => ?_)
      go_simp
      exact hK' _ _ (hK _ _ (hS.put hon (i := 2) rfl rfl (fun u hu => by cases hu; rfl)) (hJ.pure (by simp) (by decide)))
    · have e56 := (eval_tmp a1 56).symm.trans (hS.get hBh (i := 3) rfl 2 (by simp) rfl rfl rfl)
      refine wpOp_step rfl (fun K' hK' => ?_)
      go_simp
      exact hK' _ _ (hK _ _ (hS.put hon (i := 3) rfl rfl (fun u hu => by cases hu; rfl)) (hJ.pure (by simp) (by decide)))
    · have e57 := (eval_tmp a1 57).symm.trans (hS.get hBh (i := 4) rfl 3 (by simp) rfl rfl rfl)
      have hsg := HS.out W ((HBW.out.mono hB).trans (HR.out.bel hJ.gr hB1))
      refine wpOp_step rfl (fun K' hK' => ?_)
      go_simp
      exact hK' _ _ (hK _ _ (hS.put hon (i := 4) rfl rfl (fun u hu => by cases hu; rfl)) (hJ.pure (by simp) (by decide)))
    · have e3 := (eval_tmp a1 3).symm.trans ((hS.kept 3 (by kernel_rfl)).trans rfl)
      have hbx : W.heap[gb]? = _ := HR.out.block hJ.gr HBX.out (by decide)
      have hq0 : W.cell? ⟨gb, 0, none⟩ = some (.int .i64 8) := by simp [World.cell?, hbx]
      have hq1 : W.cell? ⟨gb, 1, none⟩ = some (.int .i64 num) := by simp [World.cell?, hbx]
      have hq2 : W.cell? ⟨gb, 2, none⟩ = some (.string text) := by simp [World.cell?, hbx]
      have hq3 : W.cell? ⟨gb, 3, none⟩ = some (.slice pa parts.length pc) := by simp [World.cell?, hbx]
      have hq4 : W.cell? ⟨gb, 4, none⟩ = some (.slice na params.length nc) := by simp [World.cell?, hbx]
      have hq5 : W.cell? ⟨gb, 5, none⟩ = some (.slice ba body.length bc) := by simp [World.cell?, hbx]
      refine wpOp_step rfl (fun K' hK' => ?_)
      go_simp
      exact hK' _ _ (hK _ _ (hS.put hon (i := 5) rfl rfl (fun u hu => by cases hu; rfl)) (hJ.pure (by simp) (by decide)))
    · have n7 : L 7 = false := closed_not hC hl (i := 7) (j := 6) rfl (g := .data) (by simp) rfl
      have hx : curX L l [(6, 60, M), (7, 4, [])] = l := by simp [curX, hl]
      have e54 := (eval_tmp a1 54).symm.trans (hS.get hBh (i := 6) rfl 0 (by simp) rfl rfl rfl)
      have e58 := (eval_tmp a1 58).symm.trans (hS.get hBh (i := 6) rfl 4 (by simp) rfl rfl rfl)
      have e59 := (eval_tmp a1 59).symm.trans (hS.get hBh (i := 6) rfl 5 (by simp) rfl rfl rfl)
      have hrow := hJ.row
      rw [hx] at hrow
      have hcu : cur L a1 v [(6, 60, M), (7, 4, [])] = v := (by simp [cur, hl])
      rw [hcu] at hrow
      have hgr := hJ.gr
      rw [hcu] at hgr
      have hB2 : B ≤ W.heap.size := Nat.le_trans hB1 hgr.size
      have hbel := HR.out.bel hgr hB1
      refine wpOp_call (f := 39) (args := #[v, .string ⟨(sign 8).toArray⟩, .agg #[.int .i64 8, .int .i64 num, .string text, .slice pa parts.length pc, .slice na params.length nc, .slice ba body.length bc]]) (R := fun u W2 => Bt B W2 u (l ++ (M)) ∧ Gr W W2 v u) rfl rfl (by simp [execOp, resolve, invoke, e54, e58, e59, go_sem]) ((HM.out W v _ hrow hB2 ((HBW.out.mono hB).trans hbel) (by first | omega | (simp; omega))).mono fun e W2 ⟨u, h1, h2, h3⟩ => ⟨u, h1, h2, h3⟩) ?_
      rintro u W2 ⟨r1, r2⟩
      exact hK _ _ (hS.put hon (i := 6) rfl rfl (fun u hu => by cases hu)) (hJ.step (C1 := []) (C2 := [(7, 4, [])]) (by rw [hS.size]; exact (by decide : (60 : Nat) < 83)) (by simp) hl (by simp [n7]) (by decide) (by show Bt B W2 u (curX L l [(6, 60, M), (7, 4, [])] ++ (M)); rw [hx]; exact r1) (by show Gr W W2 (cur L a1 v [(6, 60, M), (7, 4, [])]) u; rw [hcu]; exact r2))
    · have d6 : L 6 = true := hBh _ rfl ⟨6, .data⟩ (by simp) rfl
      obtain ⟨vc, hvc⟩ : ∃ x, a1.eval (.tmp 60) = x := ⟨_, rfl⟩
      have hx : curX L l [(6, 60, M), (7, 4, [])] = l ++ (M) := by simp [curX, d6, hl]
      have e9 := (eval_tmp a1 60).symm.trans hvc
      refine wpOp_step rfl (fun K' hK' => ?_)
      go_simp
      exact hK' _ _ (hK _ _ (hS.put hon (i := 7) rfl rfl (fun u hu => by cases hu)) (hJ.hand (C1 := [(6, 60, M)]) (C2 := []) (by rw [hS.size]; exact (by decide : (4 : Nat) < 83)) (by simp [d6]) hl (by simp) (by decide) (by rw [← hvc]; simp [cur, d6, hl])))
  · intro L a1 w2 hl hS hJ
    have d6 : L 6 = true := hl 6 (by decide)
    have d7 : L 7 = true := hl 7 (by decide)
    have hcu : cur L a1 v [(6, 60, M), (7, 4, [])] = a1.eval (.tmp 4) := by simp [cur, d6, d7]
    have hx : curX L l [(6, 60, M), (7, 4, [])] = l ++ (M) := by simp [curX, d6, d7]
    have hrow := hJ.row
    have hgr := hJ.gr
    rw [hcu] at hgr
    rw [hcu, hx] at hrow
    have hfr := hS.frame [54, 55, 56, 57, 58, 59, 60, 4] rfl
    refine (‹∀ (a : Act) (w : World), Code.wp Tryz.prog _ _ a w → _› a1 w2 ?_)
    obtain ⟨z, hz⟩ : ∃ z : Nat → Value, z = fun k => a1.eval (.tmp k) := ⟨_, rfl⟩
    rw [← hz] at hfr
    have ze : a1.eval (.tmp 4) = z 4 := by rw [hz]
    rw [ze] at hrow hgr
    rw [hfr]
    clear hfr ze hz hS hJ hcu hx hl d6 d7
    simp only [over, List.setIfInBounds_toArray, List.set_cons_zero, List.set_cons_succ]
    obtain ⟨v2, hv⟩ : ∃ u, z 4 = u := ⟨_, rfl⟩
    rw [hv] at hrow hgr ⊢
    clear hv
    have r2 := hrow
    have g2 := hgr
    clear hrow hgr
    have HR2 : Hid (Bt B w2 v2 (l ++ M)) := by show Bt _ _ _ _; simpa using r2
    have HG2 : Hid (Gr w1 w2 v v2) := by show Gr _ _ _ _; exact (Gr.refl _ _).trans g2
    have hB2 : B ≤ w2.heap.size := Nat.le_trans hB1 HG2.out.size
    clear r2 g2
    have HRz : Hid (Bt B w2 v2 (l ++ M)) := by show Bt _ _ _ _; simpa using HR2.out
    have HGz : Hid (Gr w w2 v v2) := by show Gr _ _ _ _; exact (HG2.out).pre HBW.out (fun k hk => (HR0.out.lt k hk).2)
    go_wp2
    go_ret
    exact ⟨v2, rfl, HRz.out, HGz.out⟩
set_option maxRecDepth 100000 in
set_option maxHeartbeats 4000000 in
theorem addExpr9 {num : Int} {text : ByteArray} {parts : List TE} {params : List ByteArray} {body : List TS} {pa na ba : Option Addr} {pc nc bc : Nat} {B : Nat} {w : World} {v : Value} {l M : Bs} (hR : Bt B w v l) (hB : B ≤ w.heap.size) (hlM : l.length + M.length ≤ 1000000000) (hS : ∀ W, Below B w W → W.cell? ⟨0, 9, none⟩ = some (.string ⟨(sign 9).toArray⟩))
    (HM : Hid (∀ W u X, Bt B W u X → B ≤ W.heap.size → Below B w W → X.length + M.length ≤ 1000000000 → Calls Tryz.prog 39 #[u, .string ⟨(sign 9).toArray⟩, .agg #[.int .i64 9, .int .i64 num, .string text, .slice pa parts.length pc, .slice na params.length nc, .slice ba body.length bc]] W fun en W2 => ∃ u2, en = .returned u2 ∧ Bt B W2 u2 (X ++ M) ∧ Gr W W2 u u2)) :
    Calls Tryz.prog 23 #[v, .agg #[.int .i64 9, .int .i64 num, .string text, .slice pa parts.length pc, .slice na params.length nc, .slice ba body.length bc]] w fun en w' => ∃ v', en = .returned v' ∧ Bt B w' v' (l ++ M) ∧ Gr w w' v v' := by
  have HR0 : Hid (Bt B w v l) := hR
  clear hR
  have HS := Lib.hid hS
  clear hS
  go_enter Tryz.func23, Tryz.ntmps23
  go_wp2_with fail
  obtain ⟨w1, hw1⟩ : ∃ w1, w1 = w.alloc (.cells #[.int .i64 9, .int .i64 num, .string text, .slice pa parts.length pc, .slice na params.length nc, .slice ba body.length bc] 35) := ⟨_, rfl⟩
  obtain ⟨gb, hgb⟩ : ∃ gb, gb = w.heap.size := ⟨_, rfl⟩
  have HBW : Hid (Below w.heap.size w w1) := by rw [hw1]; exact (Below.refl _ _).alloc (Nat.le_refl _) _
  have HBX : Hid (w1.heap[gb]? = some (.cells #[.int .i64 9, .int .i64 num, .string text, .slice pa parts.length pc, .slice na params.length nc, .slice ba body.length bc] 35 (0, 0))) := by rw [hw1, hgb]; exact heap_alloc_new _ _
  have HR : Hid (Bt B w1 v l) := by rw [hw1]; exact HR0.out.alloc _
  have hB1 : B ≤ w1.heap.size := Nat.le_trans hB HBW.out.size
  rw [← hw1, ← hgb]
  clear hw1 hgb
  refine region_sh (valX v gb 9 (.string ⟨(sign 9).toArray⟩) (.agg #[.int .i64 9, .int .i64 num, .string text, .slice pa parts.length pc, .slice na params.length nc, .slice ba body.length bc])) (JC B w1 v l [(6, 60, M), (7, 4, [])] 1000 1000 1001 [] 1000 0) (by kernel_rfl) (by kernel_rfl) (by kernel_rfl) (JC.start HR.out _ rfl) ?_ ?_
  · intro hon q hq L a1 W hC hl hBh hS hJ K hK
    have hqn : q < 8 := hq
    clear hq
    rcases (show q = 0 ∨ q = 1 ∨ q = 2 ∨ q = 3 ∨ q = 4 ∨ q = 5 ∨ q = 6 ∨ q = 7 from by omega) with rfl | rfl | rfl | rfl | rfl | rfl | rfl | rfl
    · have e0 := (eval_tmp a1 0).symm.trans ((hS.kept 0 (by kernel_rfl)).trans rfl)
      refine wpOp_step rfl (fun K' hK' => ?_)
      go_simp
      exact hK' _ _ (hK _ _ (hS.put hon (i := 0) rfl rfl (fun u hu => by cases hu; rfl)) (hJ.pure (by simp) (by decide)))
    · have e3 := (eval_tmp a1 3).symm.trans ((hS.kept 3 (by kernel_rfl)).trans rfl)
      refine wpOp_step rfl (fun K' hK' => ?_)
      go_simp
      exact hK' _ _ (hK _ _ (hS.put hon (i := 1) rfl rfl (fun u hu => by cases hu; rfl)) (hJ.pure (by simp) (by decide)))
    · have e55 := (eval_tmp a1 55).symm.trans (hS.get hBh (i := 2) rfl 1 (by simp) rfl rfl rfl)
      have hbx : W.heap[gb]? = _ := HR.out.block hJ.gr HBX.out (by decide)
      have hcl2 : W.cell? ⟨gb, 0, none⟩ = some (.int .i64 9) := by simp [World.cell?, hbx]
      refine wpOp_step rfl (fun K' hK' => ?_)
      go_simp
      exact hK' _ _ (hK _ _ (hS.put hon (i := 2) rfl rfl (fun u hu => by cases hu; rfl)) (hJ.pure (by simp) (by decide)))
    · have e56 := (eval_tmp a1 56).symm.trans (hS.get hBh (i := 3) rfl 2 (by simp) rfl rfl rfl)
      refine wpOp_step rfl (fun K' hK' => ?_)
      go_simp
      exact hK' _ _ (hK _ _ (hS.put hon (i := 3) rfl rfl (fun u hu => by cases hu; rfl)) (hJ.pure (by simp) (by decide)))
    · have e57 := (eval_tmp a1 57).symm.trans (hS.get hBh (i := 4) rfl 3 (by simp) rfl rfl rfl)
      have hsg := HS.out W ((HBW.out.mono hB).trans (HR.out.bel hJ.gr hB1))
      refine wpOp_step rfl (fun K' hK' => ?_)
      go_simp
      exact hK' _ _ (hK _ _ (hS.put hon (i := 4) rfl rfl (fun u hu => by cases hu; rfl)) (hJ.pure (by simp) (by decide)))
    · have e3 := (eval_tmp a1 3).symm.trans ((hS.kept 3 (by kernel_rfl)).trans rfl)
      have hbx : W.heap[gb]? = _ := HR.out.block hJ.gr HBX.out (by decide)
      have hq0 : W.cell? ⟨gb, 0, none⟩ = some (.int .i64 9) := by simp [World.cell?, hbx]
      have hq1 : W.cell? ⟨gb, 1, none⟩ = some (.int .i64 num) := by simp [World.cell?, hbx]
      have hq2 : W.cell? ⟨gb, 2, none⟩ = some (.string text) := by simp [World.cell?, hbx]
      have hq3 : W.cell? ⟨gb, 3, none⟩ = some (.slice pa parts.length pc) := by simp [World.cell?, hbx]
      have hq4 : W.cell? ⟨gb, 4, none⟩ = some (.slice na params.length nc) := by simp [World.cell?, hbx]
      have hq5 : W.cell? ⟨gb, 5, none⟩ = some (.slice ba body.length bc) := by simp [World.cell?, hbx]
      refine wpOp_step rfl (fun K' hK' => ?_)
      go_simp
      exact hK' _ _ (hK _ _ (hS.put hon (i := 5) rfl rfl (fun u hu => by cases hu; rfl)) (hJ.pure (by simp) (by decide)))
    · have n7 : L 7 = false := closed_not hC hl (i := 7) (j := 6) rfl (g := .data) (by simp) rfl
      have hx : curX L l [(6, 60, M), (7, 4, [])] = l := by simp [curX, hl]
      have e54 := (eval_tmp a1 54).symm.trans (hS.get hBh (i := 6) rfl 0 (by simp) rfl rfl rfl)
      have e58 := (eval_tmp a1 58).symm.trans (hS.get hBh (i := 6) rfl 4 (by simp) rfl rfl rfl)
      have e59 := (eval_tmp a1 59).symm.trans (hS.get hBh (i := 6) rfl 5 (by simp) rfl rfl rfl)
      have hrow := hJ.row
      rw [hx] at hrow
      have hcu : cur L a1 v [(6, 60, M), (7, 4, [])] = v := (by simp [cur, hl])
      rw [hcu] at hrow
      have hgr := hJ.gr
      rw [hcu] at hgr
      have hB2 : B ≤ W.heap.size := Nat.le_trans hB1 hgr.size
      have hbel := HR.out.bel hgr hB1
      refine wpOp_call (f := 39) (args := #[v, .string ⟨(sign 9).toArray⟩, .agg #[.int .i64 9, .int .i64 num, .string text, .slice pa parts.length pc, .slice na params.length nc, .slice ba body.length bc]]) (R := fun u W2 => Bt B W2 u (l ++ (M)) ∧ Gr W W2 v u) rfl rfl (by simp [execOp, resolve, invoke, e54, e58, e59, go_sem]) ((HM.out W v _ hrow hB2 ((HBW.out.mono hB).trans hbel) (by first | omega | (simp; omega))).mono fun e W2 ⟨u, h1, h2, h3⟩ => ⟨u, h1, h2, h3⟩) ?_
      rintro u W2 ⟨r1, r2⟩
      exact hK _ _ (hS.put hon (i := 6) rfl rfl (fun u hu => by cases hu)) (hJ.step (C1 := []) (C2 := [(7, 4, [])]) (by rw [hS.size]; exact (by decide : (60 : Nat) < 83)) (by simp) hl (by simp [n7]) (by decide) (by show Bt B W2 u (curX L l [(6, 60, M), (7, 4, [])] ++ (M)); rw [hx]; exact r1) (by show Gr W W2 (cur L a1 v [(6, 60, M), (7, 4, [])]) u; rw [hcu]; exact r2))
    · have d6 : L 6 = true := hBh _ rfl ⟨6, .data⟩ (by simp) rfl
      obtain ⟨vc, hvc⟩ : ∃ x, a1.eval (.tmp 60) = x := ⟨_, rfl⟩
      have hx : curX L l [(6, 60, M), (7, 4, [])] = l ++ (M) := by simp [curX, d6, hl]
      have e9 := (eval_tmp a1 60).symm.trans hvc
      refine wpOp_step rfl (fun K' hK' => ?_)
      go_simp
      exact hK' _ _ (hK _ _ (hS.put hon (i := 7) rfl rfl (fun u hu => by cases hu)) (hJ.hand (C1 := [(6, 60, M)]) (C2 := []) (by rw [hS.size]; exact (by decide : (4 : Nat) < 83)) (by simp [d6]) hl (by simp) (by decide) (by rw [← hvc]; simp [cur, d6, hl])))
  · intro L a1 w2 hl hS hJ
    have d6 : L 6 = true := hl 6 (by decide)
    have d7 : L 7 = true := hl 7 (by decide)
    have hcu : cur L a1 v [(6, 60, M), (7, 4, [])] = a1.eval (.tmp 4) := by simp [cur, d6, d7]
    have hx : curX L l [(6, 60, M), (7, 4, [])] = l ++ (M) := by simp [curX, d6, d7]
    have hrow := hJ.row
    have hgr := hJ.gr
    rw [hcu] at hgr
    rw [hcu, hx] at hrow
    have hfr := hS.frame [54, 55, 56, 57, 58, 59, 60, 4] rfl
    refine (‹∀ (a : Act) (w : World), Code.wp Tryz.prog _ _ a w → _› a1 w2 ?_)
    obtain ⟨z, hz⟩ : ∃ z : Nat → Value, z = fun k => a1.eval (.tmp k) := ⟨_, rfl⟩
    rw [← hz] at hfr
    have ze : a1.eval (.tmp 4) = z 4 := by rw [hz]
    rw [ze] at hrow hgr
    rw [hfr]
    clear hfr ze hz hS hJ hcu hx hl d6 d7
    simp only [over, List.setIfInBounds_toArray, List.set_cons_zero, List.set_cons_succ]
    obtain ⟨v2, hv⟩ : ∃ u, z 4 = u := ⟨_, rfl⟩
    rw [hv] at hrow hgr ⊢
    clear hv
    have r2 := hrow
    have g2 := hgr
    clear hrow hgr
    have HR2 : Hid (Bt B w2 v2 (l ++ M)) := by show Bt _ _ _ _; simpa using r2
    have HG2 : Hid (Gr w1 w2 v v2) := by show Gr _ _ _ _; exact (Gr.refl _ _).trans g2
    have hB2 : B ≤ w2.heap.size := Nat.le_trans hB1 HG2.out.size
    clear r2 g2
    have HRz : Hid (Bt B w2 v2 (l ++ M)) := by show Bt _ _ _ _; simpa using HR2.out
    have HGz : Hid (Gr w w2 v v2) := by show Gr _ _ _ _; exact (HG2.out).pre HBW.out (fun k hk => (HR0.out.lt k hk).2)
    go_wp2
    go_ret
    exact ⟨v2, rfl, HRz.out, HGz.out⟩
set_option maxRecDepth 100000 in
set_option maxHeartbeats 4000000 in
theorem addExpr10 {num : Int} {text : ByteArray} {parts : List TE} {params : List ByteArray} {body : List TS} {pa na ba : Option Addr} {pc nc bc : Nat} {B : Nat} {w : World} {v : Value} {l M : Bs} (hR : Bt B w v l) (hB : B ≤ w.heap.size) (hlM : l.length + M.length ≤ 1000000000) (hS : ∀ W, Below B w W → W.cell? ⟨0, 10, none⟩ = some (.string ⟨(sign 10).toArray⟩))
    (HM : Hid (∀ W u X, Bt B W u X → B ≤ W.heap.size → Below B w W → X.length + M.length ≤ 1000000000 → Calls Tryz.prog 39 #[u, .string ⟨(sign 10).toArray⟩, .agg #[.int .i64 10, .int .i64 num, .string text, .slice pa parts.length pc, .slice na params.length nc, .slice ba body.length bc]] W fun en W2 => ∃ u2, en = .returned u2 ∧ Bt B W2 u2 (X ++ M) ∧ Gr W W2 u u2)) :
    Calls Tryz.prog 23 #[v, .agg #[.int .i64 10, .int .i64 num, .string text, .slice pa parts.length pc, .slice na params.length nc, .slice ba body.length bc]] w fun en w' => ∃ v', en = .returned v' ∧ Bt B w' v' (l ++ M) ∧ Gr w w' v v' := by
  have HR0 : Hid (Bt B w v l) := hR
  clear hR
  have HS := Lib.hid hS
  clear hS
  go_enter Tryz.func23, Tryz.ntmps23
  go_wp2_with fail
  obtain ⟨w1, hw1⟩ : ∃ w1, w1 = w.alloc (.cells #[.int .i64 10, .int .i64 num, .string text, .slice pa parts.length pc, .slice na params.length nc, .slice ba body.length bc] 35) := ⟨_, rfl⟩
  obtain ⟨gb, hgb⟩ : ∃ gb, gb = w.heap.size := ⟨_, rfl⟩
  have HBW : Hid (Below w.heap.size w w1) := by rw [hw1]; exact (Below.refl _ _).alloc (Nat.le_refl _) _
  have HBX : Hid (w1.heap[gb]? = some (.cells #[.int .i64 10, .int .i64 num, .string text, .slice pa parts.length pc, .slice na params.length nc, .slice ba body.length bc] 35 (0, 0))) := by rw [hw1, hgb]; exact heap_alloc_new _ _
  have HR : Hid (Bt B w1 v l) := by rw [hw1]; exact HR0.out.alloc _
  have hB1 : B ≤ w1.heap.size := Nat.le_trans hB HBW.out.size
  rw [← hw1, ← hgb]
  clear hw1 hgb
  refine region_sh (valX v gb 10 (.string ⟨(sign 10).toArray⟩) (.agg #[.int .i64 10, .int .i64 num, .string text, .slice pa parts.length pc, .slice na params.length nc, .slice ba body.length bc])) (JC B w1 v l [(6, 60, M), (7, 4, [])] 1000 1000 1001 [] 1000 0) (by kernel_rfl) (by kernel_rfl) (by kernel_rfl) (JC.start HR.out _ rfl) ?_ ?_
  · intro hon q hq L a1 W hC hl hBh hS hJ K hK
    have hqn : q < 8 := hq
    clear hq
    rcases (show q = 0 ∨ q = 1 ∨ q = 2 ∨ q = 3 ∨ q = 4 ∨ q = 5 ∨ q = 6 ∨ q = 7 from by omega) with rfl | rfl | rfl | rfl | rfl | rfl | rfl | rfl
    · have e0 := (eval_tmp a1 0).symm.trans ((hS.kept 0 (by kernel_rfl)).trans rfl)
      refine wpOp_step rfl (fun K' hK' => ?_)
      go_simp
      exact hK' _ _ (hK _ _ (hS.put hon (i := 0) rfl rfl (fun u hu => by cases hu; rfl)) (hJ.pure (by simp) (by decide)))
    · have e3 := (eval_tmp a1 3).symm.trans ((hS.kept 3 (by kernel_rfl)).trans rfl)
      refine wpOp_step rfl (fun K' hK' => ?_)
      go_simp
      exact hK' _ _ (hK _ _ (hS.put hon (i := 1) rfl rfl (fun u hu => by cases hu; rfl)) (hJ.pure (by simp) (by decide)))
    · have e55 := (eval_tmp a1 55).symm.trans (hS.get hBh (i := 2) rfl 1 (by simp) rfl rfl rfl)
      have hbx : W.heap[gb]? = _ := HR.out.block hJ.gr HBX.out (by decide)
      have hcl2 : W.cell? ⟨gb, 0, none⟩ = some (.int .i64 10) := by simp [World.cell?, hbx]
      refine wpOp_step rfl (fun K' hK' => ?_)
      go_simp
      exact hK' _ _ (hK _ _ (hS.put hon (i := 2) rfl rfl (fun u hu => by cases hu; rfl)) (hJ.pure (by simp) (by decide)))
    · have e56 := (eval_tmp a1 56).symm.trans (hS.get hBh (i := 3) rfl 2 (by simp) rfl rfl rfl)
      refine wpOp_step rfl (fun K' hK' => ?_)
      go_simp
      exact hK' _ _ (hK _ _ (hS.put hon (i := 3) rfl rfl (fun u hu => by cases hu; rfl)) (hJ.pure (by simp) (by decide)))
    · have e57 := (eval_tmp a1 57).symm.trans (hS.get hBh (i := 4) rfl 3 (by simp) rfl rfl rfl)
      have hsg := HS.out W ((HBW.out.mono hB).trans (HR.out.bel hJ.gr hB1))
      refine wpOp_step rfl (fun K' hK' => ?_)
      go_simp
      exact hK' _ _ (hK _ _ (hS.put hon (i := 4) rfl rfl (fun u hu => by cases hu; rfl)) (hJ.pure (by simp) (by decide)))
    · have e3 := (eval_tmp a1 3).symm.trans ((hS.kept 3 (by kernel_rfl)).trans rfl)
      have hbx : W.heap[gb]? = _ := HR.out.block hJ.gr HBX.out (by decide)
      have hq0 : W.cell? ⟨gb, 0, none⟩ = some (.int .i64 10) := by simp [World.cell?, hbx]
      have hq1 : W.cell? ⟨gb, 1, none⟩ = some (.int .i64 num) := by simp [World.cell?, hbx]
      have hq2 : W.cell? ⟨gb, 2, none⟩ = some (.string text) := by simp [World.cell?, hbx]
      have hq3 : W.cell? ⟨gb, 3, none⟩ = some (.slice pa parts.length pc) := by simp [World.cell?, hbx]
      have hq4 : W.cell? ⟨gb, 4, none⟩ = some (.slice na params.length nc) := by simp [World.cell?, hbx]
      have hq5 : W.cell? ⟨gb, 5, none⟩ = some (.slice ba body.length bc) := by simp [World.cell?, hbx]
      refine wpOp_step rfl (fun K' hK' => ?_)
      go_simp
      exact hK' _ _ (hK _ _ (hS.put hon (i := 5) rfl rfl (fun u hu => by cases hu; rfl)) (hJ.pure (by simp) (by decide)))
    · have n7 : L 7 = false := closed_not hC hl (i := 7) (j := 6) rfl (g := .data) (by simp) rfl
      have hx : curX L l [(6, 60, M), (7, 4, [])] = l := by simp [curX, hl]
      have e54 := (eval_tmp a1 54).symm.trans (hS.get hBh (i := 6) rfl 0 (by simp) rfl rfl rfl)
      have e58 := (eval_tmp a1 58).symm.trans (hS.get hBh (i := 6) rfl 4 (by simp) rfl rfl rfl)
      have e59 := (eval_tmp a1 59).symm.trans (hS.get hBh (i := 6) rfl 5 (by simp) rfl rfl rfl)
      have hrow := hJ.row
      rw [hx] at hrow
      have hcu : cur L a1 v [(6, 60, M), (7, 4, [])] = v := (by simp [cur, hl])
      rw [hcu] at hrow
      have hgr := hJ.gr
      rw [hcu] at hgr
      have hB2 : B ≤ W.heap.size := Nat.le_trans hB1 hgr.size
      have hbel := HR.out.bel hgr hB1
      refine wpOp_call (f := 39) (args := #[v, .string ⟨(sign 10).toArray⟩, .agg #[.int .i64 10, .int .i64 num, .string text, .slice pa parts.length pc, .slice na params.length nc, .slice ba body.length bc]]) (R := fun u W2 => Bt B W2 u (l ++ (M)) ∧ Gr W W2 v u) rfl rfl (by simp [execOp, resolve, invoke, e54, e58, e59, go_sem]) ((HM.out W v _ hrow hB2 ((HBW.out.mono hB).trans hbel) (by first | omega | (simp; omega))).mono fun e W2 ⟨u, h1, h2, h3⟩ => ⟨u, h1, h2, h3⟩) ?_
      rintro u W2 ⟨r1, r2⟩
      exact hK _ _ (hS.put hon (i := 6) rfl rfl (fun u hu => by cases hu)) (hJ.step (C1 := []) (C2 := [(7, 4, [])]) (by rw [hS.size]; exact (by decide : (60 : Nat) < 83)) (by simp) hl (by simp [n7]) (by decide) (by show Bt B W2 u (curX L l [(6, 60, M), (7, 4, [])] ++ (M)); rw [hx]; exact r1) (by show Gr W W2 (cur L a1 v [(6, 60, M), (7, 4, [])]) u; rw [hcu]; exact r2))
    · have d6 : L 6 = true := hBh _ rfl ⟨6, .data⟩ (by simp) rfl
      obtain ⟨vc, hvc⟩ : ∃ x, a1.eval (.tmp 60) = x := ⟨_, rfl⟩
      have hx : curX L l [(6, 60, M), (7, 4, [])] = l ++ (M) := by simp [curX, d6, hl]
      have e9 := (eval_tmp a1 60).symm.trans hvc
      refine wpOp_step rfl (fun K' hK' => ?_)
      go_simp
      exact hK' _ _ (hK _ _ (hS.put hon (i := 7) rfl rfl (fun u hu => by cases hu)) (hJ.hand (C1 := [(6, 60, M)]) (C2 := []) (by rw [hS.size]; exact (by decide : (4 : Nat) < 83)) (by simp [d6]) hl (by simp) (by decide) (by rw [← hvc]; simp [cur, d6, hl])))
  · intro L a1 w2 hl hS hJ
    have d6 : L 6 = true := hl 6 (by decide)
    have d7 : L 7 = true := hl 7 (by decide)
    have hcu : cur L a1 v [(6, 60, M), (7, 4, [])] = a1.eval (.tmp 4) := by simp [cur, d6, d7]
    have hx : curX L l [(6, 60, M), (7, 4, [])] = l ++ (M) := by simp [curX, d6, d7]
    have hrow := hJ.row
    have hgr := hJ.gr
    rw [hcu] at hgr
    rw [hcu, hx] at hrow
    have hfr := hS.frame [54, 55, 56, 57, 58, 59, 60, 4] rfl
    refine (‹∀ (a : Act) (w : World), Code.wp Tryz.prog _ _ a w → _› a1 w2 ?_)
    obtain ⟨z, hz⟩ : ∃ z : Nat → Value, z = fun k => a1.eval (.tmp k) := ⟨_, rfl⟩
    rw [← hz] at hfr
    have ze : a1.eval (.tmp 4) = z 4 := by rw [hz]
    rw [ze] at hrow hgr
    rw [hfr]
    clear hfr ze hz hS hJ hcu hx hl d6 d7
    simp only [over, List.setIfInBounds_toArray, List.set_cons_zero, List.set_cons_succ]
    obtain ⟨v2, hv⟩ : ∃ u, z 4 = u := ⟨_, rfl⟩
    rw [hv] at hrow hgr ⊢
    clear hv
    have r2 := hrow
    have g2 := hgr
    clear hrow hgr
    have HR2 : Hid (Bt B w2 v2 (l ++ M)) := by show Bt _ _ _ _; simpa using r2
    have HG2 : Hid (Gr w1 w2 v v2) := by show Gr _ _ _ _; exact (Gr.refl _ _).trans g2
    have hB2 : B ≤ w2.heap.size := Nat.le_trans hB1 HG2.out.size
    clear r2 g2
    have HRz : Hid (Bt B w2 v2 (l ++ M)) := by show Bt _ _ _ _; simpa using HR2.out
    have HGz : Hid (Gr w w2 v v2) := by show Gr _ _ _ _; exact (HG2.out).pre HBW.out (fun k hk => (HR0.out.lt k hk).2)
    go_wp2
    go_ret
    exact ⟨v2, rfl, HRz.out, HGz.out⟩
set_option maxRecDepth 100000 in
set_option maxHeartbeats 4000000 in
theorem addExpr11 {num : Int} {text : ByteArray} {parts : List TE} {params : List ByteArray} {body : List TS} {pa na ba : Option Addr} {pc nc bc : Nat} {B : Nat} {w : World} {v : Value} {l M : Bs} (hR : Bt B w v l) (hB : B ≤ w.heap.size) (hlM : l.length + M.length ≤ 1000000000) (hS : ∀ W, Below B w W → W.cell? ⟨0, 11, none⟩ = some (.string ⟨(sign 11).toArray⟩))
    (HM : Hid (∀ W u X, Bt B W u X → B ≤ W.heap.size → Below B w W → X.length + M.length ≤ 1000000000 → Calls Tryz.prog 39 #[u, .string ⟨(sign 11).toArray⟩, .agg #[.int .i64 11, .int .i64 num, .string text, .slice pa parts.length pc, .slice na params.length nc, .slice ba body.length bc]] W fun en W2 => ∃ u2, en = .returned u2 ∧ Bt B W2 u2 (X ++ M) ∧ Gr W W2 u u2)) :
    Calls Tryz.prog 23 #[v, .agg #[.int .i64 11, .int .i64 num, .string text, .slice pa parts.length pc, .slice na params.length nc, .slice ba body.length bc]] w fun en w' => ∃ v', en = .returned v' ∧ Bt B w' v' (l ++ M) ∧ Gr w w' v v' := by
  have HR0 : Hid (Bt B w v l) := hR
  clear hR
  have HS := Lib.hid hS
  clear hS
  go_enter Tryz.func23, Tryz.ntmps23
  go_wp2_with fail
  obtain ⟨w1, hw1⟩ : ∃ w1, w1 = w.alloc (.cells #[.int .i64 11, .int .i64 num, .string text, .slice pa parts.length pc, .slice na params.length nc, .slice ba body.length bc] 35) := ⟨_, rfl⟩
  obtain ⟨gb, hgb⟩ : ∃ gb, gb = w.heap.size := ⟨_, rfl⟩
  have HBW : Hid (Below w.heap.size w w1) := by rw [hw1]; exact (Below.refl _ _).alloc (Nat.le_refl _) _
  have HBX : Hid (w1.heap[gb]? = some (.cells #[.int .i64 11, .int .i64 num, .string text, .slice pa parts.length pc, .slice na params.length nc, .slice ba body.length bc] 35 (0, 0))) := by rw [hw1, hgb]; exact heap_alloc_new _ _
  have HR : Hid (Bt B w1 v l) := by rw [hw1]; exact HR0.out.alloc _
  have hB1 : B ≤ w1.heap.size := Nat.le_trans hB HBW.out.size
  rw [← hw1, ← hgb]
  clear hw1 hgb
  refine region_sh (valX v gb 11 (.string ⟨(sign 11).toArray⟩) (.agg #[.int .i64 11, .int .i64 num, .string text, .slice pa parts.length pc, .slice na params.length nc, .slice ba body.length bc])) (JC B w1 v l [(6, 60, M), (7, 4, [])] 1000 1000 1001 [] 1000 0) (by kernel_rfl) (by kernel_rfl) (by kernel_rfl) (JC.start HR.out _ rfl) ?_ ?_
  · intro hon q hq L a1 W hC hl hBh hS hJ K hK
    have hqn : q < 8 := hq
    clear hq
    rcases (show q = 0 ∨ q = 1 ∨ q = 2 ∨ q = 3 ∨ q = 4 ∨ q = 5 ∨ q = 6 ∨ q = 7 from by omega) with rfl | rfl | rfl | rfl | rfl | rfl | rfl | rfl
    · have e0 := (eval_tmp a1 0).symm.trans ((hS.kept 0 (by kernel_rfl)).trans rfl)
      refine wpOp_step rfl (fun K' hK' => ?_)
      go_simp
      exact hK' _ _ (hK _ _ (hS.put hon (i := 0) rfl rfl (fun u hu => by cases hu; rfl)) (hJ.pure (by simp) (by decide)))
    · have e3 := (eval_tmp a1 3).symm.trans ((hS.kept 3 (by kernel_rfl)).trans rfl)
      refine wpOp_step rfl (fun K' hK' => ?_)
      go_simp
      exact hK' _ _ (hK _ _ (hS.put hon (i := 1) rfl rfl (fun u hu => by cases hu; rfl)) (hJ.pure (by simp) (by decide)))
    · have e55 := (eval_tmp a1 55).symm.trans (hS.get hBh (i := 2) rfl 1 (by simp) rfl rfl rfl)
      have hbx : W.heap[gb]? = _ := HR.out.block hJ.gr HBX.out (by decide)
      have hcl2 : W.cell? ⟨gb, 0, none⟩ = some (.int .i64 11) := by simp [World.cell?, hbx]
      refine wpOp_step rfl (fun K' hK' => ?_)
      go_simp
      exact hK' _ _ (hK _ _ (hS.put hon (i := 2) rfl rfl (fun u hu => by cases hu; rfl)) (hJ.pure (by simp) (by decide)))
    · have e56 := (eval_tmp a1 56).symm.trans (hS.get hBh (i := 3) rfl 2 (by simp) rfl rfl rfl)
      refine wpOp_step rfl (fun K' hK' => ?_)
      go_simp
      exact hK' _ _ (hK _ _ (hS.put hon (i := 3) rfl rfl (fun u hu => by cases hu; rfl)) (hJ.pure (by simp) (by decide)))
    · have e57 := (eval_tmp a1 57).symm.trans (hS.get hBh (i := 4) rfl 3 (by simp) rfl rfl rfl)
      have hsg := HS.out W ((HBW.out.mono hB).trans (HR.out.bel hJ.gr hB1))
      refine wpOp_step rfl (fun K' hK' => ?_)
      go_simp
      exact hK' _ _ (hK _ _ (hS.put hon (i := 4) rfl rfl (fun u hu => by cases hu; rfl)) (hJ.pure (by simp) (by decide)))
    · have e3 := (eval_tmp a1 3).symm.trans ((hS.kept 3 (by kernel_rfl)).trans rfl)
      have hbx : W.heap[gb]? = _ := HR.out.block hJ.gr HBX.out (by decide)
      have hq0 : W.cell? ⟨gb, 0, none⟩ = some (.int .i64 11) := by simp [World.cell?, hbx]
      have hq1 : W.cell? ⟨gb, 1, none⟩ = some (.int .i64 num) := by simp [World.cell?, hbx]
      have hq2 : W.cell? ⟨gb, 2, none⟩ = some (.string text) := by simp [World.cell?, hbx]
      have hq3 : W.cell? ⟨gb, 3, none⟩ = some (.slice pa parts.length pc) := by simp [World.cell?, hbx]
      have hq4 : W.cell? ⟨gb, 4, none⟩ = some (.slice na params.length nc) := by simp [World.cell?, hbx]
      have hq5 : W.cell? ⟨gb, 5, none⟩ = some (.slice ba body.length bc) := by simp [World.cell?, hbx]
      refine wpOp_step rfl (fun K' hK' => ?_)
      go_simp
      exact hK' _ _ (hK _ _ (hS.put hon (i := 5) rfl rfl (fun u hu => by cases hu; rfl)) (hJ.pure (by simp) (by decide)))
    · have n7 : L 7 = false := closed_not hC hl (i := 7) (j := 6) rfl (g := .data) (by simp) rfl
      have hx : curX L l [(6, 60, M), (7, 4, [])] = l := by simp [curX, hl]
      have e54 := (eval_tmp a1 54).symm.trans (hS.get hBh (i := 6) rfl 0 (by simp) rfl rfl rfl)
      have e58 := (eval_tmp a1 58).symm.trans (hS.get hBh (i := 6) rfl 4 (by simp) rfl rfl rfl)
      have e59 := (eval_tmp a1 59).symm.trans (hS.get hBh (i := 6) rfl 5 (by simp) rfl rfl rfl)
      have hrow := hJ.row
      rw [hx] at hrow
      have hcu : cur L a1 v [(6, 60, M), (7, 4, [])] = v := (by simp [cur, hl])
      rw [hcu] at hrow
      have hgr := hJ.gr
      rw [hcu] at hgr
      have hB2 : B ≤ W.heap.size := Nat.le_trans hB1 hgr.size
      have hbel := HR.out.bel hgr hB1
      refine wpOp_call (f := 39) (args := #[v, .string ⟨(sign 11).toArray⟩, .agg #[.int .i64 11, .int .i64 num, .string text, .slice pa parts.length pc, .slice na params.length nc, .slice ba body.length bc]]) (R := fun u W2 => Bt B W2 u (l ++ (M)) ∧ Gr W W2 v u) rfl rfl (by simp [execOp, resolve, invoke, e54, e58, e59, go_sem]) ((HM.out W v _ hrow hB2 ((HBW.out.mono hB).trans hbel) (by first | omega | (simp; omega))).mono fun e W2 ⟨u, h1, h2, h3⟩ => ⟨u, h1, h2, h3⟩) ?_
      rintro u W2 ⟨r1, r2⟩
      exact hK _ _ (hS.put hon (i := 6) rfl rfl (fun u hu => by cases hu)) (hJ.step (C1 := []) (C2 := [(7, 4, [])]) (by rw [hS.size]; exact (by decide : (60 : Nat) < 83)) (by simp) hl (by simp [n7]) (by decide) (by show Bt B W2 u (curX L l [(6, 60, M), (7, 4, [])] ++ (M)); rw [hx]; exact r1) (by show Gr W W2 (cur L a1 v [(6, 60, M), (7, 4, [])]) u; rw [hcu]; exact r2))
    · have d6 : L 6 = true := hBh _ rfl ⟨6, .data⟩ (by simp) rfl
      obtain ⟨vc, hvc⟩ : ∃ x, a1.eval (.tmp 60) = x := ⟨_, rfl⟩
      have hx : curX L l [(6, 60, M), (7, 4, [])] = l ++ (M) := by simp [curX, d6, hl]
      have e9 := (eval_tmp a1 60).symm.trans hvc
      refine wpOp_step rfl (fun K' hK' => ?_)
      go_simp
      exact hK' _ _ (hK _ _ (hS.put hon (i := 7) rfl rfl (fun u hu => by cases hu)) (hJ.hand (C1 := [(6, 60, M)]) (C2 := []) (by rw [hS.size]; exact (by decide : (4 : Nat) < 83)) (by simp [d6]) hl (by simp) (by decide) (by rw [← hvc]; simp [cur, d6, hl])))
  · intro L a1 w2 hl hS hJ
    have d6 : L 6 = true := hl 6 (by decide)
    have d7 : L 7 = true := hl 7 (by decide)
    have hcu : cur L a1 v [(6, 60, M), (7, 4, [])] = a1.eval (.tmp 4) := by simp [cur, d6, d7]
    have hx : curX L l [(6, 60, M), (7, 4, [])] = l ++ (M) := by simp [curX, d6, d7]
    have hrow := hJ.row
    have hgr := hJ.gr
    rw [hcu] at hgr
    rw [hcu, hx] at hrow
    have hfr := hS.frame [54, 55, 56, 57, 58, 59, 60, 4] rfl
    refine (‹∀ (a : Act) (w : World), Code.wp Tryz.prog _ _ a w → _› a1 w2 ?_)
    obtain ⟨z, hz⟩ : ∃ z : Nat → Value, z = fun k => a1.eval (.tmp k) := ⟨_, rfl⟩
    rw [← hz] at hfr
    have ze : a1.eval (.tmp 4) = z 4 := by rw [hz]
    rw [ze] at hrow hgr
    rw [hfr]
    clear hfr ze hz hS hJ hcu hx hl d6 d7
    simp only [over, List.setIfInBounds_toArray, List.set_cons_zero, List.set_cons_succ]
    obtain ⟨v2, hv⟩ : ∃ u, z 4 = u := ⟨_, rfl⟩
    rw [hv] at hrow hgr ⊢
    clear hv
    have r2 := hrow
    have g2 := hgr
    clear hrow hgr
    have HR2 : Hid (Bt B w2 v2 (l ++ M)) := by show Bt _ _ _ _; simpa using r2
    have HG2 : Hid (Gr w1 w2 v v2) := by show Gr _ _ _ _; exact (Gr.refl _ _).trans g2
    have hB2 : B ≤ w2.heap.size := Nat.le_trans hB1 HG2.out.size
    clear r2 g2
    have HRz : Hid (Bt B w2 v2 (l ++ M)) := by show Bt _ _ _ _; simpa using HR2.out
    have HGz : Hid (Gr w w2 v v2) := by show Gr _ _ _ _; exact (HG2.out).pre HBW.out (fun k hk => (HR0.out.lt k hk).2)
    go_wp2
    go_ret
    exact ⟨v2, rfl, HRz.out, HGz.out⟩
set_option maxRecDepth 100000 in
set_option maxHeartbeats 4000000 in
theorem addExpr12 {num : Int} {text : ByteArray} {parts : List TE} {params : List ByteArray} {body : List TS} {pa na ba : Option Addr} {pc nc bc : Nat} {B : Nat} {w : World} {v : Value} {l M : Bs} (hR : Bt B w v l) (hB : B ≤ w.heap.size) (hlM : l.length + M.length ≤ 1000000000) (hS : ∀ W, Below B w W → W.cell? ⟨0, 12, none⟩ = some (.string ⟨(sign 12).toArray⟩))
    (HM : Hid (∀ W u X, Bt B W u X → B ≤ W.heap.size → Below B w W → X.length + M.length ≤ 1000000000 → Calls Tryz.prog 39 #[u, .string ⟨(sign 12).toArray⟩, .agg #[.int .i64 12, .int .i64 num, .string text, .slice pa parts.length pc, .slice na params.length nc, .slice ba body.length bc]] W fun en W2 => ∃ u2, en = .returned u2 ∧ Bt B W2 u2 (X ++ M) ∧ Gr W W2 u u2)) :
    Calls Tryz.prog 23 #[v, .agg #[.int .i64 12, .int .i64 num, .string text, .slice pa parts.length pc, .slice na params.length nc, .slice ba body.length bc]] w fun en w' => ∃ v', en = .returned v' ∧ Bt B w' v' (l ++ M) ∧ Gr w w' v v' := by
  have HR0 : Hid (Bt B w v l) := hR
  clear hR
  have HS := Lib.hid hS
  clear hS
  go_enter Tryz.func23, Tryz.ntmps23
  go_wp2_with fail
  obtain ⟨w1, hw1⟩ : ∃ w1, w1 = w.alloc (.cells #[.int .i64 12, .int .i64 num, .string text, .slice pa parts.length pc, .slice na params.length nc, .slice ba body.length bc] 35) := ⟨_, rfl⟩
  obtain ⟨gb, hgb⟩ : ∃ gb, gb = w.heap.size := ⟨_, rfl⟩
  have HBW : Hid (Below w.heap.size w w1) := by rw [hw1]; exact (Below.refl _ _).alloc (Nat.le_refl _) _
  have HBX : Hid (w1.heap[gb]? = some (.cells #[.int .i64 12, .int .i64 num, .string text, .slice pa parts.length pc, .slice na params.length nc, .slice ba body.length bc] 35 (0, 0))) := by rw [hw1, hgb]; exact heap_alloc_new _ _
  have HR : Hid (Bt B w1 v l) := by rw [hw1]; exact HR0.out.alloc _
  have hB1 : B ≤ w1.heap.size := Nat.le_trans hB HBW.out.size
  rw [← hw1, ← hgb]
  clear hw1 hgb
  refine region_sh (valX v gb 12 (.string ⟨(sign 12).toArray⟩) (.agg #[.int .i64 12, .int .i64 num, .string text, .slice pa parts.length pc, .slice na params.length nc, .slice ba body.length bc])) (JC B w1 v l [(6, 60, M), (7, 4, [])] 1000 1000 1001 [] 1000 0) (by kernel_rfl) (by kernel_rfl) (by kernel_rfl) (JC.start HR.out _ rfl) ?_ ?_
  · intro hon q hq L a1 W hC hl hBh hS hJ K hK
    have hqn : q < 8 := hq
    clear hq
    rcases (show q = 0 ∨ q = 1 ∨ q = 2 ∨ q = 3 ∨ q = 4 ∨ q = 5 ∨ q = 6 ∨ q = 7 from by omega) with rfl | rfl | rfl | rfl | rfl | rfl | rfl | rfl
    · have e0 := (eval_tmp a1 0).symm.trans ((hS.kept 0 (by kernel_rfl)).trans rfl)
      refine wpOp_step rfl (fun K' hK' => ?_)
      go_simp
      exact hK' _ _ (hK _ _ (hS.put hon (i := 0) rfl rfl (fun u hu => by cases hu; rfl)) (hJ.pure (by simp) (by decide)))
    · have e3 := (eval_tmp a1 3).symm.trans ((hS.kept 3 (by kernel_rfl)).trans rfl)
      refine wpOp_step rfl (fun K' hK' => ?_)
      go_simp
      exact hK' _ _ (hK _ _ (hS.put hon (i := 1) rfl rfl (fun u hu => by cases hu; rfl)) (hJ.pure (by simp) (by decide)))
    · have e55 := (eval_tmp a1 55).symm.trans (hS.get hBh (i := 2) rfl 1 (by simp) rfl rfl rfl)
      have hbx : W.heap[gb]? = _ := HR.out.block hJ.gr HBX.out (by decide)
      have hcl2 : W.cell? ⟨gb, 0, none⟩ = some (.int .i64 12) := by simp [World.cell?, hbx]
      refine wpOp_step rfl (fun K' hK' => ?_)
      go_simp
      exact hK' _ _ (hK _ _ (hS.put hon (i := 2) rfl rfl (fun u hu => by cases hu; rfl)) (hJ.pure (by simp) (by decide)))
    · have e56 := (eval_tmp a1 56).symm.trans (hS.get hBh (i := 3) rfl 2 (by simp) rfl rfl rfl)
      refine wpOp_step rfl (fun K' hK' => ?_)
      go_simp
      exact hK' _ _ (hK _ _ (hS.put hon (i := 3) rfl rfl (fun u hu => by cases hu; rfl)) (hJ.pure (by simp) (by decide)))
    · have e57 := (eval_tmp a1 57).symm.trans (hS.get hBh (i := 4) rfl 3 (by simp) rfl rfl rfl)
      have hsg := HS.out W ((HBW.out.mono hB).trans (HR.out.bel hJ.gr hB1))
      refine wpOp_step rfl (fun K' hK' => ?_)
      go_simp
      exact hK' _ _ (hK _ _ (hS.put hon (i := 4) rfl rfl (fun u hu => by cases hu; rfl)) (hJ.pure (by simp) (by decide)))
    · have e3 := (eval_tmp a1 3).symm.trans ((hS.kept 3 (by kernel_rfl)).trans rfl)
      have hbx : W.heap[gb]? = _ := HR.out.block hJ.gr HBX.out (by decide)
      have hq0 : W.cell? ⟨gb, 0, none⟩ = some (.int .i64 12) := by simp [World.cell?, hbx]
      have hq1 : W.cell? ⟨gb, 1, none⟩ = some (.int .i64 num) := by simp [World.cell?, hbx]
      have hq2 : W.cell? ⟨gb, 2, none⟩ = some (.string text) := by simp [World.cell?, hbx]
      have hq3 : W.cell? ⟨gb, 3, none⟩ = some (.slice pa parts.length pc) := by simp [World.cell?, hbx]
      have hq4 : W.cell? ⟨gb, 4, none⟩ = some (.slice na params.length nc) := by simp [World.cell?, hbx]
      have hq5 : W.cell? ⟨gb, 5, none⟩ = some (.slice ba body.length bc) := by simp [World.cell?, hbx]
      refine wpOp_step rfl (fun K' hK' => ?_)
      go_simp
      exact hK' _ _ (hK _ _ (hS.put hon (i := 5) rfl rfl (fun u hu => by cases hu; rfl)) (hJ.pure (by simp) (by decide)))
    · have n7 : L 7 = false := closed_not hC hl (i := 7) (j := 6) rfl (g := .data) (by simp) rfl
      have hx : curX L l [(6, 60, M), (7, 4, [])] = l := by simp [curX, hl]
      have e54 := (eval_tmp a1 54).symm.trans (hS.get hBh (i := 6) rfl 0 (by simp) rfl rfl rfl)
      have e58 := (eval_tmp a1 58).symm.trans (hS.get hBh (i := 6) rfl 4 (by simp) rfl rfl rfl)
      have e59 := (eval_tmp a1 59).symm.trans (hS.get hBh (i := 6) rfl 5 (by simp) rfl rfl rfl)
      have hrow := hJ.row
      rw [hx] at hrow
      have hcu : cur L a1 v [(6, 60, M), (7, 4, [])] = v := (by simp [cur, hl])
      rw [hcu] at hrow
      have hgr := hJ.gr
      rw [hcu] at hgr
      have hB2 : B ≤ W.heap.size := Nat.le_trans hB1 hgr.size
      have hbel := HR.out.bel hgr hB1
      refine wpOp_call (f := 39) (args := #[v, .string ⟨(sign 12).toArray⟩, .agg #[.int .i64 12, .int .i64 num, .string text, .slice pa parts.length pc, .slice na params.length nc, .slice ba body.length bc]]) (R := fun u W2 => Bt B W2 u (l ++ (M)) ∧ Gr W W2 v u) rfl rfl (by simp [execOp, resolve, invoke, e54, e58, e59, go_sem]) ((HM.out W v _ hrow hB2 ((HBW.out.mono hB).trans hbel) (by first | omega | (simp; omega))).mono fun e W2 ⟨u, h1, h2, h3⟩ => ⟨u, h1, h2, h3⟩) ?_
      rintro u W2 ⟨r1, r2⟩
      exact hK _ _ (hS.put hon (i := 6) rfl rfl (fun u hu => by cases hu)) (hJ.step (C1 := []) (C2 := [(7, 4, [])]) (by rw [hS.size]; exact (by decide : (60 : Nat) < 83)) (by simp) hl (by simp [n7]) (by decide) (by show Bt B W2 u (curX L l [(6, 60, M), (7, 4, [])] ++ (M)); rw [hx]; exact r1) (by show Gr W W2 (cur L a1 v [(6, 60, M), (7, 4, [])]) u; rw [hcu]; exact r2))
    · have d6 : L 6 = true := hBh _ rfl ⟨6, .data⟩ (by simp) rfl
      obtain ⟨vc, hvc⟩ : ∃ x, a1.eval (.tmp 60) = x := ⟨_, rfl⟩
      have hx : curX L l [(6, 60, M), (7, 4, [])] = l ++ (M) := by simp [curX, d6, hl]
      have e9 := (eval_tmp a1 60).symm.trans hvc
      refine wpOp_step rfl (fun K' hK' => ?_)
      go_simp
      exact hK' _ _ (hK _ _ (hS.put hon (i := 7) rfl rfl (fun u hu => by cases hu)) (hJ.hand (C1 := [(6, 60, M)]) (C2 := []) (by rw [hS.size]; exact (by decide : (4 : Nat) < 83)) (by simp [d6]) hl (by simp) (by decide) (by rw [← hvc]; simp [cur, d6, hl])))
  · intro L a1 w2 hl hS hJ
    have d6 : L 6 = true := hl 6 (by decide)
    have d7 : L 7 = true := hl 7 (by decide)
    have hcu : cur L a1 v [(6, 60, M), (7, 4, [])] = a1.eval (.tmp 4) := by simp [cur, d6, d7]
    have hx : curX L l [(6, 60, M), (7, 4, [])] = l ++ (M) := by simp [curX, d6, d7]
    have hrow := hJ.row
    have hgr := hJ.gr
    rw [hcu] at hgr
    rw [hcu, hx] at hrow
    have hfr := hS.frame [54, 55, 56, 57, 58, 59, 60, 4] rfl
    refine (‹∀ (a : Act) (w : World), Code.wp Tryz.prog _ _ a w → _› a1 w2 ?_)
    obtain ⟨z, hz⟩ : ∃ z : Nat → Value, z = fun k => a1.eval (.tmp k) := ⟨_, rfl⟩
    rw [← hz] at hfr
    have ze : a1.eval (.tmp 4) = z 4 := by rw [hz]
    rw [ze] at hrow hgr
    rw [hfr]
    clear hfr ze hz hS hJ hcu hx hl d6 d7
    simp only [over, List.setIfInBounds_toArray, List.set_cons_zero, List.set_cons_succ]
    obtain ⟨v2, hv⟩ : ∃ u, z 4 = u := ⟨_, rfl⟩
    rw [hv] at hrow hgr ⊢
    clear hv
    have r2 := hrow
    have g2 := hgr
    clear hrow hgr
    have HR2 : Hid (Bt B w2 v2 (l ++ M)) := by show Bt _ _ _ _; simpa using r2
    have HG2 : Hid (Gr w1 w2 v v2) := by show Gr _ _ _ _; exact (Gr.refl _ _).trans g2
    have hB2 : B ≤ w2.heap.size := Nat.le_trans hB1 HG2.out.size
    clear r2 g2
    have HRz : Hid (Bt B w2 v2 (l ++ M)) := by show Bt _ _ _ _; simpa using HR2.out
    have HGz : Hid (Gr w w2 v v2) := by show Gr _ _ _ _; exact (HG2.out).pre HBW.out (fun k hk => (HR0.out.lt k hk).2)
    go_wp2
    go_ret
    exact ⟨v2, rfl, HRz.out, HGz.out⟩
set_option maxRecDepth 100000 in
set_option maxHeartbeats 4000000 in
theorem addExpr13 {num : Int} {text : ByteArray} {parts : List TE} {params : List ByteArray} {body : List TS} {pa na ba : Option Addr} {pc nc bc : Nat} {B : Nat} {w : World} {v : Value} {l M : Bs} (hR : Bt B w v l) (hB : B ≤ w.heap.size) (hlM : l.length + M.length ≤ 1000000000) (hS : ∀ W, Below B w W → W.cell? ⟨0, 13, none⟩ = some (.string ⟨(sign 13).toArray⟩))
    (HM : Hid (∀ W u X, Bt B W u X → B ≤ W.heap.size → Below B w W → X.length + M.length ≤ 1000000000 → Calls Tryz.prog 39 #[u, .string ⟨(sign 13).toArray⟩, .agg #[.int .i64 13, .int .i64 num, .string text, .slice pa parts.length pc, .slice na params.length nc, .slice ba body.length bc]] W fun en W2 => ∃ u2, en = .returned u2 ∧ Bt B W2 u2 (X ++ M) ∧ Gr W W2 u u2)) :
    Calls Tryz.prog 23 #[v, .agg #[.int .i64 13, .int .i64 num, .string text, .slice pa parts.length pc, .slice na params.length nc, .slice ba body.length bc]] w fun en w' => ∃ v', en = .returned v' ∧ Bt B w' v' (l ++ M) ∧ Gr w w' v v' := by
  have HR0 : Hid (Bt B w v l) := hR
  clear hR
  have HS := Lib.hid hS
  clear hS
  go_enter Tryz.func23, Tryz.ntmps23
  go_wp2_with fail
  obtain ⟨w1, hw1⟩ : ∃ w1, w1 = w.alloc (.cells #[.int .i64 13, .int .i64 num, .string text, .slice pa parts.length pc, .slice na params.length nc, .slice ba body.length bc] 35) := ⟨_, rfl⟩
  obtain ⟨gb, hgb⟩ : ∃ gb, gb = w.heap.size := ⟨_, rfl⟩
  have HBW : Hid (Below w.heap.size w w1) := by rw [hw1]; exact (Below.refl _ _).alloc (Nat.le_refl _) _
  have HBX : Hid (w1.heap[gb]? = some (.cells #[.int .i64 13, .int .i64 num, .string text, .slice pa parts.length pc, .slice na params.length nc, .slice ba body.length bc] 35 (0, 0))) := by rw [hw1, hgb]; exact heap_alloc_new _ _
  have HR : Hid (Bt B w1 v l) := by rw [hw1]; exact HR0.out.alloc _
  have hB1 : B ≤ w1.heap.size := Nat.le_trans hB HBW.out.size
  rw [← hw1, ← hgb]
  clear hw1 hgb
  refine region_sh (valX v gb 13 (.string ⟨(sign 13).toArray⟩) (.agg #[.int .i64 13, .int .i64 num, .string text, .slice pa parts.length pc, .slice na params.length nc, .slice ba body.length bc])) (JC B w1 v l [(6, 60, M), (7, 4, [])] 1000 1000 1001 [] 1000 0) (by kernel_rfl) (by kernel_rfl) (by kernel_rfl) (JC.start HR.out _ rfl) ?_ ?_
  · intro hon q hq L a1 W hC hl hBh hS hJ K hK
    have hqn : q < 8 := hq
    clear hq
    rcases (show q = 0 ∨ q = 1 ∨ q = 2 ∨ q = 3 ∨ q = 4 ∨ q = 5 ∨ q = 6 ∨ q = 7 from by omega) with rfl | rfl | rfl | rfl | rfl | rfl | rfl | rfl
    · have e0 := (eval_tmp a1 0).symm.trans ((hS.kept 0 (by kernel_rfl)).trans rfl)
      refine wpOp_step rfl (fun K' hK' => ?_)
      go_simp
      exact hK' _ _ (hK _ _ (hS.put hon (i := 0) rfl rfl (fun u hu => by cases hu; rfl)) (hJ.pure (by simp) (by decide)))
    · have e3 := (eval_tmp a1 3).symm.trans ((hS.kept 3 (by kernel_rfl)).trans rfl)
      refine wpOp_step rfl (fun K' hK' => ?_)
      go_simp
      exact hK' _ _ (hK _ _ (hS.put hon (i := 1) rfl rfl (fun u hu => by cases hu; rfl)) (hJ.pure (by simp) (by decide)))
    · have e55 := (eval_tmp a1 55).symm.trans (hS.get hBh (i := 2) rfl 1 (by simp) rfl rfl rfl)
      have hbx : W.heap[gb]? = _ := HR.out.block hJ.gr HBX.out (by decide)
      have hcl2 : W.cell? ⟨gb, 0, none⟩ = some (.int .i64 13) := by simp [World.cell?, hbx]
      refine wpOp_step rfl (fun K' hK' => ?_)
      go_simp
      exact hK' _ _ (hK _ _ (hS.put hon (i := 2) rfl rfl (fun u hu => by cases hu; rfl)) (hJ.pure (by simp) (by decide)))
    · have e56 := (eval_tmp a1 56).symm.trans (hS.get hBh (i := 3) rfl 2 (by simp) rfl rfl rfl)
      refine wpOp_step rfl (fun K' hK' => ?_)
      go_simp
      exact hK' _ _ (hK _ _ (hS.put hon (i := 3) rfl rfl (fun u hu => by cases hu; rfl)) (hJ.pure (by simp) (by decide)))
    · have e57 := (eval_tmp a1 57).symm.trans (hS.get hBh (i := 4) rfl 3 (by simp) rfl rfl rfl)
      have hsg := HS.out W ((HBW.out.mono hB).trans (HR.out.bel hJ.gr hB1))
      refine wpOp_step rfl (fun K' hK' => ?_)
      go_simp
      exact hK' _ _ (hK _ _ (hS.put hon (i := 4) rfl rfl (fun u hu => by cases hu; rfl)) (hJ.pure (by simp) (by decide)))
    · have e3 := (eval_tmp a1 3).symm.trans ((hS.kept 3 (by kernel_rfl)).trans rfl)
      have hbx : W.heap[gb]? = _ := HR.out.block hJ.gr HBX.out (by decide)
      have hq0 : W.cell? ⟨gb, 0, none⟩ = some (.int .i64 13) := by simp [World.cell?, hbx]
      have hq1 : W.cell? ⟨gb, 1, none⟩ = some (.int .i64 num) := by simp [World.cell?, hbx]
      have hq2 : W.cell? ⟨gb, 2, none⟩ = some (.string text) := by simp [World.cell?, hbx]
      have hq3 : W.cell? ⟨gb, 3, none⟩ = some (.slice pa parts.length pc) := by simp [World.cell?, hbx]
      have hq4 : W.cell? ⟨gb, 4, none⟩ = some (.slice na params.length nc) := by simp [World.cell?, hbx]
      have hq5 : W.cell? ⟨gb, 5, none⟩ = some (.slice ba body.length bc) := by simp [World.cell?, hbx]
      refine wpOp_step rfl (fun K' hK' => ?_)
      go_simp
      exact hK' _ _ (hK _ _ (hS.put hon (i := 5) rfl rfl (fun u hu => by cases hu; rfl)) (hJ.pure (by simp) (by decide)))
    · have n7 : L 7 = false := closed_not hC hl (i := 7) (j := 6) rfl (g := .data) (by simp) rfl
      have hx : curX L l [(6, 60, M), (7, 4, [])] = l := by simp [curX, hl]
      have e54 := (eval_tmp a1 54).symm.trans (hS.get hBh (i := 6) rfl 0 (by simp) rfl rfl rfl)
      have e58 := (eval_tmp a1 58).symm.trans (hS.get hBh (i := 6) rfl 4 (by simp) rfl rfl rfl)
      have e59 := (eval_tmp a1 59).symm.trans (hS.get hBh (i := 6) rfl 5 (by simp) rfl rfl rfl)
      have hrow := hJ.row
      rw [hx] at hrow
      have hcu : cur L a1 v [(6, 60, M), (7, 4, [])] = v := (by simp [cur, hl])
      rw [hcu] at hrow
      have hgr := hJ.gr
      rw [hcu] at hgr
      have hB2 : B ≤ W.heap.size := Nat.le_trans hB1 hgr.size
      have hbel := HR.out.bel hgr hB1
      refine wpOp_call (f := 39) (args := #[v, .string ⟨(sign 13).toArray⟩, .agg #[.int .i64 13, .int .i64 num, .string text, .slice pa parts.length pc, .slice na params.length nc, .slice ba body.length bc]]) (R := fun u W2 => Bt B W2 u (l ++ (M)) ∧ Gr W W2 v u) rfl rfl (by simp [execOp, resolve, invoke, e54, e58, e59, go_sem]) ((HM.out W v _ hrow hB2 ((HBW.out.mono hB).trans hbel) (by first | omega | (simp; omega))).mono fun e W2 ⟨u, h1, h2, h3⟩ => ⟨u, h1, h2, h3⟩) ?_
      rintro u W2 ⟨r1, r2⟩
      exact hK _ _ (hS.put hon (i := 6) rfl rfl (fun u hu => by cases hu)) (hJ.step (C1 := []) (C2 := [(7, 4, [])]) (by rw [hS.size]; exact (by decide : (60 : Nat) < 83)) (by simp) hl (by simp [n7]) (by decide) (by show Bt B W2 u (curX L l [(6, 60, M), (7, 4, [])] ++ (M)); rw [hx]; exact r1) (by show Gr W W2 (cur L a1 v [(6, 60, M), (7, 4, [])]) u; rw [hcu]; exact r2))
    · have d6 : L 6 = true := hBh _ rfl ⟨6, .data⟩ (by simp) rfl
      obtain ⟨vc, hvc⟩ : ∃ x, a1.eval (.tmp 60) = x := ⟨_, rfl⟩
      have hx : curX L l [(6, 60, M), (7, 4, [])] = l ++ (M) := by simp [curX, d6, hl]
      have e9 := (eval_tmp a1 60).symm.trans hvc
      refine wpOp_step rfl (fun K' hK' => ?_)
      go_simp
      exact hK' _ _ (hK _ _ (hS.put hon (i := 7) rfl rfl (fun u hu => by cases hu)) (hJ.hand (C1 := [(6, 60, M)]) (C2 := []) (by rw [hS.size]; exact (by decide : (4 : Nat) < 83)) (by simp [d6]) hl (by simp) (by decide) (by rw [← hvc]; simp [cur, d6, hl])))
  · intro L a1 w2 hl hS hJ
    have d6 : L 6 = true := hl 6 (by decide)
    have d7 : L 7 = true := hl 7 (by decide)
    have hcu : cur L a1 v [(6, 60, M), (7, 4, [])] = a1.eval (.tmp 4) := by simp [cur, d6, d7]
    have hx : curX L l [(6, 60, M), (7, 4, [])] = l ++ (M) := by simp [curX, d6, d7]
    have hrow := hJ.row
    have hgr := hJ.gr
    rw [hcu] at hgr
    rw [hcu, hx] at hrow
    have hfr := hS.frame [54, 55, 56, 57, 58, 59, 60, 4] rfl
    refine (‹∀ (a : Act) (w : World), Code.wp Tryz.prog _ _ a w → _› a1 w2 ?_)
    obtain ⟨z, hz⟩ : ∃ z : Nat → Value, z = fun k => a1.eval (.tmp k) := ⟨_, rfl⟩
    rw [← hz] at hfr
    have ze : a1.eval (.tmp 4) = z 4 := by rw [hz]
    rw [ze] at hrow hgr
    rw [hfr]
    clear hfr ze hz hS hJ hcu hx hl d6 d7
    simp only [over, List.setIfInBounds_toArray, List.set_cons_zero, List.set_cons_succ]
    obtain ⟨v2, hv⟩ : ∃ u, z 4 = u := ⟨_, rfl⟩
    rw [hv] at hrow hgr ⊢
    clear hv
    have r2 := hrow
    have g2 := hgr
    clear hrow hgr
    have HR2 : Hid (Bt B w2 v2 (l ++ M)) := by show Bt _ _ _ _; simpa using r2
    have HG2 : Hid (Gr w1 w2 v v2) := by show Gr _ _ _ _; exact (Gr.refl _ _).trans g2
    have hB2 : B ≤ w2.heap.size := Nat.le_trans hB1 HG2.out.size
    clear r2 g2
    have HRz : Hid (Bt B w2 v2 (l ++ M)) := by show Bt _ _ _ _; simpa using HR2.out
    have HGz : Hid (Gr w w2 v v2) := by show Gr _ _ _ _; exact (HG2.out).pre HBW.out (fun k hk => (HR0.out.lt k hk).2)
    go_wp2
    go_ret
    exact ⟨v2, rfl, HRz.out, HGz.out⟩
set_option maxRecDepth 100000 in
set_option maxHeartbeats 4000000 in
theorem addExpr14 {num : Int} {text : ByteArray} {parts : List TE} {params : List ByteArray} {body : List TS} {pa na ba : Option Addr} {pc nc bc : Nat} {B : Nat} {w : World} {v : Value} {l M : Bs} (hR : Bt B w v l) (hB : B ≤ w.heap.size) (hlM : l.length + M.length ≤ 1000000000)
    (HM : Hid (∀ W u X, Bt B W u X → B ≤ W.heap.size → Below B w W → X.length + M.length ≤ 1000000000 → Calls Tryz.prog 40 #[u, .slice pa parts.length pc] W fun en W2 => ∃ u2, en = .returned u2 ∧ Bt B W2 u2 (X ++ M) ∧ Gr W W2 u u2)) :
    Calls Tryz.prog 23 #[v, .agg #[.int .i64 14, .int .i64 num, .string text, .slice pa parts.length pc, .slice na params.length nc, .slice ba body.length bc]] w fun en w' => ∃ v', en = .returned v' ∧ Bt B w' v' (l ++ M) ∧ Gr w w' v v' := by
  have HR0 : Hid (Bt B w v l) := hR
  clear hR
  go_enter Tryz.func23, Tryz.ntmps23
  go_wp2_with fail
  obtain ⟨w1, hw1⟩ : ∃ w1, w1 = w.alloc (.cells #[.int .i64 14, .int .i64 num, .string text, .slice pa parts.length pc, .slice na params.length nc, .slice ba body.length bc] 35) := ⟨_, rfl⟩
  obtain ⟨gb, hgb⟩ : ∃ gb, gb = w.heap.size := ⟨_, rfl⟩
  have HBW : Hid (Below w.heap.size w w1) := by rw [hw1]; exact (Below.refl _ _).alloc (Nat.le_refl _) _
  have HBX : Hid (w1.heap[gb]? = some (.cells #[.int .i64 14, .int .i64 num, .string text, .slice pa parts.length pc, .slice na params.length nc, .slice ba body.length bc] 35 (0, 0))) := by rw [hw1, hgb]; exact heap_alloc_new _ _
  have HR : Hid (Bt B w1 v l) := by rw [hw1]; exact HR0.out.alloc _
  have hB1 : B ≤ w1.heap.size := Nat.le_trans hB HBW.out.size
  rw [← hw1, ← hgb]
  clear hw1 hgb
  refine (HM.out _ _ _ HR.out hB1 (HBW.out.mono hB) hlM).mono ?_
  rintro e w2 ⟨v2, rfl, r2, g2⟩
  have HR2 : Hid (Bt B w2 v2 (l ++ M)) := by show Bt _ _ _ _; simpa using r2
  have HG2 : Hid (Gr w1 w2 v v2) := by show Gr _ _ _ _; exact (Gr.refl _ _).trans g2
  have hB2 : B ≤ w2.heap.size := Nat.le_trans hB1 HG2.out.size
  clear r2 g2
  have HRz : Hid (Bt B w2 v2 (l ++ M)) := by show Bt _ _ _ _; simpa using HR2.out
  have HGz : Hid (Gr w w2 v v2) := by show Gr _ _ _ _; exact (HG2.out).pre HBW.out (fun k hk => (HR0.out.lt k hk).2)
  go_wp2
  go_ret
  exact ⟨v2, rfl, HRz.out, HGz.out⟩
set_option maxRecDepth 100000 in
set_option maxHeartbeats 4000000 in
theorem addExpr15 {num : Int} {text : ByteArray} {parts : List TE} {params : List ByteArray} {body : List TS} {pa na ba : Option Addr} {pc nc bc : Nat} {B : Nat} {w : World} {v : Value} {l M : Bs} (hR : Bt B w v l) (hB : B ≤ w.heap.size) (hlM : l.length + M.length ≤ 1000000000)
    (HM : Hid (∀ W u X, Bt B W u X → B ≤ W.heap.size → Below B w W → X.length + M.length ≤ 1000000000 → Calls Tryz.prog 41 #[u, .agg #[.int .i64 15, .int .i64 num, .string text, .slice pa parts.length pc, .slice na params.length nc, .slice ba body.length bc]] W fun en W2 => ∃ u2, en = .returned u2 ∧ Bt B W2 u2 (X ++ M) ∧ Gr W W2 u u2)) :
    Calls Tryz.prog 23 #[v, .agg #[.int .i64 15, .int .i64 num, .string text, .slice pa parts.length pc, .slice na params.length nc, .slice ba body.length bc]] w fun en w' => ∃ v', en = .returned v' ∧ Bt B w' v' (l ++ M) ∧ Gr w w' v v' := by
  have HR0 : Hid (Bt B w v l) := hR
  clear hR
  go_enter Tryz.func23, Tryz.ntmps23
  go_wp2_with fail
  obtain ⟨w1, hw1⟩ : ∃ w1, w1 = w.alloc (.cells #[.int .i64 15, .int .i64 num, .string text, .slice pa parts.length pc, .slice na params.length nc, .slice ba body.length bc] 35) := ⟨_, rfl⟩
  obtain ⟨gb, hgb⟩ : ∃ gb, gb = w.heap.size := ⟨_, rfl⟩
  have HBW : Hid (Below w.heap.size w w1) := by rw [hw1]; exact (Below.refl _ _).alloc (Nat.le_refl _) _
  have HBX : Hid (w1.heap[gb]? = some (.cells #[.int .i64 15, .int .i64 num, .string text, .slice pa parts.length pc, .slice na params.length nc, .slice ba body.length bc] 35 (0, 0))) := by rw [hw1, hgb]; exact heap_alloc_new _ _
  have HR : Hid (Bt B w1 v l) := by rw [hw1]; exact HR0.out.alloc _
  have hB1 : B ≤ w1.heap.size := Nat.le_trans hB HBW.out.size
  rw [← hw1, ← hgb]
  clear hw1 hgb
  refine (HM.out _ _ _ HR.out hB1 (HBW.out.mono hB) hlM).mono ?_
  rintro e w2 ⟨v2, rfl, r2, g2⟩
  have HR2 : Hid (Bt B w2 v2 (l ++ M)) := by show Bt _ _ _ _; simpa using r2
  have HG2 : Hid (Gr w1 w2 v v2) := by show Gr _ _ _ _; exact (Gr.refl _ _).trans g2
  have hB2 : B ≤ w2.heap.size := Nat.le_trans hB1 HG2.out.size
  clear r2 g2
  have HRz : Hid (Bt B w2 v2 (l ++ M)) := by show Bt _ _ _ _; simpa using HR2.out
  have HGz : Hid (Gr w w2 v v2) := by show Gr _ _ _ _; exact (HG2.out).pre HBW.out (fun k hk => (HR0.out.lt k hk).2)
  go_wp2
  go_ret
  exact ⟨v2, rfl, HRz.out, HGz.out⟩
set_option maxRecDepth 100000 in
set_option maxHeartbeats 4000000 in
theorem addExpr16 {num : Int} {text : ByteArray} {parts : List TE} {params : List ByteArray} {body : List TS} {pa na ba : Option Addr} {pc nc bc : Nat} {B : Nat} {w : World} {v : Value} {l M : Bs} (hR : Bt B w v l) (hB : B ≤ w.heap.size) (hlM : l.length + M.length ≤ 1000000000)
    (HM : Hid (∀ W u X, Bt B W u X → B ≤ W.heap.size → Below B w W → X.length + M.length ≤ 1000000000 → Calls Tryz.prog 42 #[u, .agg #[.int .i64 16, .int .i64 num, .string text, .slice pa parts.length pc, .slice na params.length nc, .slice ba body.length bc]] W fun en W2 => ∃ u2, en = .returned u2 ∧ Bt B W2 u2 (X ++ M) ∧ Gr W W2 u u2)) :
    Calls Tryz.prog 23 #[v, .agg #[.int .i64 16, .int .i64 num, .string text, .slice pa parts.length pc, .slice na params.length nc, .slice ba body.length bc]] w fun en w' => ∃ v', en = .returned v' ∧ Bt B w' v' (l ++ M) ∧ Gr w w' v v' := by
  have HR0 : Hid (Bt B w v l) := hR
  clear hR
  go_enter Tryz.func23, Tryz.ntmps23
  go_wp2_with fail
  obtain ⟨w1, hw1⟩ : ∃ w1, w1 = w.alloc (.cells #[.int .i64 16, .int .i64 num, .string text, .slice pa parts.length pc, .slice na params.length nc, .slice ba body.length bc] 35) := ⟨_, rfl⟩
  obtain ⟨gb, hgb⟩ : ∃ gb, gb = w.heap.size := ⟨_, rfl⟩
  have HBW : Hid (Below w.heap.size w w1) := by rw [hw1]; exact (Below.refl _ _).alloc (Nat.le_refl _) _
  have HBX : Hid (w1.heap[gb]? = some (.cells #[.int .i64 16, .int .i64 num, .string text, .slice pa parts.length pc, .slice na params.length nc, .slice ba body.length bc] 35 (0, 0))) := by rw [hw1, hgb]; exact heap_alloc_new _ _
  have HR : Hid (Bt B w1 v l) := by rw [hw1]; exact HR0.out.alloc _
  have hB1 : B ≤ w1.heap.size := Nat.le_trans hB HBW.out.size
  rw [← hw1, ← hgb]
  clear hw1 hgb
  refine (HM.out _ _ _ HR.out hB1 (HBW.out.mono hB) hlM).mono ?_
  rintro e w2 ⟨v2, rfl, r2, g2⟩
  have HR2 : Hid (Bt B w2 v2 (l ++ M)) := by show Bt _ _ _ _; simpa using r2
  have HG2 : Hid (Gr w1 w2 v v2) := by show Gr _ _ _ _; exact (Gr.refl _ _).trans g2
  have hB2 : B ≤ w2.heap.size := Nat.le_trans hB1 HG2.out.size
  clear r2 g2
  have HRz : Hid (Bt B w2 v2 (l ++ M)) := by show Bt _ _ _ _; simpa using HR2.out
  have HGz : Hid (Gr w w2 v v2) := by show Gr _ _ _ _; exact (HG2.out).pre HBW.out (fun k hk => (HR0.out.lt k hk).2)
  go_wp2
  go_ret
  exact ⟨v2, rfl, HRz.out, HGz.out⟩
set_option maxRecDepth 100000 in
set_option maxHeartbeats 4000000 in
theorem addExpr17 {num : Int} {text : ByteArray} {parts : List TE} {params : List ByteArray} {body : List TS} {pa na ba : Option Addr} {pc nc bc : Nat} {B : Nat} {w : World} {v : Value} {l M : Bs} (hR : Bt B w v l) (hB : B ≤ w.heap.size) (hlM : l.length + M.length ≤ 1000000000)
    (HM : Hid (∀ W u X, Bt B W u X → B ≤ W.heap.size → Below B w W → X.length + M.length ≤ 1000000000 → Calls Tryz.prog 43 #[u, .agg #[.int .i64 17, .int .i64 num, .string text, .slice pa parts.length pc, .slice na params.length nc, .slice ba body.length bc]] W fun en W2 => ∃ u2, en = .returned u2 ∧ Bt B W2 u2 (X ++ M) ∧ Gr W W2 u u2)) :
    Calls Tryz.prog 23 #[v, .agg #[.int .i64 17, .int .i64 num, .string text, .slice pa parts.length pc, .slice na params.length nc, .slice ba body.length bc]] w fun en w' => ∃ v', en = .returned v' ∧ Bt B w' v' (l ++ M) ∧ Gr w w' v v' := by
  have HR0 : Hid (Bt B w v l) := hR
  clear hR
  go_enter Tryz.func23, Tryz.ntmps23
  go_wp2_with fail
  obtain ⟨w1, hw1⟩ : ∃ w1, w1 = w.alloc (.cells #[.int .i64 17, .int .i64 num, .string text, .slice pa parts.length pc, .slice na params.length nc, .slice ba body.length bc] 35) := ⟨_, rfl⟩
  obtain ⟨gb, hgb⟩ : ∃ gb, gb = w.heap.size := ⟨_, rfl⟩
  have HBW : Hid (Below w.heap.size w w1) := by rw [hw1]; exact (Below.refl _ _).alloc (Nat.le_refl _) _
  have HBX : Hid (w1.heap[gb]? = some (.cells #[.int .i64 17, .int .i64 num, .string text, .slice pa parts.length pc, .slice na params.length nc, .slice ba body.length bc] 35 (0, 0))) := by rw [hw1, hgb]; exact heap_alloc_new _ _
  have HR : Hid (Bt B w1 v l) := by rw [hw1]; exact HR0.out.alloc _
  have hB1 : B ≤ w1.heap.size := Nat.le_trans hB HBW.out.size
  rw [← hw1, ← hgb]
  clear hw1 hgb
  refine (HM.out _ _ _ HR.out hB1 (HBW.out.mono hB) hlM).mono ?_
  rintro e w2 ⟨v2, rfl, r2, g2⟩
  have HR2 : Hid (Bt B w2 v2 (l ++ M)) := by show Bt _ _ _ _; simpa using r2
  have HG2 : Hid (Gr w1 w2 v v2) := by show Gr _ _ _ _; exact (Gr.refl _ _).trans g2
  have hB2 : B ≤ w2.heap.size := Nat.le_trans hB1 HG2.out.size
  clear r2 g2
  have HRz : Hid (Bt B w2 v2 (l ++ M)) := by show Bt _ _ _ _; simpa using HR2.out
  have HGz : Hid (Gr w w2 v v2) := by show Gr _ _ _ _; exact (HG2.out).pre HBW.out (fun k hk => (HR0.out.lt k hk).2)
  go_wp2
  go_ret
  exact ⟨v2, rfl, HRz.out, HGz.out⟩
theorem addNil : AddE noE := by
  intro B w v l vp vn vb hR hB hG hE hl
  obtain ⟨_, ⟨pa, pc, rfl, _⟩, ⟨na, nc, rfl, _⟩, ⟨ba, bc, rfl, _⟩⟩ := hE
  exact addExpr0 (M := txE noE) hR hB hl rfl
theorem addExpr_any {n : Nat} (hA : Small n) (e : TE) (hsz : szE e ≤ n) : AddE e := by
  intro B w v l vp vn vb hR hB hG hE hl
  cases e with
  | mk op num text parts params body =>
    have hE2 := hE
    obtain ⟨⟨h17, hn0, hn1⟩, ⟨pa, pc, rfl, _⟩, ⟨na, nc, rfl, _⟩, ⟨ba, bc, rfl, _⟩⟩ := hE2
    have hT : txE (.mk op num text parts params body) = exT op num text (txEs parts) params (txSs body) := by rw [txE]
    have hszp : szEs parts < n := by unfold szE at hsz; omega
    rw [hT] at hl ⊢
    rcases (show op = 0 ∨ op = 1 ∨ op = 2 ∨ op = 3 ∨ op = 4 ∨ op = 5 ∨ op = 6 ∨ op = 7 ∨ op = 8 ∨ op = 9 ∨ op = 10 ∨ op = 11 ∨ op = 12 ∨ op = 13 ∨ op = 14 ∨ op = 15 ∨ op = 16 ∨ op = 17 from by omega) with rfl | rfl | rfl | rfl | rfl | rfl | rfl | rfl | rfl | rfl | rfl | rfl | rfl | rfl | rfl | rfl | rfl | rfl
    · exact addExpr0 hR hB hl rfl
    · exact addExpr1 hR hB hl rfl
    · exact addExpr2 hR hB hl rfl
    · exact addExpr3 hR hB hl (fun W u X h1 h2 h3 h4 => by
        have h5 : X.length ≤ 1000000000 := by omega
        exact appI_any h1 h2 num hn0 hn1 h5 (hG.on h3).tab.here)
    · exact addExpr4 hR hB hl (fun W u X h1 h2 h3 h4 => addQuote_any h1 h2 text (by
        have h5 : (exT 4 num text (txEs parts) params (txSs body)).length = (quoteT text.data.toList).length := rfl
        have h6 := (quoF_len text.data.toList).1
        have h7 : text.data.toList.length = text.size := rfl
        have h8 : (quoteT text.data.toList).length = (text.data.toList.flatMap quo).length + 2 := by simp [quoteT]
        rw [h5, h8] at h4
        omega))
    · exact addExpr5 hR hB hl rfl
    · exact addExpr6 hR hB hl (fun W u X h1 h2 h3 h4 => addUnary_any hA hsz 45 h1 h2 (hG.on h3) (EIn.on hE h3) h4)
    · exact addExpr7 hR hB hl (fun W u X h1 h2 h3 h4 => addUnary_any hA hsz 33 h1 h2 (hG.on h3) (EIn.on hE h3) h4)
    · exact addExpr8 hR hB hl (fun W h3 => (hG.on h3).signs 8 (by decide)) (fun W u X h1 h2 h3 h4 => addBinary_any hA hsz ⟨(sign 8).toArray⟩ h1 h2 (hG.on h3) (EIn.on hE h3) h4)
    · exact addExpr9 hR hB hl (fun W h3 => (hG.on h3).signs 9 (by decide)) (fun W u X h1 h2 h3 h4 => addBinary_any hA hsz ⟨(sign 9).toArray⟩ h1 h2 (hG.on h3) (EIn.on hE h3) h4)
    · exact addExpr10 hR hB hl (fun W h3 => (hG.on h3).signs 10 (by decide)) (fun W u X h1 h2 h3 h4 => addBinary_any hA hsz ⟨(sign 10).toArray⟩ h1 h2 (hG.on h3) (EIn.on hE h3) h4)
    · exact addExpr11 hR hB hl (fun W h3 => (hG.on h3).signs 11 (by decide)) (fun W u X h1 h2 h3 h4 => addBinary_any hA hsz ⟨(sign 11).toArray⟩ h1 h2 (hG.on h3) (EIn.on hE h3) h4)
    · exact addExpr12 hR hB hl (fun W h3 => (hG.on h3).signs 12 (by decide)) (fun W u X h1 h2 h3 h4 => addBinary_any hA hsz ⟨(sign 12).toArray⟩ h1 h2 (hG.on h3) (EIn.on hE h3) h4)
    · exact addExpr13 hR hB hl (fun W h3 => (hG.on h3).signs 13 (by decide)) (fun W u X h1 h2 h3 h4 => addBinary_any hA hsz ⟨(sign 13).toArray⟩ h1 h2 (hG.on h3) (EIn.on hE h3) h4)
    · exact addExpr14 hR hB hl (fun W u X h1 h2 h3 h4 => addField_any hA hszp h1 h2 (hG.on h3) (EsIn.on (show EsIn B w _ parts from hE.2.1) h3) h4)
    · exact addExpr15 hR hB hl (fun W u X h1 h2 h3 h4 => addCall_any hA hsz h1 h2 (hG.on h3) (EIn.on hE h3) h4)
    · exact addExpr16 hR hB hl (fun W u X h1 h2 h3 h4 => addRecord_any hA hsz h1 h2 (hG.on h3) (EIn.on hE h3) h4)
    · exact addExpr17 hR hB hl (fun W u X h1 h2 h3 h4 => addFn_any hA hsz h1 h2 (hG.on h3) (EIn.on hE h3) h4)
theorem small_all : ∀ n, Small n
  | 0 => ⟨fun e h => by rcases h with h | rfl; · omega
                        · exact addNil, fun s h => by omega⟩
  | n + 1 => ⟨fun e h => by rcases h with h | rfl; · exact addExpr_any (small_all n) e (by omega)
                            · exact addNil, fun s h => addStmts_any (small_all n) s (by omega)⟩
theorem addE_all (e : TE) : AddE e := (small_all (szE e + 1)).e e (.inl (by omega))
theorem addSs_all (s : List TS) : AddSs s := (small_all (szSs s + 1)).s s (by omega)
end Go.Proofs.YtpgbfkdknggceaaGreatDoor
