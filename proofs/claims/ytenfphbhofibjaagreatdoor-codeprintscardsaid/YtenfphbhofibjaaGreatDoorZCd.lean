/-
 Package code: strconv.AppendInt at any number; addNumbers.
 Conditions: as each theorem says (the library's table of powers as it is laid).
-/
import Derived.Test.YtenfphbhofibjaaGreatDoorZTrCm
set_option maxRecDepth 100000
set_option maxHeartbeats 4000000
set_option linter.unusedVariables false
set_option linter.unusedSimpArgs false
namespace Go.Proofs.YtenfphbhofibjaaGreatDoor
open Go.RowKit TM
theorem appIn_any {B : Nat} {w : World} {v : Value} {l : Bs} (hR : Bt B w v l) (hB : B ≤ w.heap.size) (n : Int) (h0 : -9223372036854775808 ≤ n) (h1 : n < 0) (hl : l.length ≤ 100000000)
 (htab : Lib.TabBelow Tryz.prog B w "internal/strconv.uint64pow10" .u64 Lib.pow10Tab) :
 Calls Tryz.prog 75 #[v, .int .i64 n, .int .i64 10] w fun e w' => ∃ v', e = .returned v' ∧ Bt B w' v' (l ++ Lib.itoa n) ∧ Gr w w' v v' := by
 have hit : Lib.itoa n = 45 :: Lib.decDigits n.natAbs := by unfold Lib.itoa; rw [if_pos h1]
 rw [hit]
 have HR := Lib.hid hR
 have HT := Lib.hid htab
 have hu : n.natAbs < 18446744073709551616 := by omega
 clear hR htab hit
 have e1 : IntKind.u64.wrap (-(IntKind.u64.wrap n)) = ((n.natAbs : Nat) : Int) := by
  simp only [IntKind.wrap, IntKind.bits, IntKind.signed, Bool.false_and, Bool.false_eq_true, if_false]; omega
 have hin : Calls Tryz.prog 102 #[v, .int .i64 n, .int .i64 10] w fun e w' => ∃ v', e = .returned v' ∧ Bt B w' v' (l ++ 45 :: Lib.decDigits n.natAbs) ∧ Gr w w' v v' := by
  go_enter Tryz.func102, Tryz.ntmps102
  go_wp2_with (at_builtin; refine wpList_app_row rfl (.tmp 12) (.tmp 13) rfl rfl HR.out hB [45] rfl rfl rfl (by decide) (by simp; omega) ?_)
  intro v1 w1 h2 k2
  have H2 := Lib.hid h2
  have K2 := Lib.hid k2
  clear h2 k2
  have hb1 : Below B w w1 := HR.out.bel K2.out hB
  go_wp2_with fail
  refine (appU_any H2.out (Nat.le_trans hB hb1.size) n.natAbs hu (by simp; omega) (HT.out _ hb1)).mono ?_
  rintro e w2 ⟨v2, rfl, h3, k3⟩
  have HF : Hid (Bt B w2 v2 (l ++ 45 :: Lib.decDigits n.natAbs) ∧ Gr w w2 v v2) := ⟨by simpa using h3, K2.out.trans k3⟩
  clear h3 k3 hb1
  go_wp2
  go_ret
  exact ⟨v2, rfl, HF.out.1, HF.out.2⟩
 have HI := Lib.hid hin
 clear hin
 go_enter Tryz.func75, Tryz.ntmps75
 go_wp2_with (go_at_call 102; refine HI.out.mono ?_; rintro e w1 ⟨v1, rfl, h2, k2⟩; refine Hid.out ?_)
 refine Lib.hid ?_
 have H2 := Lib.hid h2
 have K2 := Lib.hid k2
 clear h2 k2
 go_wp2
 go_ret
 exact ⟨v1, rfl, H2.out, K2.out⟩
theorem appZ_any {B : Nat} {w : World} {v : Value} {l : Bs} (hR : Bt B w v l) (hB : B ≤ w.heap.size) (n : Int) (h0 : -9223372036854775808 ≤ n) (h1 : n ≤ 9223372036854775807) (hl : l.length ≤ 100000000)
 (htab : Lib.TabBelow Tryz.prog B w "internal/strconv.uint64pow10" .u64 Lib.pow10Tab) :
 Calls Tryz.prog 75 #[v, .int .i64 n, .int .i64 10] w fun e w' => ∃ v', e = .returned v' ∧ Bt B w' v' (l ++ Lib.itoa n) ∧ Gr w w' v v' := by
 by_cases h : n < 0
 ·exact appIn_any hR hB n h0 h hl htab
 ·exact appI_any hR hB n (by omega) h1 (by omega) htab.here
def numsT : List Int → Bs
 | [] => []
 | n :: l => 32 :: Lib.itoa n ++ numsT l
theorem numsT_take {l : List Int} {k : Nat} {n : Int} (h : l[k]? = some n) : numsT (l.take (k + 1)) = numsT (l.take k) ++ 32 :: Lib.itoa n := by
 have key : ∀ (l : List Int) (k : Nat), l[k]? = some n → numsT (l.take (k + 1)) = numsT (l.take k) ++ 32 :: Lib.itoa n := by
  intro l
  induction l with
  | nil => intro k h; simp at h
  | cons x l ih =>
   intro k h
   cases k with
   | zero => simp at h; subst h; simp [numsT]
   | succ k => simp [numsT, ih k (by simpa using h)]
 exact key l k h
theorem itoa_len (n : Int) (h0 : -9223372036854775808 ≤ n) (h1 : n ≤ 9223372036854775807) : (Lib.itoa n).length ≤ 21 := by
 unfold Lib.itoa
 split
 ·have := digits20 n.natAbs (by omega); simp; omega
 ·have := digits20 n.toNat (by omega); omega
theorem numsT_len : ∀ (l : List Int), (∀ n ∈ l, -9223372036854775808 ≤ n ∧ n ≤ 9223372036854775807) → (numsT l).length ≤ 22 * l.length
 | [], _ => by simp [numsT]
 | n :: l, h => by
  have h1 := itoa_len n (h n (by simp)).1 (h n (by simp)).2
  have h2 := numsT_len l (fun m hm => h m (by simp [hm]))
  simp only [numsT, List.length_cons, List.length_append]; omega
theorem addNums_any {B : Nat} {w : World} {v : Value} {x : Bs} (hR : Bt B w v x) (hB : B ≤ w.heap.size) (l : List Int) {g c : Nat} {fz : Nat × Nat} {cs : Array Value} (hl : l.length ≤ 1000) (hr : ∀ n ∈ l, -9223372036854775808 ≤ n ∧ n ≤ 9223372036854775807)
 (hg : w.heap[g]? = some (.cells cs 3 fz)) (hcs : ∀ (k : Nat) (n : Int), l[k]? = some n → cs[k]? = some (.int .i64 n)) (hx : x.length ≤ 10000000)
 (htab : Lib.TabBelow Tryz.prog B w "internal/strconv.uint64pow10" .u64 Lib.pow10Tab) :
 Calls Tryz.prog 67 #[v, .slice (some ⟨g, 0, none⟩) l.length c] w fun e w' => ∃ v', e = .returned v' ∧ Bt B w' v' (x ++ numsT l) ∧ Gr w w' v v' := by
 have HR := Lib.hid hR
 have HT := Lib.hid htab
 have HC := Lib.hid hcs
 have HRG := Lib.hid hr
 have HG := Lib.hid hg
 clear hR htab hcs hr hg
 go_enter Tryz.func67, Tryz.ntmps67
 go_wp2_with fail
 go_loopw [9, 0] (fun i u wr => ∃ k : Nat, i = .int .i64 (k : Int) ∧ k ≤ l.length ∧ Hid (Bt B wr u (x ++ numsT (l.take k))) ∧ Hid (Gr w wr v u))
  (fun i _ _ => l.length - (intOf i).toNat)
 case atStart => exact ⟨0, rfl, Nat.zero_le _, Lib.hid (by simpa [numsT] using HR.out), Gr.refl _ _⟩
 case round =>
  obtain ⟨k, rfl, hk, HRk, HGk⟩ := hrel
  by_cases hlt : k < l.length
  ·obtain ⟨n, hn⟩ : ∃ n, l[k]? = some n := ⟨_, List.getElem?_eq_getElem hlt⟩
   have hnr := HRG.out n (List.mem_of_getElem? hn)
   have hblk := HR.out.block HGk.out HG.out (by decide)
   have hcell : wr.cell? ⟨g, k, none⟩ = some (.int .i64 n) := by simp [World.cell?, hblk, HC.out k n hn]
   have hbel := HR.out.bel HGk.out hB
   have hBr : B ≤ wr.heap.size := Nat.le_trans hB hbel.size
   have hlen := numsT_len (l.take k) (fun m hm => HRG.out m (List.mem_of_mem_take hm))
   have htl : (l.take k).length ≤ 1000 := by simp; omega
   have hidx : 0 ≤ (k : Int) ∧ (k : Int) < (l.length : Int) := ⟨by omega, by omega⟩
   have HTK : Hid (numsT (l.take (k + 1)) = numsT (l.take k) ++ 32 :: Lib.itoa n) := numsT_take hn
   obtain ⟨X, hX⟩ : ∃ X, x ++ numsT (l.take k) = X := ⟨_, rfl⟩
   have hXl : X.length ≤ 10030000 := by rw [← hX]; simp; omega
   rw [hX] at HRk
   have HTr : Hid (Lib.TabBelow Tryz.prog B wr "internal/strconv.uint64pow10" .u64 Lib.pow10Tab) := fun w' hb => HT.out w' (hbel.trans hb)
   have HX := Lib.hid hX
   clear hblk hlen hn hbel hX
   go_wp2_with (at_builtin; refine wpList_app_row rfl (.tmp 13) (.tmp 14) rfl rfl HRk.out hBr [32] rfl rfl rfl (by decide) (by simp; omega) ?_)
   intro v1 w1 h2 k2
   have H2 := Lib.hid h2
   have K2 := Lib.hid k2
   have hb1 : Below B wr w1 := HRk.out.bel k2 hBr
   clear h2 k2 hcell
   go_wp2_with fail
   refine (appZ_any H2.out (Nat.le_trans hBr hb1.size) n hnr.1 hnr.2 (by simp; omega) (fun w' hb => HTr.out w' (hb1.trans hb))).mono ?_
   rintro en w2 ⟨v2, rfl, h3, k3⟩
   have HF : Hid (Bt B w2 v2 (x ++ numsT (l.take (k + 1))) ∧ Gr w w2 v v2) := ⟨by rw [HTK.out, ← List.append_assoc, HX.out]; simpa using h3, HGk.out.trans (K2.out.trans k3)⟩
   clear h3 k3 hb1
   go_wp2_with fail
   go_roundw
   case rel => exact ⟨k + 1, by go_num, by omega, HF.out.1, HF.out.2⟩
   case measure => simp [intOf]; omega
  ·obtain rfl : k = l.length := by omega
   rw [List.take_length] at HRk
   go_wp2
   go_ret
   exact ⟨_, rfl, HRk.out, HGk.out⟩
end Go.Proofs.YtenfphbhofibjaaGreatDoor
namespace Go.Proofs.YtenfphbhofibjaaGreatDoor
open Go.RowKit TM
def opT : List Bs := [[99, 111, 110, 115, 116], [109, 111, 118, 101], [110, 101, 119], [103, 101, 116], [112, 117, 116], [99, 108, 111, 115, 101], [99, 97, 108, 108], [109, 105, 110, 117, 115], [110, 111, 116], [97, 100, 100], [115, 117, 98], [109, 117, 108], [101, 113, 117, 97, 108], [117, 110, 108, 105, 107, 101], [108, 101, 115, 115], [106, 117, 109, 112], [98, 97, 99, 107], [117, 110, 108, 101, 115, 115], [114, 101, 116, 117, 114, 110], [116, 104, 114, 111, 119], [116, 114, 121], [100, 111, 110, 101]]
def opB (i : Nat) : ByteArray := ⟨(opT.getD i []).toArray⟩
def insT (op : Nat) (a b c : Int) : Bs := if op < 22 then opT.getD op [] ++ numsT [a, b, c] else [63]
structure Lc (B : Nat) (w : World) : Prop where
 tab : Lib.TabBelow Tryz.prog B w "internal/strconv.uint64pow10" .u64 Lib.pow10Tab
 lt : 4 < B
 words : ∀ i, i < 22 → w.cell? ⟨4, i, none⟩ = some (.string (opB i))
theorem Lc.on {B : Nat} {w w' : World} (h : Lc B w) (hb : Below B w w') : Lc B w' :=
 ⟨h.tab.on hb, h.lt, fun i hi => (hb.cell (p := ⟨_, i, none⟩) h.lt).trans (h.words i hi)⟩
def valI (gb : Nat) (v : Value) (op : Nat) (wd : ByteArray) (a b c : Int) : Nat → Option Value
 | 0 => some v
 | 1 => some (.pointer (some ⟨gb, 0, none⟩))
 | 2 => some (.int .u8 (op : Int))
 | 3 => some (.pointer (some ⟨4, op, none⟩))
 | 4 => some (.string wd)
 | 6 => some (.pointer (some ⟨gb, 1, none⟩))
 | 7 => some (.int .i64 a)
 | 8 => some (.pointer (some ⟨gb, 2, none⟩))
 | 9 => some (.int .i64 b)
 | 10 => some (.pointer (some ⟨gb, 3, none⟩))
 | 11 => some (.int .i64 c)
 | _ => none
theorem three_ints {a b c : Int} (k : Nat) (n : Int) (h : [a, b, c][k]? = some n) : (#[.int .i64 a, .int .i64 b, .int .i64 c] : Array Value)[k]? = some (.int .i64 n) := by
 match k, h with
 | 0, h => simp at h; subst h; rfl
 | 1, h => simp at h; subst h; rfl
 | 2, h => simp at h; subst h; rfl
 | k + 3, h => simp at h
def EXi (a b c : Int) (L : Nat → Bool) (a1 : Act) (W : World) : Prop := L 12 = true → L 13 = false → ∃ g, a1.eval (.tmp 23) = .slice (some ⟨g, 0, none⟩) 3 3 ∧ W.heap[g]? = some (.cells #[.int .i64 a, .int .i64 b, .int .i64 c] 3 (0, 0))
theorem EXi.pure {a b c : Int} {L : Nat → Bool} {a1 : Act} {W : World} (h : EXi a b c L a1 W) {i d : Nat} {u : Value} (h1 : 12 ≠ i) (h2 : 13 ≠ i) (h3 : 23 ≠ d) : EXi a b c (more L i) (a1.put (some d) u) W := fun q1 q2 => by
 rw [more_ne _ h1] at q1
 rw [more_ne _ h2] at q2
 obtain ⟨g, g1, g2⟩ := h q1 q2
 exact ⟨g, by rw [eval_other h3]; exact g1, g2⟩
theorem EXi.grow {a b c : Int} {L : Nat → Bool} {a1 : Act} {W W2 : World} (h : EXi a b c L a1 W) {i d : Nat} {u vc v2 : Value} {B : Nat} {x : Bs} (h1 : 12 ≠ i) (h2 : 13 ≠ i) (h3 : 23 ≠ d) (hr : Bt B W vc x) (hg : Gr W W2 vc v2) : EXi a b c (more L i) (a1.put (some d) u) W2 := fun q1 q2 => by
 rw [more_ne _ h1] at q1
 rw [more_ne _ h2] at q2
 obtain ⟨g, g1, g2⟩ := h q1 q2
 exact ⟨g, by rw [eval_other h3]; exact g1, hr.block hg g2 (by decide)⟩
theorem exi_mk (a b c : Int) {L : Nat → Bool} {a1 : Act} {W : World} (hd : 23 < a1.tmps.size) : EXi a b c (more L 12) (a1.put (some 23) (.slice (some ⟨W.heap.size, 0, none⟩) 3 3)) (W.alloc (.cells #[.int .i64 a, .int .i64 b, .int .i64 c] 3)) := fun _ _ =>
 ⟨W.heap.size, by rw [eval_put _ _ _ _ hd, if_pos rfl], heap_alloc_new _ _⟩
theorem jc_strG {B : Nat} {w0 : World} {v0 : Value} {x0 : Bs} {C1 C2 : List (Nat × Nat × Bs)} {bi bd bc z zs : Nat} {m : Bs} {l : Nat → Bool} {a : Act} {W : World} {i d : Nat} {s : ByteArray} (h : JC B w0 v0 x0 (C1 ++ (i, d, s.data.toList) :: C2) bi bd bc m z zs l a W) (hB : B ≤ w0.heap.size) (hd : d < a.tmps.size) (h1 : ∀ x ∈ C1, l x.1 = true) (hi : l i = false) (h2 : ∀ x ∈ C2, l x.1 = false ∧ x.1 ≠ i) (hb : bi ≠ i ∧ bd ≠ d ∧ (z = i ∨ zs ≠ d)) {vc : Value} (hc : cur l a v0 (C1 ++ (i, d, s.data.toList) :: C2) = vc) (hl : (curX l x0 (C1 ++ (i, d, s.data.toList) :: C2)).length + s.size ≤ 1000000000000) (ty : TypeId) :
 ∃ u W', (Builtin.append_ #[47, 9] ty #[vc, .string s]).run Tryz.prog W = .ok u W' ∧ JC B w0 v0 x0 (C1 ++ (i, d, s.data.toList) :: C2) bi bd bc m z zs (more l i) (a.put (some d) u) W' ∧ Gr W W' (cur l a v0 (C1 ++ (i, d, s.data.toList) :: C2)) u := by
 subst hc
 obtain ⟨u, W', hr, r1, r2⟩ := run_app_str (P := Tryz.prog) rfl h.row (Nat.le_trans hB h.gr.size) s hl ty
 exact ⟨u, W', hr, h.step hd h1 hi h2 hb r1 r2, r2⟩
theorem addInstr_any {B : Nat} {w : World} {v : Value} {l : Bs} {op : Nat} {a b c : Int} (hR : Bt B w v l) (hB : B ≤ w.heap.size) (hL : Lc B w) (hop : op < 256) (hr : ∀ n ∈ [a, b, c], -9223372036854775808 ≤ n ∧ n ≤ 9223372036854775807) (hl : l.length ≤ 1000000) :
 Calls Tryz.prog 65 #[v, .agg #[.int .u8 (op : Int), .int .i64 a, .int .i64 b, .int .i64 c]] w fun e w' => ∃ v', e = .returned v' ∧ Bt B w' v' (l ++ insT op a b c) ∧ Gr w w' v v' := by
 have HR0 := Lib.hid hR
 have HL := Lib.hid hL
 have HRG := Lib.hid hr
 clear hR hL hr
 by_cases h22 : op < 22
 ·have hge : ¬ ((22 : Int) ≤ (op : Int)) := by omega
  have hI : insT op a b c = (opB op).data.toList ++ numsT [a, b, c] := by unfold insT; rw [if_pos h22]; rfl
  rw [hI]
  have hwl : (opB op).size ≤ 6 := by
   have : ∀ i, i < 22 → (opB i).size ≤ 6 := by decide
   exact this op h22
  obtain ⟨wd, hwd⟩ : ∃ wd, opB op = wd := ⟨_, rfl⟩
  rw [hwd] at hwl ⊢
  have HWD := Lib.hid hwd
  clear hI hwd
  go_enter Tryz.func65, Tryz.ntmps65
  go_wp2_with fail
  obtain ⟨w1, hw1⟩ : ∃ w1, w1 = w.alloc (.cells #[.int .u8 (op : Int), .int .i64 a, .int .i64 b, .int .i64 c] 66) := ⟨_, rfl⟩
  obtain ⟨gb, hgb⟩ : ∃ gb, gb = w.heap.size := ⟨_, rfl⟩
  have HBW : Hid (Below w.heap.size w w1) := by rw [hw1]; exact (Below.refl _ _).alloc (Nat.le_refl _) _
  have HBX : Hid (w1.heap[gb]? = some (.cells #[.int .u8 (op : Int), .int .i64 a, .int .i64 b, .int .i64 c] 66 (0, 0))) := by rw [hw1, hgb]; exact heap_alloc_new _ _
  have HR : Hid (Bt B w1 v l) := by rw [hw1]; exact HR0.out.alloc _
  have HGW : Hid (Gr w w1 v v) := by rw [hw1]; exact (Gr.refl w v).alloc _
  have hB1 : B ≤ w1.heap.size := Nat.le_trans hB HBW.out.size
  have HT : Hid (Lib.TabBelow Tryz.prog B w1 "internal/strconv.uint64pow10" .u64 Lib.pow10Tab) := fun w3 hb3 => HL.out.tab w3 ((HBW.out.mono hB).trans hb3)
  have HW : Hid (∀ W, Below B w1 W → W.cell? ⟨4, op, none⟩ = some (.string wd)) := fun W hb3 => by rw [← HWD.out]; exact (HL.out.on ((HBW.out.mono hB).trans hb3)).words op h22
  first | rw [← hw1, ← hgb] | skip
  clear hw1 hgb
  refine region_sh (valI gb v op wd a b c) (fun L a1 W => JC B w1 v l [(5, 16, wd.data.toList), (13, 24, numsT [a, b, c]), (14, 4, [])] 1000 1000 1001 [] 1000 0 L a1 W ∧ EXi a b c L a1 W) (by kernel_rfl) (by kernel_rfl) (by kernel_rfl) ⟨JC.start HR.out _ rfl, fun h => by cases h⟩ ?_ ?_
  ·intro hon q hq L a1 W hC hl hBh hS hJX K hK
   obtain ⟨hJ, hX⟩ := hJX
   have hqn : q < 15 := hq
   clear hq
   rcases (show q = 0 ∨ q = 1 ∨ q = 2 ∨ q = 3 ∨ q = 4 ∨ q = 5 ∨ q = 6 ∨ q = 7 ∨ q = 8 ∨ q = 9 ∨ q = 10 ∨ q = 11 ∨ q = 12 ∨ q = 13 ∨ q = 14 from by omega) with rfl | rfl | rfl | rfl | rfl | rfl | rfl | rfl | rfl | rfl | rfl | rfl | rfl | rfl | rfl
   ·have e0 := (eval_tmp a1 0).symm.trans ((hS.kept 0 (by kernel_rfl)).trans rfl)
    refine wpOp_step rfl (fun K' hK' => ?_)
    go_simp
    exact hK' _ _ (hK _ _ (hS.put hon (i := 0) rfl rfl (fun u hu => by cases hu; rfl)) ⟨hJ.pure (by simp) (by decide), hX.pure (by decide) (by decide) (by decide)⟩)
   ·have e3 := (eval_tmp a1 3).symm.trans ((hS.kept 3 (by kernel_rfl)).trans rfl)
    refine wpOp_step rfl (fun K' hK' => ?_)
    go_simp
    exact hK' _ _ (hK _ _ (hS.put hon (i := 1) rfl rfl (fun u hu => by cases hu; rfl)) ⟨hJ.pure (by simp) (by decide), hX.pure (by decide) (by decide) (by decide)⟩)
   ·have e12 := (eval_tmp a1 12).symm.trans (hS.get hBh (i := 2) rfl 1 (by simp) rfl rfl rfl)
    have hbx : W.heap[gb]? = _ := HR.out.block hJ.gr HBX.out (by decide)
    have hcl : W.cell? ⟨gb, 0, none⟩ = some (.int .u8 (op : Int)) := by simp [World.cell?, hbx]
    refine wpOp_step rfl (fun K' hK' => ?_)
    go_simp
    exact hK' _ _ (hK _ _ (hS.put hon (i := 2) rfl rfl (fun u hu => by cases hu; rfl)) ⟨hJ.pure (by simp) (by decide), hX.pure (by decide) (by decide) (by decide)⟩)
   ·have e13 := (eval_tmp a1 13).symm.trans (hS.get hBh (i := 3) rfl 2 (by simp) rfl rfl rfl)
    have hidx : 0 ≤ (op : Int) ∧ (op : Int) < 22 := ⟨by omega, by omega⟩
    refine wpOp_step rfl (fun K' hK' => ?_)
    go_simp
    exact hK' _ _ (hK _ _ (hS.put hon (i := 3) rfl rfl (fun u hu => by cases hu; rfl)) ⟨hJ.pure (by simp) (by decide), hX.pure (by decide) (by decide) (by decide)⟩)
   ·have e14 := (eval_tmp a1 14).symm.trans (hS.get hBh (i := 4) rfl 3 (by simp) rfl rfl rfl)
    have hcl : W.cell? ⟨4, op, none⟩ = some (.string wd) := HW.out W (HR.out.bel hJ.gr hB1)
    refine wpOp_step rfl (fun K' hK' => ?_)
    go_simp
    exact hK' _ _ (hK _ _ (hS.put hon (i := 4) rfl rfl (fun u hu => by cases hu; rfl)) ⟨hJ.pure (by simp) (by decide), hX.pure (by decide) (by decide) (by decide)⟩)
   ·have n13 : L 13 = false := closed_not hC hl (i := 13) (j := 5) rfl (g := .data) (by simp) rfl
    have n14 : L 14 = false := closed_not hC n13 (i := 14) (j := 13) rfl (g := .data) (by simp) rfl
    have hx : curX L l [(5, 16, wd.data.toList), (13, 24, numsT [a, b, c]), (14, 4, [])] = l := by simp [curX, hl]
    have e11 := (hS.get hBh (i := 5) rfl 0 (by simp) rfl rfl rfl)
    have e15 := (hS.get hBh (i := 5) rfl 4 (by simp) rfl rfl rfl)
    obtain ⟨u, W2, hrun, hT, hG5⟩ := jc_strG hJ (C1 := []) (C2 := [(13, 24, numsT [a, b, c]), (14, 4, [])]) (s := wd) hB1 (by rw [hS.size]; exact (by decide : (16 : Nat) < 25)) (by simp) hl (by simp [n13, n14]) (by decide) (vc := v) (by simp [cur, hl]) (by refine Nat.le_trans (Nat.add_le_add_right (Nat.le_of_eq (congrArg List.length hx)) _) ?_; omega) 47
    have hX2 : EXi a b c (more L 5) (a1.put (some 16) u) W2 := hX.grow (by decide) (by decide) (by decide) hJ.row hG5
    refine wpOp_run rfl rfl (v := u) (w' := W2) ?_ (hK _ _ (hS.put hon (i := 5) rfl rfl (fun u hu => by cases hu)) ⟨hT, hX2⟩)
    simp [execOp, resolve, invoke, builtin, e11, e15, hrun, Result.andThen]
   ·have e3 := (eval_tmp a1 3).symm.trans ((hS.kept 3 (by kernel_rfl)).trans rfl)
    refine wpOp_step rfl (fun K' hK' => ?_)
    go_simp
    exact hK' _ _ (hK _ _ (hS.put hon (i := 6) rfl rfl (fun u hu => by cases hu; rfl)) ⟨hJ.pure (by simp) (by decide), hX.pure (by decide) (by decide) (by decide)⟩)
   ·have e17 := (eval_tmp a1 17).symm.trans (hS.get hBh (i := 7) rfl 6 (by simp) rfl rfl rfl)
    have hbx : W.heap[gb]? = _ := HR.out.block hJ.gr HBX.out (by decide)
    have hcl : W.cell? ⟨gb, 1, none⟩ = some (.int .i64 a) := by simp [World.cell?, hbx]
    refine wpOp_step rfl (fun K' hK' => ?_)
    go_simp
    exact hK' _ _ (hK _ _ (hS.put hon (i := 7) rfl rfl (fun u hu => by cases hu; rfl)) ⟨hJ.pure (by simp) (by decide), hX.pure (by decide) (by decide) (by decide)⟩)
   ·have e3 := (eval_tmp a1 3).symm.trans ((hS.kept 3 (by kernel_rfl)).trans rfl)
    refine wpOp_step rfl (fun K' hK' => ?_)
    go_simp
    exact hK' _ _ (hK _ _ (hS.put hon (i := 8) rfl rfl (fun u hu => by cases hu; rfl)) ⟨hJ.pure (by simp) (by decide), hX.pure (by decide) (by decide) (by decide)⟩)
   ·have e19 := (eval_tmp a1 19).symm.trans (hS.get hBh (i := 9) rfl 8 (by simp) rfl rfl rfl)
    have hbx : W.heap[gb]? = _ := HR.out.block hJ.gr HBX.out (by decide)
    have hcl : W.cell? ⟨gb, 2, none⟩ = some (.int .i64 b) := by simp [World.cell?, hbx]
    refine wpOp_step rfl (fun K' hK' => ?_)
    go_simp
    exact hK' _ _ (hK _ _ (hS.put hon (i := 9) rfl rfl (fun u hu => by cases hu; rfl)) ⟨hJ.pure (by simp) (by decide), hX.pure (by decide) (by decide) (by decide)⟩)
   ·have e3 := (eval_tmp a1 3).symm.trans ((hS.kept 3 (by kernel_rfl)).trans rfl)
    refine wpOp_step rfl (fun K' hK' => ?_)
    go_simp
    exact hK' _ _ (hK _ _ (hS.put hon (i := 10) rfl rfl (fun u hu => by cases hu; rfl)) ⟨hJ.pure (by simp) (by decide), hX.pure (by decide) (by decide) (by decide)⟩)
   ·have e21 := (eval_tmp a1 21).symm.trans (hS.get hBh (i := 11) rfl 10 (by simp) rfl rfl rfl)
    have hbx : W.heap[gb]? = _ := HR.out.block hJ.gr HBX.out (by decide)
    have hcl : W.cell? ⟨gb, 3, none⟩ = some (.int .i64 c) := by simp [World.cell?, hbx]
    refine wpOp_step rfl (fun K' hK' => ?_)
    go_simp
    exact hK' _ _ (hK _ _ (hS.put hon (i := 11) rfl rfl (fun u hu => by cases hu; rfl)) ⟨hJ.pure (by simp) (by decide), hX.pure (by decide) (by decide) (by decide)⟩)
   ·have e18 := (eval_tmp a1 18).symm.trans (hS.get hBh (i := 12) rfl 7 (by simp) rfl rfl rfl)
    have e20 := (eval_tmp a1 20).symm.trans (hS.get hBh (i := 12) rfl 9 (by simp) rfl rfl rfl)
    have e22 := (eval_tmp a1 22).symm.trans (hS.get hBh (i := 12) rfl 11 (by simp) rfl rfl rfl)
    refine wpOp_step rfl (fun K' hK' => ?_)
    go_simp
    exact hK' _ _ (hK _ _ (hS.put hon (i := 12) rfl rfl (fun u hu => by cases hu)) ⟨hJ.pureB (by simp) (by decide) ((Below.refl _ _).alloc (Nat.le_refl _) _), exi_mk a b c (by rw [hS.size]; exact (by decide : (23 : Nat) < 25))⟩)
   ·have d5 : L 5 = true := hBh _ rfl ⟨5, .data⟩ (by simp) rfl
    have n14 : L 14 = false := closed_not hC hl (i := 14) (j := 13) rfl (g := .data) (by simp) rfl
    obtain ⟨vc, hvc⟩ : ∃ x, a1.eval (.tmp 16) = x := ⟨_, rfl⟩
    have hx : curX L l [(5, 16, wd.data.toList), (13, 24, numsT [a, b, c]), (14, 4, [])] = l ++ (wd.data.toList) := by simp [curX, d5, hl]
    have d12 : L 12 = true := hBh _ rfl ⟨12, .data⟩ (by simp) rfl
    obtain ⟨g, e230, hgg⟩ := hX d12 hl
    have e23 := (eval_tmp a1 23).symm.trans e230
    have hvc2 := (eval_tmp a1 16).symm.trans hvc
    have hrow := hJ.row
    rw [hx] at hrow
    have hcu : cur L a1 v [(5, 16, wd.data.toList), (13, 24, numsT [a, b, c]), (14, 4, [])] = vc := (by rw [← hvc]; simp [cur, d5, hl])
    rw [hcu] at hrow
    have hgr := hJ.gr
    rw [hcu] at hgr
    have hB2 : B ≤ W.heap.size := Nat.le_trans hB1 hgr.size
    have hbel := HR.out.bel hgr hB1
    refine wpOp_call (f := 67) (args := #[vc, .slice (some ⟨g, 0, none⟩) 3 3]) (R := fun u W2 => Bt B W2 u (l ++ (wd.data.toList) ++ (numsT [a, b, c])) ∧ Gr W W2 vc u) rfl rfl (by simp [execOp, resolve, invoke, e23, hvc2, go_sem]) ((addNums_any hrow hB2 [a, b, c] (by simp) HRG.out hgg three_ints (by simp; omega) (fun w3 hb3 => HT.out w3 (hbel.trans hb3))).mono fun e W2 ⟨u, h1, h2, h3⟩ => ⟨u, h1, h2, h3⟩) ?_
    rintro u W2 ⟨r1, r2⟩
    exact hK _ _ (hS.put hon (i := 13) rfl rfl (fun u hu => by cases hu)) ⟨hJ.step (C1 := [(5, 16, wd.data.toList)]) (C2 := [(14, 4, [])]) (by rw [hS.size]; exact (by decide : (24 : Nat) < 25)) (by simp [d5]) hl (by simp [n14]) (by decide) (by show Bt B W2 u (curX L l [(5, 16, wd.data.toList), (13, 24, numsT [a, b, c]), (14, 4, [])] ++ (numsT [a, b, c])); rw [hx]; exact r1) (by show Gr W W2 (cur L a1 v [(5, 16, wd.data.toList), (13, 24, numsT [a, b, c]), (14, 4, [])]) u; rw [hcu]; exact r2), fun _ h => by rw [more_self] at h; cases h⟩
   ·have d13 : L 13 = true := hBh _ rfl ⟨13, .data⟩ (by simp) rfl
    have d5 : L 5 = true := hBh _ rfl ⟨5, .phase⟩ (by simp) rfl
    obtain ⟨vc, hvc⟩ : ∃ x, a1.eval (.tmp 24) = x := ⟨_, rfl⟩
    have hx : curX L l [(5, 16, wd.data.toList), (13, 24, numsT [a, b, c]), (14, 4, [])] = l ++ (wd.data.toList) ++ (numsT [a, b, c]) := by simp [curX, d5, d13, hl, List.append_assoc]
    have e9 := (eval_tmp a1 24).symm.trans hvc
    refine wpOp_step rfl (fun K' hK' => ?_)
    go_simp
    exact hK' _ _ (hK _ _ (hS.put hon (i := 14) rfl rfl (fun u hu => by cases hu)) ⟨hJ.hand (C1 := [(5, 16, wd.data.toList), (13, 24, numsT [a, b, c])]) (C2 := []) (by rw [hS.size]; exact (by decide : (4 : Nat) < 25)) (by simp [d5, d13]) hl (by simp) (by decide) (by rw [← hvc]; simp [cur, d5, d13, hl]), hX.pure (by decide) (by decide) (by decide)⟩)
  ·intro L a1 w2 hl hS hJX
   obtain ⟨hJ, -⟩ := hJX
   have d5 : L 5 = true := hl 5 (by decide)
   have d13 : L 13 = true := hl 13 (by decide)
   have d14 : L 14 = true := hl 14 (by decide)
   have hcu : cur L a1 v [(5, 16, wd.data.toList), (13, 24, numsT [a, b, c]), (14, 4, [])] = a1.eval (.tmp 4) := by simp [cur, d5, d13, d14]
   have hx : curX L l [(5, 16, wd.data.toList), (13, 24, numsT [a, b, c]), (14, 4, [])] = l ++ (wd.data.toList) ++ (numsT [a, b, c]) := by simp [curX, d5, d13, d14, List.append_assoc]
   have hrow := hJ.row
   have hgr := hJ.gr
   rw [hcu] at hgr
   rw [hcu, hx] at hrow
   have hfr := hS.frame [11, 12, 13, 14, 15, 16, 17, 18, 19, 20, 21, 22, 23, 24, 4] rfl
   refine (‹∀ (a : Act) (w : World), Code.wp Tryz.prog _ _ a w → _› a1 w2 ?_)
   obtain ⟨z, hz⟩ : ∃ z : Nat → Value, z = fun k => a1.eval (.tmp k) := ⟨_, rfl⟩
   rw [← hz] at hfr
   have ze : a1.eval (.tmp 4) = z 4 := by rw [hz]
   rw [ze] at hrow hgr
   rw [hfr]
   clear hfr ze hz hS hJ hcu hx hl d5 d13 d14
   simp only [over, List.setIfInBounds_toArray, List.set_cons_zero, List.set_cons_succ]
   obtain ⟨v2, hv⟩ : ∃ u, z 4 = u := ⟨_, rfl⟩
   rw [hv] at hrow hgr ⊢
   clear hv
   go_wp2_with fail
   go_ret
   exact ⟨v2, rfl, by rw [← List.append_assoc]; exact hrow, HGW.out.trans hgr⟩
 ·have hge : (22 : Int) ≤ (op : Int) := by omega
  have hI : insT op a b c = [63] := by unfold insT; rw [if_neg h22]
  rw [hI]
  clear hI
  go_enter Tryz.func65, Tryz.ntmps65
  go_wp2_with (at_builtin; refine Hid.out ?_)
  obtain ⟨w0, hw0⟩ : ∃ w0, w0 = w.alloc (.cells #[.int .u8 (op : Int), .int .i64 a, .int .i64 b, .int .i64 c] 66) := ⟨_, rfl⟩
  have hsz : w.heap.size + 1 = w0.heap.size := by rw [hw0]; simp
  have HR : Hid (Bt B w0 v l) := by rw [hw0]; exact HR0.out.alloc _
  have HGW : Hid (Gr w w0 v v) := by rw [hw0]; exact (Gr.refl w v).alloc _
  have hB1 : B ≤ w0.heap.size := by omega
  rw [← hw0, hsz]
  clear hw0
  refine Lib.hid ?_
  refine wpList_app_row rfl (.tmp 8) (.tmp 9) rfl rfl HR.out hB1 [63] rfl rfl rfl (by decide) (by simp; omega) ?_
  intro v1 w1 h2 k2
  have H2 := Lib.hid h2
  have K2 : Hid (Gr w w1 v v1) := HGW.out.trans k2
  clear h2 k2
  go_wp2
  go_ret
  exact ⟨v1, rfl, H2.out, K2.out⟩
end Go.Proofs.YtenfphbhofibjaaGreatDoor
