/-
 PaSigns, PaCatch, joined.
 Conditions: as each theorem says.
-/
import Derived.Test.YtenfphbhofibjaaGreatDoorZPaSmall2
import Derived.Maps.Own
set_option maxRecDepth 100000
set_option maxHeartbeats 2000000
set_option linter.unusedVariables false
namespace Go.Proofs.YtenfphbhofibjaaGreatDoor
open Go.RowKit LM TM PM
open Go.ChangeMaps (setBlock heap_setBlock_same heap_setBlock_other)
def MapAt (w : World) (b : Nat) (l : List (Bs × Int)) : Prop := ∃ es c, w.heap[b]? = some (.map es c) ∧ (es.toList.map fun e => (e.key, e.val)) = entriesAt l
theorem MapAt.lt {w : World} {b : Nat} {l : List (Bs × Int)} (h : MapAt w b l) : b < w.heap.size := by
 obtain ⟨es, c, h1, _⟩ := h
 exact lt_of_block h1
theorem MapAt.kept {w w' : World} {b : Nat} {l : List (Bs × Int)} (h : MapAt w b l) (hb : w'.heap[b]? = w.heap[b]?) : MapAt w' b l := by
 obtain ⟨es, c, h1, h2⟩ := h
 exact ⟨es, c, hb.trans h1, h2⟩
theorem now_none : ∀ {es : List MapEntry} {l : List (Bs × Int)} {s : Bs} {i : Nat}, (es.map fun e => (e.key, e.val)) = entriesAt l → (∀ p ∈ l, p.1 ≠ s) → Instr.findNow .string (.string ⟨s.toArray⟩) es i = some none
 | es, [], s, i, h, _ => by rw [map0 h]; rfl
 | es, p :: l, s, i, h, hn => by
  obtain ⟨e1, l1, rfl, k1, v1, h1⟩ := map1 h
  rw [now_cons s _ _ _ _ k1, if_neg (fun e => hn p (by simp) e.symm)]
  exact now_none h1 fun q hq => hn q (by simp [hq])
theorem wpList_insert {ops : Array Oper} {rest : List Oper} {o : Oper} {a : Act} {Q : Exit → Act → World → Prop} {w : World} (hg : o.guard = none) (m k x : Operand) (hop : o.op = Op.insert 105 m k x) (hd : o.dst = none) (b : Nat) (l : List (Bs × Int)) (s : Bs) (n : Int) (hm : a.eval m = .map (some b)) (hk : a.eval k = .string ⟨s.toArray⟩) (hx : a.eval x = .int .i64 n) (hM : MapAt w b l) (hn : ∀ p ∈ l, p.1 ≠ s)
 (hK : ∀ w', MapAt w' b (l ++ [(s, n)]) → w.grownBy w' (some b) → wpList Tryz.prog ops Q rest a w') : wpList Tryz.prog ops Q (o :: rest) a w := by
 refine wpList_plain hg fun K' hK' => ?_
 obtain ⟨es, c, hb, he⟩ := hM
 have hf := find_str s es.toList w none (now_none he hn)
 have hrun : (Instr.mapUpdate 105 (.map (some b)) (.string ⟨s.toArray⟩) (.int .i64 n)).run Tryz.prog w = .ok () (setBlock w b (.map (es.push ⟨.string ⟨s.toArray⟩, .int .i64 n, c⟩) (c + 1))) := by
  simp [Instr.mapUpdate, run_underlying Tryz.underlying105, MapKept.run_getObj_map hb, check_str, hf, MapKept.run_setObj_map _ hb, Result.andThen, setBlock]
 unfold Oper.wp
 simp [execOp, hop, hm, hk, hx, hrun, Result.andThen]
 refine hK' _ _ ?_
 rw [hd]
 refine hK _ ⟨_, _, heap_setBlock_same hb _, ?_⟩ ⟨rfl, rfl, rfl, by simp [setBlock], fun i _ hi => heap_setBlock_other hb _ (fun e => hi (by rw [e]))⟩
 simp [he, entriesAt]
theorem MapAt.new (w : World) : MapAt (w.alloc (.map #[] 0)) w.heap.size [] := ⟨#[], 0, heap_alloc_new _ _, rfl⟩
structure Sg (w W : World) : Prop where
 gr : w.grownBy W none
 arr : W.heap[w.heap.size]? = some (.cells #[.map none, .map none, .map none, .map none] 106 (0, 0))
theorem Sg.ins {w W W' : World} {b : Nat} (h : Sg w W) (hg : W.grownBy W' (some b)) (hb : w.heap.size < b) : Sg w W' :=
 ⟨⟨hg.os.trans h.gr.os, hg.tape.trans h.gr.tape, hg.output.trans h.gr.output, Nat.le_trans h.gr.size hg.size, fun k hk _ => (hg.block k (Nat.lt_of_lt_of_le hk h.gr.size) (by simp; omega)).trans (h.gr.block k hk (by simp))⟩, (hg.block _ (lt_of_block h.arr) (by simp; omega)).trans h.arr⟩
theorem Sg.alloc {w W : World} (h : Sg w W) (o : Obj) : Sg w (W.alloc o) :=
 ⟨⟨h.gr.os, h.gr.tape, h.gr.output, by have := h.gr.size; simp; omega, fun k hk hn => (Below.heap_alloc _ _ _ (Nat.lt_of_lt_of_le hk h.gr.size)).trans (h.gr.block k hk hn)⟩, (Below.heap_alloc _ _ _ (lt_of_block h.arr)).trans h.arr⟩
theorem MapAt.ins {w w' : World} {b b' : Nat} {l : List (Bs × Int)} (h : MapAt w b l) (hg : w.grownBy w' (some b')) (hn : b ≠ b') : MapAt w' b l := h.kept (hg.block b h.lt (by simpa using hn))
theorem MapAt.alloc {w : World} {b : Nat} {l : List (Bs × Int)} (h : MapAt w b l) (o : Obj) : MapAt (w.alloc o) b l := h.kept (Below.heap_alloc _ _ _ h.lt)
theorem signs_any (w : World) : Calls Tryz.prog 62 #[] w fun en w' => ∃ b0 b1 b2 b3, en = .returned (.agg #[.map (some b0), .map (some b1), .map (some b2), .map (some b3)]) ∧ SignMap w' b0 0 ∧ SignMap w' b1 1 ∧ SignMap w' b2 2 ∧ SignMap w' b3 3 ∧ w.grownBy w' none ∧ (b0 < w'.heap.size ∧ b1 < w'.heap.size ∧ b2 < w'.heap.size ∧ b3 < w'.heap.size) := by
 have hmm := @run_makeMap Tryz.prog
 go_enter Tryz.func62, Tryz.ntmps62
 have S00 : Sg w (w.alloc (.cells #[.map none, .map none, .map none, .map none] 106)) := ⟨⟨rfl, rfl, rfl, by simp, fun k hk _ => Below.heap_alloc _ _ _ hk⟩, heap_alloc_new _ _⟩
 have S0 : Sg w ((w.alloc (.cells #[.map none, .map none, .map none, .map none] 106)).alloc (.map #[] 0)) := S00.alloc _
 have M0 : MapAt ((w.alloc (.cells #[.map none, .map none, .map none, .map none] 106)).alloc (.map #[] 0)) (w.heap.size + 1) [] := by have h9 := MapAt.new (w.alloc (.cells #[.map none, .map none, .map none, .map none] 106)); rwa [World.size_alloc] at h9
 have hb0 : w.heap.size < w.heap.size + 1 := by omega
 go_wp2_with (refine wpList_insert rfl (.tmp 1) (.const (.string ⟨#[61, 61]⟩)) (.const (.int .i64 11)) rfl rfl (w.heap.size + 1) [] [61, 61] 11 rfl rfl rfl M0 (by decide) ?_)
 intro w1 q1 g1
 have N1 : Hid (MapAt w1 (w.heap.size + 1) [([61, 61], 11)]) := q1
 have S1 : Hid (Sg w w1) := Sg.ins S0 g1 hb0
 clear q1 g1
 go_wp2_with (refine wpList_insert rfl (.tmp 1) (.const (.string ⟨#[33, 61]⟩)) (.const (.int .i64 12)) rfl rfl (w.heap.size + 1) [([61, 61], 11)] [33, 61] 12 rfl rfl rfl N1.out (by decide) ?_)
 intro w2 q2 g2
 have N2 : Hid (MapAt w2 (w.heap.size + 1) [([61, 61], 11), ([33, 61], 12)]) := q2
 have S2 : Hid (Sg w w2) := Sg.ins S1.out g2 hb0
 clear q2 g2
 go_wp2_with (refine wpList_insert rfl (.tmp 1) (.const (.string ⟨#[60]⟩)) (.const (.int .i64 13)) rfl rfl (w.heap.size + 1) [([61, 61], 11), ([33, 61], 12)] [60] 13 rfl rfl rfl N2.out (by decide) ?_)
 intro w3 q3 g3
 have N3 : Hid (MapAt w3 (w.heap.size + 1) [([61, 61], 11), ([33, 61], 12), ([60], 13)]) := q3
 have S3 : Hid (Sg w w3) := Sg.ins S2.out g3 hb0
 clear q3 g3
 have hlt3_0 : (w.heap.size + 1) < w3.heap.size := N3.out.lt
 have S101 : Sg w (w3.alloc (.map #[] 0)) := S3.out.alloc _
 have M10 : MapAt (w3.alloc (.map #[] 0)) w3.heap.size [] := MapAt.new _
 have hb1 : w.heap.size < w3.heap.size := lt_of_block S3.out.arr
 go_wp2_with (refine wpList_insert rfl (.tmp 3) (.const (.string ⟨#[43]⟩)) (.const (.int .i64 8)) rfl rfl w3.heap.size [] [43] 8 rfl rfl rfl M10 (by decide) ?_)
 intro w4 q4 g4
 have N4 : Hid (MapAt w4 w3.heap.size [([43], 8)]) := q4
 have S4 : Hid (Sg w w4) := Sg.ins S101 g4 hb1
 have R4_0 : Hid (MapAt w4 (w.heap.size + 1) (signEs 0)) := MapAt.ins (N3.out.alloc _) g4 (by omega)
 clear q4 g4
 go_wp2_with (refine wpList_insert rfl (.tmp 3) (.const (.string ⟨#[45]⟩)) (.const (.int .i64 9)) rfl rfl w3.heap.size [([43], 8)] [45] 9 rfl rfl rfl N4.out (by decide) ?_)
 intro w5 q5 g5
 have N5 : Hid (MapAt w5 w3.heap.size [([43], 8), ([45], 9)]) := q5
 have S5 : Hid (Sg w w5) := Sg.ins S4.out g5 hb1
 have R5_0 : Hid (MapAt w5 (w.heap.size + 1) (signEs 0)) := MapAt.ins R4_0.out g5 (by omega)
 clear q5 g5
 have hlt5_0 : (w.heap.size + 1) < w5.heap.size := R5_0.out.lt
 have hlt5_1 : w3.heap.size < w5.heap.size := N5.out.lt
 have S102 : Sg w (w5.alloc (.map #[] 0)) := S5.out.alloc _
 have M20 : MapAt (w5.alloc (.map #[] 0)) w5.heap.size [] := MapAt.new _
 have hb2 : w.heap.size < w5.heap.size := lt_of_block S5.out.arr
 go_wp2_with (refine wpList_insert rfl (.tmp 5) (.const (.string ⟨#[42]⟩)) (.const (.int .i64 10)) rfl rfl w5.heap.size [] [42] 10 rfl rfl rfl M20 (by decide) ?_)
 intro w6 q6 g6
 have N6 : Hid (MapAt w6 w5.heap.size [([42], 10)]) := q6
 have S6 : Hid (Sg w w6) := Sg.ins S102 g6 hb2
 have R6_0 : Hid (MapAt w6 (w.heap.size + 1) (signEs 0)) := MapAt.ins (R5_0.out.alloc _) g6 (by omega)
 have R6_1 : Hid (MapAt w6 w3.heap.size (signEs 1)) := MapAt.ins (N5.out.alloc _) g6 (by omega)
 clear q6 g6
 have hlt6_0 : (w.heap.size + 1) < w6.heap.size := R6_0.out.lt
 have hlt6_1 : w3.heap.size < w6.heap.size := R6_1.out.lt
 have hlt6_2 : w5.heap.size < w6.heap.size := N6.out.lt
 have S103 : Sg w (w6.alloc (.map #[] 0)) := S6.out.alloc _
 have M30 : MapAt (w6.alloc (.map #[] 0)) w6.heap.size [] := MapAt.new _
 have hb3 : w.heap.size < w6.heap.size := lt_of_block S6.out.arr
 go_wp2_with (refine wpList_insert rfl (.tmp 7) (.const (.string ⟨#[45]⟩)) (.const (.int .i64 6)) rfl rfl w6.heap.size [] [45] 6 rfl rfl rfl M30 (by decide) ?_)
 intro w7 q7 g7
 have N7 : Hid (MapAt w7 w6.heap.size [([45], 6)]) := q7
 have S7 : Hid (Sg w w7) := Sg.ins S103 g7 hb3
 have R7_0 : Hid (MapAt w7 (w.heap.size + 1) (signEs 0)) := MapAt.ins (R6_0.out.alloc _) g7 (by omega)
 have R7_1 : Hid (MapAt w7 w3.heap.size (signEs 1)) := MapAt.ins (R6_1.out.alloc _) g7 (by omega)
 have R7_2 : Hid (MapAt w7 w5.heap.size (signEs 2)) := MapAt.ins (N6.out.alloc _) g7 (by omega)
 clear q7 g7
 go_wp2_with (refine wpList_insert rfl (.tmp 7) (.const (.string ⟨#[33]⟩)) (.const (.int .i64 7)) rfl rfl w6.heap.size [([45], 6)] [33] 7 rfl rfl rfl N7.out (by decide) ?_)
 intro w8 q8 g8
 have N8 : Hid (MapAt w8 w6.heap.size [([45], 6), ([33], 7)]) := q8
 have S8 : Hid (Sg w w8) := Sg.ins S7.out g8 hb3
 have R8_0 : Hid (MapAt w8 (w.heap.size + 1) (signEs 0)) := MapAt.ins R7_0.out g8 (by omega)
 have R8_1 : Hid (MapAt w8 w3.heap.size (signEs 1)) := MapAt.ins R7_1.out g8 (by omega)
 have R8_2 : Hid (MapAt w8 w5.heap.size (signEs 2)) := MapAt.ins R7_2.out g8 (by omega)
 clear q8 g8
 have hlt8_0 : (w.heap.size + 1) < w8.heap.size := R8_0.out.lt
 have hlt8_1 : w3.heap.size < w8.heap.size := R8_1.out.lt
 have hlt8_2 : w5.heap.size < w8.heap.size := R8_2.out.lt
 have hlt8_3 : w6.heap.size < w8.heap.size := N8.out.lt
 have harr := S8.out.arr
 have HARR := Lib.hid harr
 have r0 : w8.cell? ⟨w.heap.size, 0, none⟩ = some (.map none) := by simp [World.cell?, harr]
 have r1 : w8.cell? ⟨w.heap.size, 1, none⟩ = some (.map none) := by simp [World.cell?, harr]
 have r2 : w8.cell? ⟨w.heap.size, 2, none⟩ = some (.map none) := by simp [World.cell?, harr]
 have r3 : w8.cell? ⟨w.heap.size, 3, none⟩ = some (.map none) := by simp [World.cell?, harr]
 have rf : ∀ i, w8.frozen? ⟨w.heap.size, i, none⟩ = false := fun i => by simp [World.frozen?, harr]
 have rl : w.heap.size < w8.heap.size := lt_of_block harr
 clear harr
 go_wp2_with fail
 have ho : ∀ k, k ≠ w.heap.size → ((((w8.setCell ⟨w.heap.size, 0, none⟩ (.map (some (w.heap.size + 1)))).setCell ⟨w.heap.size, 1, none⟩ (.map (some w3.heap.size))).setCell ⟨w.heap.size, 2, none⟩ (.map (some w5.heap.size))).setCell ⟨w.heap.size, 3, none⟩ (.map (some w6.heap.size))).heap[k]? = w8.heap[k]? := fun k hk => by rw [Below.heap_setCell _ _ _ _ hk, Below.heap_setCell _ _ _ _ hk, Below.heap_setCell _ _ _ _ hk, Below.heap_setCell _ _ _ _ hk]
 have hb9 : ((((w8.setCell ⟨w.heap.size, 0, none⟩ (.map (some (w.heap.size + 1)))).setCell ⟨w.heap.size, 1, none⟩ (.map (some w3.heap.size))).setCell ⟨w.heap.size, 2, none⟩ (.map (some w5.heap.size))).setCell ⟨w.heap.size, 3, none⟩ (.map (some w6.heap.size))).heap[w.heap.size]? = some (.cells #[.map (some (w.heap.size + 1)), .map (some w3.heap.size), .map (some w5.heap.size), .map (some w6.heap.size)] 106 (0, 0)) := blk_set (blk_set (blk_set (blk_set HARR.out)))
 have hz9 : ((((w8.setCell ⟨w.heap.size, 0, none⟩ (.map (some (w.heap.size + 1)))).setCell ⟨w.heap.size, 1, none⟩ (.map (some w3.heap.size))).setCell ⟨w.heap.size, 2, none⟩ (.map (some w5.heap.size))).setCell ⟨w.heap.size, 3, none⟩ (.map (some w6.heap.size))).heap.size = w8.heap.size := by simp [World.setCell]
 have hg9 : w.grownBy ((((w8.setCell ⟨w.heap.size, 0, none⟩ (.map (some (w.heap.size + 1)))).setCell ⟨w.heap.size, 1, none⟩ (.map (some w3.heap.size))).setCell ⟨w.heap.size, 2, none⟩ (.map (some w5.heap.size))).setCell ⟨w.heap.size, 3, none⟩ (.map (some w6.heap.size))) none := gr_new (gr_new (gr_new (gr_new S8.out.gr (Nat.le_refl _) _ _) (Nat.le_refl _) _ _) (Nat.le_refl _) _ _) (Nat.le_refl _) _ _
 obtain ⟨W9, hW9⟩ : ∃ W9, ((((w8.setCell ⟨w.heap.size, 0, none⟩ (.map (some (w.heap.size + 1)))).setCell ⟨w.heap.size, 1, none⟩ (.map (some w3.heap.size))).setCell ⟨w.heap.size, 2, none⟩ (.map (some w5.heap.size))).setCell ⟨w.heap.size, 3, none⟩ (.map (some w6.heap.size))) = W9 := ⟨_, rfl⟩
 rw [hW9] at ho hb9 hz9 hg9
 rw [hW9]
 clear hW9
 have y0 : W9.cell? ⟨w.heap.size, 0, none⟩ = some (.map (some (w.heap.size + 1))) := by simp [World.cell?, hb9]
 have y1 : W9.cell? ⟨w.heap.size, 1, none⟩ = some (.map (some w3.heap.size)) := by simp [World.cell?, hb9]
 have y2 : W9.cell? ⟨w.heap.size, 2, none⟩ = some (.map (some w5.heap.size)) := by simp [World.cell?, hb9]
 have y3 : W9.cell? ⟨w.heap.size, 3, none⟩ = some (.map (some w6.heap.size)) := by simp [World.cell?, hb9]
 refine bodyPost_ret (v := .agg #[.map (some (w.heap.size + 1)), .map (some w3.heap.size), .map (some w5.heap.size), .map (some w6.heap.size)]) (by simp [results, Tryz.results62, go_sem, y0, y1, y2, y3]) rfl ⟨_, _, _, _, rfl, R8_0.out.kept (ho _ (by omega)), R8_1.out.kept (ho _ (by omega)), R8_2.out.kept (ho _ (by omega)), N8.out.kept (ho _ (by omega)), hg9, by omega⟩
end Go.Proofs.YtenfphbhofibjaaGreatDoor
namespace Go.Proofs.YtenfphbhofibjaaGreatDoor
open Go.RowKit LM TM PM
theorem ta_fault (a e : Int) (w : World) : (Instr.typeAssert (.iface 104 (.agg #[.int .i64 a, .int .i64 e])) 20 104 false).run Tryz.prog w = .ok (.agg #[.int .i64 a, .int .i64 e]) w := by kernel_rfl
def caught (w : World) (g2 g3 g4 a e : Nat) : World := ((((w.setCell ⟨g2, 0, none⟩ (.slice none 0 0)).setCell ⟨g3, 0, none⟩ (.int .i64 (a : Int))).setCell ⟨g4, 0, none⟩ (.int .i64 (e : Int))).alloc (.cells #[.int .i64 (a : Int), .int .i64 (e : Int)] 104)).drew
theorem pc_panicking (g2 g3 g4 : Nat) (a e : Nat) (w : World) (older : List PanicEntry) {x2 x3 x4 : Value} {t2 t3 t4 : TypeId} (h2 : w.heap[g2]? = some (.cells #[x2] t2 (0, 0))) (h3 : w.heap[g3]? = some (.cells #[x3] t3 (0, 0))) (h4 : w.heap[g4]? = some (.cells #[x4] t4 (0, 0))) (h23 : g2 ≠ g3) (h24 : g2 ≠ g4) (h34 : g3 ≠ g4) :
 CallsD Tryz.prog 61 #[.pointer (some ⟨g2, 0, none⟩), .pointer (some ⟨g3, 0, none⟩), .pointer (some ⟨g4, 0, none⟩)] (.panicking ({ v := .iface 104 (faultV a e), recovered := false } :: older)) w fun en u' w' =>
  en = .returned (.tuple #[]) ∧ u' = .panicking ({ v := .iface 104 (faultV a e), recovered := true } :: older) ∧ w' = caught w g2 g3 g4 a e := by
 refine callsD_of_wpS Tryz.func61 rfl fun c₀ cs hu => ?_
 apply wpS_seq
 apply wpS_region
 simp [wpOpsS, go_sem, recoverD, hu, Tryz.ntmps61, Exit.thenS]
 refine wpS_of_wp ?_
 have c2 : w.cell? ⟨g2, 0, none⟩ = some x2 := by simp [World.cell?, h2]
 have c3 : w.cell? ⟨g3, 0, none⟩ = some x3 := by simp [World.cell?, h3]
 have c4 : w.cell? ⟨g4, 0, none⟩ = some x4 := by simp [World.cell?, h4]
 have f2 : ∀ i, w.frozen? ⟨g2, i, none⟩ = false := fun i => by simp [World.frozen?, h2]
 have f3 : ∀ i, w.frozen? ⟨g3, i, none⟩ = false := fun i => by simp [World.frozen?, h3]
 have f4 : ∀ i, w.frozen? ⟨g4, i, none⟩ = false := fun i => by simp [World.frozen?, h4]
 have l2 := lt_of_block h2
 have l3 := lt_of_block h3
 have l4 := lt_of_block h4
 clear h2 h3 h4
 unfold faultV caught
 have hta := ta_fault
 go_wp2_with fail
 go_region
 all_goals exact ⟨rfl, _, rfl, _, results_none rfl _ _ _, rfl, rfl, rfl⟩
theorem pc_idle (g2 g3 g4 : Nat) (w : World) :
 CallsD Tryz.prog 61 #[.pointer (some ⟨g2, 0, none⟩), .pointer (some ⟨g3, 0, none⟩), .pointer (some ⟨g4, 0, none⟩)] .returning w fun en u' w' => en = .returned (.tuple #[]) ∧ u' = .returning ∧ w' = w := by
 refine callsD_of_wpS Tryz.func61 rfl fun c₀ cs hu => ?_
 apply wpS_seq
 apply wpS_region
 simp [wpOpsS, go_sem, recoverD, hu, Tryz.ntmps61, Exit.thenS]
 refine wpS_of_wp ?_
 go_wp2_with fail
 all_goals exact ⟨rfl, _, by cases c₀; simp_all, _, results_none rfl _ _ _, rfl, rfl, rfl⟩
end Go.Proofs.YtenfphbhofibjaaGreatDoor
