/-
  A row of bytes that a call owns, that grows; what stays as it was meanwhile; append of bytes and of a text, the row as a text.
  Conditions: as each theorem says.
-/
import Derived.Test.YtpgbfkdknggceaaGreatDoorTrMath
import Derived.Test.YtpgbfkdknggceaaGreatDoorLaw
import Derived.Test.YtpgbfkdknggceaaGreatDoorRows
import Derived.Lib.AppendStr
import Derived.Lib.BufferKept
import Derived.Laws.IdiomStrings
import Derived.OwnWalk
import Derived.Lib.BufferRead
namespace Go.Proofs.YtpgbfkdknggceaaGreatDoor
open Go.RowKit TM
set_option linter.unusedVariables false
theorem infoU8 : (Tryz.prog.info? 5).map (fun i => (i.zero, i.size, i.bytes)) = some (some (.int .u8 0), 1, 1) := by kernel_rfl
/-- The row v has the bytes l; it lies from block B on. -/
def Bt (B : Nat) (w : World) (v : Value) (l : Bs) : Prop := w.ownsRow B 5 1 v l.length (Lib.byteCells l)
/-- From w to w' the row v became v', and nothing else that was there was written. -/
structure Gr (w w' : World) (v v' : Value) : Prop where
  g : w.grownBy w' v.ownBlock
  o : ∀ k, v'.ownBlock = some k → v.ownBlock = some k ∨ w.heap.size ≤ k
section
variable {B : Nat} {w w' w2 : World} {v v' v2 : Value}
theorem Gr.refl (w : World) (v : Value) : Gr w w v v := ⟨⟨rfl, rfl, rfl, Nat.le_refl _, fun _ _ _ => rfl⟩, fun k h => .inl h⟩
theorem Gr.size (h : Gr w w' v v') : w.heap.size ≤ w'.heap.size := h.g.size
theorem Gr.trans (h : Gr w w' v v') (k : Gr w' w2 v' v2) : Gr w w2 v v2 := by
  refine ⟨⟨k.g.os.trans h.g.os, k.g.tape.trans h.g.tape, k.g.output.trans h.g.output, Nat.le_trans h.size k.size, fun j hj hn => ?_⟩, fun j hj => ?_⟩
  · rw [k.g.block j (Nat.lt_of_lt_of_le hj h.size) (fun e => ?_), h.g.block j hj hn]
    rcases h.o j e.symm with h1 | h1
    · exact hn h1.symm
    · omega
  · rcases k.o j hj with h1 | h1
    · exact h.o j h1
    · exact .inr (Nat.le_trans h.size h1)
theorem Gr.below (h : Gr w w' v v') (hb : Below w'.heap.size w' w2) : Gr w w2 v v' :=
  ⟨⟨hb.os.trans h.g.os, hb.tape.trans h.g.tape, hb.output.trans h.g.output, Nat.le_trans h.size hb.size, fun j hj hn => (hb.block j (Nat.lt_of_lt_of_le hj h.size)).trans (h.g.block j hj hn)⟩, h.o⟩
theorem Gr.alloc (h : Gr w w' v v') (o : Obj) : Gr w (w'.alloc o) v v' := h.below ((Below.refl _ _).alloc (Nat.le_refl _) o)
theorem Gr.drew (h : Gr w w' v v') : Gr w w'.drew v v' := h.below (Below.refl _ _).drew
theorem Gr.drewN (h : Gr w w' v v') (n : Nat) : Gr w (w'.drewN n) v v' := h.below ⟨rfl, rfl, rfl, Nat.le_refl _, fun _ _ => rfl⟩
/-- Ahead of it some blocks were laid. -/
theorem Gr.pre (h : Gr w' w2 v v2) (hb : Below w.heap.size w w') (hv : ∀ k, v.ownBlock = some k → k < w.heap.size) : Gr w w2 v v2 :=
  ⟨⟨h.g.os.trans hb.os, h.g.tape.trans hb.tape, h.g.output.trans hb.output, Nat.le_trans hb.size h.size, fun j hj hn => (h.g.block j (Nat.lt_of_lt_of_le hj hb.size) hn).trans (hb.block j hj)⟩, fun k hk => by
    rcases h.o k hk with h1 | h1
    · exact .inl h1
    · exact .inr (Nat.le_trans hb.size h1)⟩
theorem Bt.nil (B : Nat) (w : World) : Bt B w (.slice none 0 0) [] := World.ownsRow_nil _ _ _ _
theorem Bt.alloc {v : Value} {l : Bs} (h : Bt B w v l) (o : Obj) : Bt B (w.alloc o) v l := World.ownsRow.alloc h o
theorem Bt.drew {v : Value} {l : Bs} (h : Bt B w v l) : Bt B w.drew v l := h
theorem Bt.below {v : Value} {l : Bs} (h : Bt B w v l) (hb : Below w.heap.size w w') : Bt B w' v l := by
  refine ⟨h.1, ?_⟩
  rcases h.2 with h0 | ⟨g, cap, cur, rfl, hg, hh, r⟩
  · exact .inl h0
  · exact .inr ⟨g, cap, cur, rfl, hg, (hb.block g (Array.getElem?_eq_some_iff.1 hh).1).trans hh, r⟩
theorem Bt.kind {v : Value} {l : Bs} (h : Bt B w v l) : ∀ g, v.ownBlock = some g → ∃ c fz, w.heap[g]? = some (.cells c 5 fz) := by
  intro g hg
  rcases h.2 with ⟨rfl, _⟩ | ⟨g', cap, cur, rfl, _, hgg, _⟩
  · simp [Value.ownBlock] at hg
  · simp [Value.ownBlock] at hg
    subst hg
    exact ⟨cur, _, hgg⟩
theorem Bt.lt {v : Value} {l : Bs} (h : Bt B w v l) : ∀ k, v.ownBlock = some k → B ≤ k ∧ k < w.heap.size := World.ownsRow.lt h
theorem Bt.bel {v v' : Value} {l : Bs} (h : Bt B w v l) (g : Gr w w' v v') (hB : B ≤ w.heap.size) : Below B w w' := (Below.refl B w).grown g.g hB (fun k e => (h.lt k e).1)
/-- A block that is no row of bytes stays. -/
theorem Bt.block {v v' : Value} {l : Bs} (h : Bt B w v l) (g : Gr w w' v v') {k : Nat} {cs : Array Value} {t : TypeId} {fz : Nat × Nat} (hk : w.heap[k]? = some (.cells cs t fz)) (ht : t ≠ 5) : w'.heap[k]? = some (.cells cs t fz) := by
  rw [g.g.block k (Array.getElem?_eq_some_iff.1 hk).1 (fun e => ?_)]
  · exact hk
  · obtain ⟨c, f, hc⟩ := h.kind k e.symm
    rw [hk] at hc
    injection hc with hc
    injection hc with _ e2 _
    exact ht e2
theorem own_str {i0 : TypeInfo} (hi : Tryz.prog.info? 5 = some i0) (hz0 : i0.zero = some (.int .u8 0)) (hz1 : i0.size = 1) (hz2 : i0.bytes = 1) {v : Value} {l : Bs} (h : Bt B w v l) (s : ByteArray) (hl : l.length + s.size ≤ 1000000000000) {ty : TypeId} {v' : Value} {w' : World}
    (hr : (Builtin.append_ #[38, 9] ty #[v, .string s]).run Tryz.prog w = .ok v' w') : ∀ k, v'.ownBlock = some k → v.ownBlock = some k ∨ w.heap.size ≤ k := by
  intro k hk
  have ht := Tryz.underlying38
  have hu := Tryz.underlying9
  rcases h.2 with ⟨rfl, hn0⟩ | ⟨g, cap, cur, rfl, hbg, hg, hnc, hcm, hcs, htake⟩
  · by_cases hm : s.size = 0
    · have hf := Lib.run_firstCells_string (P := Tryz.prog) w 1 s
      rw [hm] at hf
      simp [Builtin.append_, run_underlying ht, run_underlying hu, sizeOf, typeInfo, hi, hz1, Builtin.lenOf, hm, hf] at hr
      rw [← hr.1] at hk
      exact .inl hk
    · have hr2 := run_append_nil_string (P := Tryz.prog) w 38 9 ty 5 i0 (.int .u8 0) ht hu hi hz0 s (by omega) (by omega) (by rw [hz2]; omega)
      rw [hr] at hr2
      injection hr2 with e1 e2
      rw [e1] at hk
      simp [Value.ownBlock] at hk
      exact .inr (by omega)
  · by_cases hroom : l.length + s.size ≤ cap
    · have hcs' : cur.size = cap := by simpa using hcs
      have hr2 := Lib.run_append_room_string (P := Tryz.prog) w 38 9 ty 5 i0 ht hu hi hz1 g l.length cap cur hg s hroom (by omega)
      rw [hr] at hr2
      injection hr2 with e1 e2
      rw [e1] at hk
      exact .inl hk
    · have holds : ∀ j u, (Lib.byteCells l)[j]? = some u → w.cell? ((⟨g, 0, none⟩ : Addr).add j) = some u := World.ownsRow.cells (g := g) h rfl
      have hr2 := Lib.run_append_grow_string (P := Tryz.prog) w 38 9 ty 5 i0 (.int .u8 0) ht hu hi hz0 ⟨g, 0, none⟩ l.length cap (Lib.byteCells l) (by rw [hz1]; simp [Lib.byteCells]) holds s (by omega) (by omega) (by rw [hz2]; exact growslice_fits (by omega) (by omega))
      rw [hr] at hr2
      injection hr2 with e1 e2
      rw [e1] at hk
      simp [Value.ownBlock] at hk
      exact .inr (by omega)
theorem run_app_str {P : Program} (hP : P = Tryz.prog) {v : Value} {l : Bs} (h : Bt B w v l) (hB : B ≤ w.heap.size) (s : ByteArray) (hl : l.length + s.size ≤ 1000000000000) (ty : TypeId) :
    ∃ v' w', (Builtin.append_ #[38, 9] ty #[v, .string s]).run P w = .ok v' w' ∧ Bt B w' v' (l ++ s.data.toList) ∧ Gr w w' v v' := by
  subst hP
  obtain ⟨i0, hi, hz0, hz1, hz2⟩ := info_parts infoU8
  obtain ⟨v', w', hr, h1, h2, _⟩ := Lib.run_append_own_string (P := Tryz.prog) w B 38 9 ty 5 i0 Tryz.underlying38 Tryz.underlying9 hi hz0 hz1 hz2 v l.length (Lib.byteCells l) h s (by unfold maxLen; omega) (by omega) hB
  refine ⟨v', w', hr, ?_, h2, own_str hi hz0 hz1 hz2 h s (by omega) hr⟩
  unfold Bt
  have e1 : (l ++ s.data.toList).length = l.length + s.size := by rw [List.length_append]; rfl
  have e2 : Lib.byteCells (l ++ s.data.toList) = Lib.byteCells l ++ Lib.strCells s := by simp [Lib.byteCells, Lib.strCells]
  rw [e1, e2]
  exact h1
theorem run_app_row {P : Program} (hP : P = Tryz.prog) {v : Value} {l : Bs} (h : Bt B w v l) (hB : B ≤ w.heap.size) (m : Bs) {cs : Array Value} {g n c : Nat} (hcs : cs.toList = Lib.byteCells m) {fz : Nat × Nat} (hg : w.heap[g]? = some (.cells cs 5 fz)) (hn : n = m.length) (hm : 0 < m.length) (hl : l.length + m.length ≤ 1000000000000) (ty : TypeId) :
    ∃ v' w', (Builtin.append_ #[38, 38] ty #[v, .slice (some ⟨g, 0, none⟩) n c]).run P w = .ok v' w' ∧ Bt B w' v' (l ++ m) ∧ Gr w w' v v' := by
  subst hP
  subst hn
  obtain ⟨i0, hi, hz0, hz1, hz2⟩ := info_parts infoU8
  obtain ⟨v', w', hr, h1, h2, h3⟩ := run_append_own2 (P := Tryz.prog) w B 38 ty 5 i0 (.int .u8 0) 1 1 Tryz.underlying38 hi hz0 hz1 hz2 rfl (by decide) v l.length (Lib.byteCells l) h ⟨g, 0, none⟩ m.length c (Lib.byteCells m) (by simp [Lib.byteCells]) (fun j u hj => by
    rw [← hcs, Array.getElem?_toList] at hj
    by_cases h0 : j = 0
    · subst h0; simp [Addr.add, World.cell?, hg, hj]
    · simp [Addr.add, World.cell?, h0, hg, hj]) (by
      intro u hu
      simp only [Lib.byteCells, List.mem_map] at hu
      obtain ⟨b, _, rfl⟩ := hu
      rfl) hm (by unfold maxLen; omega) (by omega) hB
  refine ⟨v', w', hr, ?_, h2, fun k hk => by
    rcases h3 with h3 | h3
    · exact .inl (h3.symm.trans hk)
    · rw [h3] at hk; cases hk; exact .inr (Nat.le_refl _)⟩
  unfold Bt
  rw [List.length_append, show Lib.byteCells (l ++ m) = Lib.byteCells l ++ Lib.byteCells m from by simp [Lib.byteCells]]
  exact h1
theorem wpList_app_str {ops : Array Oper} {rest : List Oper} {o : Oper} {a : Act} {Q : Exit → Act → World → Prop} (hgd : o.guard = none) (s x : Operand) (ho : o.op = .call { callee := .builtin .append, args := #[s, x], argTypes := #[38, 9] })
    {v : Value} {l : Bs} (hs : a.eval s = v) (h : Bt B w v l) (hB : B ≤ w.heap.size) (t : ByteArray) (hx : a.eval x = .string t) (hl : l.length + t.size ≤ 1000000000000)
    (hK : ∀ v' w', Bt B w' v' (l ++ t.data.toList) → Gr w w' v v' → wpList Tryz.prog ops Q rest (a.put o.dst v') w') : wpList Tryz.prog ops Q (o :: rest) a w := by
  refine wpList_plain hgd fun K hK' => ?_
  obtain ⟨v', w', hr, h2, h3⟩ := run_app_str (P := Tryz.prog) rfl h hB t hl o.type
  unfold Oper.wp execOp
  simp only [ho, resolve, invoke, builtin, Sem.run_bind, Sem.run_pure, Result.andThen_ok, List.map_toArray, List.map_cons, List.map_nil, hs, hx, hr]
  exact hK' _ _ (hK v' w' h2 h3)
theorem wpList_app_row {ops : Array Oper} {rest : List Oper} {o : Oper} {a : Act} {Q : Exit → Act → World → Prop} (hgd : o.guard = none) (s x : Operand) (ho : o.op = .call { callee := .builtin .append, args := #[s, x], argTypes := #[38, 38] })
    {v : Value} {l : Bs} (hs : a.eval s = v) {cs : Array Value} (h : Bt B w v l) (hB : B ≤ w.heap.size) (m : Bs) {n c : Nat} (hx : a.eval x = .slice (some ⟨w.heap.size, 0, none⟩) n c) (hcs : cs.toList = Lib.byteCells m) (hn : n = m.length) (hm : 0 < m.length) (hl : l.length + m.length ≤ 1000000000000)
    (hK : ∀ v' w', Bt B w' v' (l ++ m) → Gr w w' v v' → wpList Tryz.prog ops Q rest (a.put o.dst v') w') : wpList Tryz.prog ops Q (o :: rest) a (w.alloc (.cells cs 5)) := by
  refine wpList_plain hgd fun K hK' => ?_
  have hB2 : B ≤ (w.alloc (.cells cs 5)).heap.size := by simp; omega
  obtain ⟨v', w', hr, h2, h3⟩ := run_app_row (P := Tryz.prog) rfl (h.alloc (.cells cs 5)) hB2 m (g := w.heap.size) (c := c) hcs (heap_alloc_new w _) hn hm hl o.type
  unfold Oper.wp execOp
  simp only [ho, resolve, invoke, builtin, Sem.run_bind, Sem.run_pure, Result.andThen_ok, List.map_toArray, List.map_cons, List.map_nil, hs, hx, hr]
  exact hK' _ _ (hK v' w' h2 (((Gr.refl w v).alloc _).trans h3))
/-- The row as a text. -/
theorem run_text {v : Value} {l : Bs} (h : Bt B w v l) : (convert 38 9 v).run Tryz.prog w = .ok (.string ⟨l.toArray⟩) w := by
  rcases h.2 with ⟨rfl, h0⟩ | ⟨g, cap, cur, rfl, _, hgg, _⟩
  · obtain rfl : l = [] := List.eq_nil_of_length_eq_zero h0
    exact Lib.run_convert_nil_bytes w 38 9 5 0 Tryz.underlying38 Tryz.underlying5 Tryz.underlying9
  · exact run_convert_bytes_back (P := Tryz.prog) w 38 9 5 ⟨g, 0, none⟩ cap l Tryz.underlying38 Tryz.underlying5 Tryz.underlying9 (fun j hj => World.ownsRow.cells (g := g) h rfl j _ (by simp [Lib.byteCells, hj]))
end
end Go.Proofs.YtpgbfkdknggceaaGreatDoor
