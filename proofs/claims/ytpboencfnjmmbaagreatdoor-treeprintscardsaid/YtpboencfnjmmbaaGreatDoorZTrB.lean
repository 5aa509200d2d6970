/-
 TrRow, TrQuote, joined.
 Conditions: as each theorem says.
-/
import Derived.Test.YtpboencfnjmmbaaGreatDoorZTrA
import Derived.Test.YtpboencfnjmmbaaGreatDoorZLaw
import Derived.Lib.BufferKept
import Derived.Lib.BufferRead
import Derived.Test.YtpboencfnjmmbaaGreatDoorZLx1
set_option maxRecDepth 100000
set_option maxHeartbeats 1000000
set_option linter.unusedVariables false
namespace Go.Proofs.YtpboencfnjmmbaaGreatDoor
open Go.RowKit TM
theorem infoU8 : (Tryz.prog.info? 5).map (fun i => (i.zero, i.size, i.bytes)) = some (some (.int .u8 0), 1, 1) := by kernel_rfl
def Bt (B : Nat) (w : World) (v : Value) (l : Bs) : Prop := w.ownsRow B 5 1 v l.length (Lib.byteCells l)
structure Gr (w w' : World) (v v' : Value) : Prop where
 g : w.grownBy w' v.ownBlock
 o : ∀ k, v'.ownBlock = some k → v.ownBlock = some k ∨ w.heap.size ≤ k
section
variable {B : Nat} {w w' w2 : World} {v v' v2 : Value}
theorem Gr.refl (w : World) (v : Value) : Gr w w v v := ⟨⟨rfl, rfl, rfl, Nat.le_refl _, fun _ _ _ => rfl⟩, fun k h => .inl h⟩
theorem Gr.size (h : Gr w w' v v') : w.heap.size ≤ w'.heap.size := h.g.size
theorem Gr.trans (h : Gr w w' v v') (k : Gr w' w2 v' v2) : Gr w w2 v v2 := by
 refine ⟨⟨k.g.os.trans h.g.os, k.g.tape.trans h.g.tape, k.g.output.trans h.g.output, Nat.le_trans h.size k.size, fun j hj hn => ?_⟩, fun j hj => ?_⟩
 ·rw [k.g.block j (Nat.lt_of_lt_of_le hj h.size) (fun e => ?_), h.g.block j hj hn]
  rcases h.o j e.symm with h1 | h1
  ·exact hn h1.symm
  ·omega
 ·rcases k.o j hj with h1 | h1
  ·exact h.o j h1
  ·exact .inr (Nat.le_trans h.size h1)
theorem Gr.below (h : Gr w w' v v') (hb : Below w'.heap.size w' w2) : Gr w w2 v v' :=
 ⟨⟨hb.os.trans h.g.os, hb.tape.trans h.g.tape, hb.output.trans h.g.output, Nat.le_trans h.size hb.size, fun j hj hn => (hb.block j (Nat.lt_of_lt_of_le hj h.size)).trans (h.g.block j hj hn)⟩, h.o⟩
theorem Gr.alloc (h : Gr w w' v v') (o : Obj) : Gr w (w'.alloc o) v v' := h.below ((Below.refl _ _).alloc (Nat.le_refl _) o)
theorem Gr.drew (h : Gr w w' v v') : Gr w w'.drew v v' := h.below (Below.refl _ _).drew
theorem Gr.pre (h : Gr w' w2 v v2) (hb : Below w.heap.size w w') (hv : ∀ k, v.ownBlock = some k → k < w.heap.size) : Gr w w2 v v2 :=
 ⟨⟨h.g.os.trans hb.os, h.g.tape.trans hb.tape, h.g.output.trans hb.output, Nat.le_trans hb.size h.size, fun j hj hn => (h.g.block j (Nat.lt_of_lt_of_le hj hb.size) hn).trans (hb.block j hj)⟩, fun k hk => by
  rcases h.o k hk with h1 | h1
  ·exact .inl h1
  ·exact .inr (Nat.le_trans hb.size h1)⟩
theorem Bt.nil (B : Nat) (w : World) : Bt B w (.slice none 0 0) [] := World.ownsRow_nil _ _ _ _
theorem Bt.alloc {v : Value} {l : Bs} (h : Bt B w v l) (o : Obj) : Bt B (w.alloc o) v l := World.ownsRow.alloc h o
theorem Bt.below {v : Value} {l : Bs} (h : Bt B w v l) (hb : Below w.heap.size w w') : Bt B w' v l := by
 refine ⟨h.1, ?_⟩
 rcases h.2 with h0 | ⟨g, cap, cur, rfl, hg, hh, r⟩
 ·exact .inl h0
 ·exact .inr ⟨g, cap, cur, rfl, hg, (hb.block g (Array.getElem?_eq_some_iff.1 hh).1).trans hh, r⟩
theorem Bt.kind {v : Value} {l : Bs} (h : Bt B w v l) : ∀ g, v.ownBlock = some g → ∃ c fz, w.heap[g]? = some (.cells c 5 fz) := by
 intro g hg
 rcases h.2 with ⟨rfl, _⟩ | ⟨g', cap, cur, rfl, _, hgg, _⟩
 ·simp [Value.ownBlock] at hg
 ·simp [Value.ownBlock] at hg
  subst hg
  exact ⟨cur, _, hgg⟩
theorem Bt.lt {v : Value} {l : Bs} (h : Bt B w v l) : ∀ k, v.ownBlock = some k → B ≤ k ∧ k < w.heap.size := World.ownsRow.lt h
theorem Bt.bel {v v' : Value} {l : Bs} (h : Bt B w v l) (g : Gr w w' v v') (hB : B ≤ w.heap.size) : Below B w w' := (Below.refl B w).grown g.g hB (fun k e => (h.lt k e).1)
theorem Bt.block {v v' : Value} {l : Bs} (h : Bt B w v l) (g : Gr w w' v v') {k : Nat} {cs : Array Value} {t : TypeId} {fz : Nat × Nat} (hk : w.heap[k]? = some (.cells cs t fz)) (ht : t ≠ 5) : w'.heap[k]? = some (.cells cs t fz) := by
 rw [g.g.block k (Array.getElem?_eq_some_iff.1 hk).1 (fun e => ?_)]
 ·exact hk
 ·obtain ⟨c, f, hc⟩ := h.kind k e.symm
  rw [hk] at hc
  injection hc with hc
  injection hc with _ e2 _
  exact ht e2
theorem own_str {i0 : TypeInfo} (hi : Tryz.prog.info? 5 = some i0) (hz0 : i0.zero = some (.int .u8 0)) (hz1 : i0.size = 1) (hz2 : i0.bytes = 1) {v : Value} {l : Bs} (h : Bt B w v l) (s : ByteArray) (hl : l.length + s.size ≤ 1000000000000) {ty : TypeId} {v' : Value} {w' : World}
 (hr : (Builtin.append_ #[73, 9] ty #[v, .string s]).run Tryz.prog w = .ok v' w') : ∀ k, v'.ownBlock = some k → v.ownBlock = some k ∨ w.heap.size ≤ k := by
 intro k hk
 have ht := Tryz.underlying73
 have hu := Tryz.underlying9
 rcases h.2 with ⟨rfl, hn0⟩ | ⟨g, cap, cur, rfl, hbg, hg, hnc, hcm, hcs, htake⟩
 ·by_cases hm : s.size = 0
  ·have hf := Lib.run_firstCells_string (P := Tryz.prog) w 1 s
   rw [hm] at hf
   simp [Builtin.append_, run_underlying ht, run_underlying hu, sizeOf, typeInfo, hi, hz1, Builtin.lenOf, hm, hf] at hr
   rw [← hr.1] at hk
   exact .inl hk
  ·have hr2 := run_append_nil_string (P := Tryz.prog) w 73 9 ty 5 i0 (.int .u8 0) ht hu hi hz0 s (by omega) (by omega) (by rw [hz2]; omega)
   rw [hr] at hr2
   injection hr2 with e1 e2
   rw [e1] at hk
   simp [Value.ownBlock] at hk
   exact .inr (by omega)
 ·by_cases hroom : l.length + s.size ≤ cap
  ·have hcs' : cur.size = cap := by simpa using hcs
   have hr2 := Lib.run_append_room_string (P := Tryz.prog) w 73 9 ty 5 i0 ht hu hi hz1 g l.length cap cur hg s hroom (by omega)
   rw [hr] at hr2
   injection hr2 with e1 e2
   rw [e1] at hk
   exact .inl hk
  ·have holds : ∀ j u, (Lib.byteCells l)[j]? = some u → w.cell? ((⟨g, 0, none⟩ : Addr).add j) = some u := World.ownsRow.cells (g := g) h rfl
   have hr2 := Lib.run_append_grow_string (P := Tryz.prog) w 73 9 ty 5 i0 (.int .u8 0) ht hu hi hz0 ⟨g, 0, none⟩ l.length cap (Lib.byteCells l) (by rw [hz1]; simp [Lib.byteCells]) holds s (by omega) (by omega) (by rw [hz2]; exact growslice_fits (by omega) (by omega))
   rw [hr] at hr2
   injection hr2 with e1 e2
   rw [e1] at hk
   simp [Value.ownBlock] at hk
   exact .inr (by omega)
theorem run_app_str {P : Program} (hP : P = Tryz.prog) {v : Value} {l : Bs} (h : Bt B w v l) (hB : B ≤ w.heap.size) (s : ByteArray) (hl : l.length + s.size ≤ 1000000000000) (ty : TypeId) :
 ∃ v' w', (Builtin.append_ #[73, 9] ty #[v, .string s]).run P w = .ok v' w' ∧ Bt B w' v' (l ++ s.data.toList) ∧ Gr w w' v v' := by
 subst hP
 obtain ⟨i0, hi, hz0, hz1, hz2⟩ := info_parts infoU8
 obtain ⟨v', w', hr, h1, h2, _⟩ := Lib.run_append_own_string (P := Tryz.prog) w B 73 9 ty 5 i0 Tryz.underlying73 Tryz.underlying9 hi hz0 hz1 hz2 v l.length (Lib.byteCells l) h s (by unfold maxLen; omega) (by omega) hB
 refine ⟨v', w', hr, ?_, h2, own_str hi hz0 hz1 hz2 h s (by omega) hr⟩
 unfold Bt
 have e1 : (l ++ s.data.toList).length = l.length + s.size := by rw [List.length_append]; rfl
 have e2 : Lib.byteCells (l ++ s.data.toList) = Lib.byteCells l ++ Lib.strCells s := by simp [Lib.byteCells, Lib.strCells]
 rw [e1, e2]
 exact h1
theorem run_app_row {P : Program} (hP : P = Tryz.prog) {v : Value} {l : Bs} (h : Bt B w v l) (hB : B ≤ w.heap.size) (m : Bs) {cs : Array Value} {g n c : Nat} (hcs : cs.toList = Lib.byteCells m) {fz : Nat × Nat} (hg : w.heap[g]? = some (.cells cs 5 fz)) (hn : n = m.length) (hm : 0 < m.length) (hl : l.length + m.length ≤ 1000000000000) (ty : TypeId) :
 ∃ v' w', (Builtin.append_ #[73, 73] ty #[v, .slice (some ⟨g, 0, none⟩) n c]).run P w = .ok v' w' ∧ Bt B w' v' (l ++ m) ∧ Gr w w' v v' := by
 subst hP
 subst hn
 obtain ⟨i0, hi, hz0, hz1, hz2⟩ := info_parts infoU8
 obtain ⟨v', w', hr, h1, h2, h3⟩ := run_append_own2 (P := Tryz.prog) w B 73 ty 5 i0 (.int .u8 0) 1 1 Tryz.underlying73 hi hz0 hz1 hz2 rfl (by decide) v l.length (Lib.byteCells l) h ⟨g, 0, none⟩ m.length c (Lib.byteCells m) (by simp [Lib.byteCells]) (fun j u hj => by
  rw [← hcs, Array.getElem?_toList] at hj
  by_cases h0 : j = 0
  ·subst h0; simp [Addr.add, World.cell?, hg, hj]
  ·simp [Addr.add, World.cell?, h0, hg, hj]) (by
   intro u hu
   simp only [Lib.byteCells, List.mem_map] at hu
   obtain ⟨b, _, rfl⟩ := hu
   rfl) hm (by unfold maxLen; omega) (by omega) hB
 refine ⟨v', w', hr, ?_, h2, fun k hk => by
  rcases h3 with h3 | h3
  ·exact .inl (h3.symm.trans hk)
  ·rw [h3] at hk; cases hk; exact .inr (Nat.le_refl _)⟩
 unfold Bt
 rw [List.length_append, show Lib.byteCells (l ++ m) = Lib.byteCells l ++ Lib.byteCells m from by simp [Lib.byteCells]]
 exact h1
theorem wpList_app_str {ops : Array Oper} {rest : List Oper} {o : Oper} {a : Act} {Q : Exit → Act → World → Prop} (hgd : o.guard = none) (s x : Operand) (ho : o.op = .call { callee := .builtin .append, args := #[s, x], argTypes := #[73, 9] })
 {v : Value} {l : Bs} (hs : a.eval s = v) (h : Bt B w v l) (hB : B ≤ w.heap.size) (t : ByteArray) (hx : a.eval x = .string t) (hl : l.length + t.size ≤ 1000000000000)
 (hK : ∀ v' w', Bt B w' v' (l ++ t.data.toList) → Gr w w' v v' → wpList Tryz.prog ops Q rest (a.put o.dst v') w') : wpList Tryz.prog ops Q (o :: rest) a w := by
 refine wpList_plain hgd fun K hK' => ?_
 obtain ⟨v', w', hr, h2, h3⟩ := run_app_str (P := Tryz.prog) rfl h hB t hl o.type
 unfold Oper.wp execOp
 simp only [ho, resolve, invoke, builtin, Sem.run_bind, Sem.run_pure, Result.andThen_ok, List.map_toArray, List.map_cons, List.map_nil, hs, hx, hr]
 exact hK' _ _ (hK v' w' h2 h3)
theorem wpList_app_row {ops : Array Oper} {rest : List Oper} {o : Oper} {a : Act} {Q : Exit → Act → World → Prop} (hgd : o.guard = none) (s x : Operand) (ho : o.op = .call { callee := .builtin .append, args := #[s, x], argTypes := #[73, 73] })
 {v : Value} {l : Bs} (hs : a.eval s = v) {cs : Array Value} (h : Bt B w v l) (hB : B ≤ w.heap.size) (m : Bs) {n c : Nat} (hx : a.eval x = .slice (some ⟨w.heap.size, 0, none⟩) n c) (hcs : cs.toList = Lib.byteCells m) (hn : n = m.length) (hm : 0 < m.length) (hl : l.length + m.length ≤ 1000000000000)
 (hK : ∀ v' w', Bt B w' v' (l ++ m) → Gr w w' v v' → wpList Tryz.prog ops Q rest (a.put o.dst v') w') : wpList Tryz.prog ops Q (o :: rest) a (w.alloc (.cells cs 5)) := by
 refine wpList_plain hgd fun K hK' => ?_
 have hB2 : B ≤ (w.alloc (.cells cs 5)).heap.size := by simp; omega
 obtain ⟨v', w', hr, h2, h3⟩ := run_app_row (P := Tryz.prog) rfl (h.alloc (.cells cs 5)) hB2 m (g := w.heap.size) (c := c) hcs (heap_alloc_new w _) hn hm hl o.type
 unfold Oper.wp execOp
 simp only [ho, resolve, invoke, builtin, Sem.run_bind, Sem.run_pure, Result.andThen_ok, List.map_toArray, List.map_cons, List.map_nil, hs, hx, hr]
 exact hK' _ _ (hK v' w' h2 (((Gr.refl w v).alloc _).trans h3))
theorem run_text {v : Value} {l : Bs} (h : Bt B w v l) : (convert 73 9 v).run Tryz.prog w = .ok (.string ⟨l.toArray⟩) w := by
 rcases h.2 with ⟨rfl, h0⟩ | ⟨g, cap, cur, rfl, _, hgg, _⟩
 ·obtain rfl : l = [] := List.eq_nil_of_length_eq_zero h0
  exact Lib.run_convert_nil_bytes w 73 9 5 0 Tryz.underlying73 Tryz.underlying5 Tryz.underlying9
 ·exact run_convert_bytes_back (P := Tryz.prog) w 73 9 5 ⟨g, 0, none⟩ cap l Tryz.underlying73 Tryz.underlying5 Tryz.underlying9 (fun j hj => World.ownsRow.cells (g := g) h rfl j _ (by simp [Lib.byteCells, hj]))
end
end Go.Proofs.YtpboencfnjmmbaaGreatDoor
namespace Go.Proofs.YtpboencfnjmmbaaGreatDoor
open Go.RowKit TM
theorem quo_len (c : UInt8) : 1 ≤ (quo c).length ∧ (quo c).length ≤ 2 := by
 unfold quo
 split
 ·simp
 ·split <;> simp
theorem quoF_len : ∀ (l : Bs), l.length ≤ (l.flatMap quo).length ∧ (l.flatMap quo).length ≤ 2 * l.length
 | [] => by simp
 | c :: l => by have := quo_len c; have := quoF_len l; simp only [List.flatMap_cons, List.length_append, List.length_cons]; omega
theorem quoF_snoc {l : Bs} {k : Nat} {c : UInt8} (h : l[k]? = some c) : (l.take (k + 1)).flatMap quo = (l.take k).flatMap quo ++ quo c := by
 rw [List.take_add_one, h, List.flatMap_append]
 simp
theorem take_len (l : Bs) (k : Nat) : (l.take k).length ≤ k := by rw [List.length_take]; omega
theorem addQuote_any {B : Nat} {w : World} {v : Value} {l : Bs} (hR : Bt B w v l) (hB : B ≤ w.heap.size) (s : ByteArray) (hl : l.length + s.size ≤ 1000000000) :
 Calls Tryz.prog 80 #[v, .string s] w fun e w' => ∃ v', e = .returned v' ∧ Bt B w' v' (l ++ quoteT s.data.toList) ∧ Gr w w' v v' := by
 have HR : Hid (Bt B w v l) := hR
 clear hR
 go_enter Tryz.func80, Tryz.ntmps80
 go_wp2_with (at_builtin; refine wpList_app_row rfl (.tmp 7) (.tmp 8) rfl rfl HR.out hB [34] rfl rfl rfl (by decide) (by simp; omega) ?_)
 intro v1 w1 h1 k1
 have HK1 : Hid (Gr w w1 v v1) := k1
 have HR1 : Hid (Bt B w1 v1 (l ++ [34])) := h1
 have hB1 : B ≤ w1.heap.size := Nat.le_trans hB k1.size
 clear h1 k1 HR
 go_wp2_with fail
 go_loopw [12, 0] (fun i u wr => ∃ k : Nat, k ≤ s.size ∧ i = .int .i64 k ∧ Hid (Bt B wr u (l ++ [34] ++ (s.data.toList.take k).flatMap quo)) ∧ Hid (Gr w wr v u))
  (fun i _ _ => s.size - (intOf i).toNat)
 case atStart => exact ⟨0, Nat.zero_le _, rfl, by simpa using HR1, HK1⟩
 case round =>
  obtain ⟨k, hk, rfl, HB, HK⟩ := hrel
  have hBw : B ≤ wr.heap.size := Nat.le_trans hB HK.out.size
  have hlen : (l ++ [34] ++ (s.data.toList.take k).flatMap quo).length ≤ l.length + 1 + 2 * k := by
   have h1 := quoF_len (s.data.toList.take k)
   have h2 := take_len s.data.toList k
   simp only [List.length_append, List.length_cons, List.length_nil]
   omega
  obtain ⟨A, hA⟩ : ∃ A, l ++ [34] ++ (s.data.toList.take k).flatMap quo = A := ⟨_, rfl⟩
  rw [hA] at HB hlen
  have HA : Hid (l ++ [34] ++ (s.data.toList.take k).flatMap quo = A) := hA
  clear hA
  by_cases hlt : k < s.size
  ·have hb := byte_at s k hlt
   have HS : Hid ((s.data.toList.take (k + 1)).flatMap quo = (s.data.toList.take k).flatMap quo ++ quo (s[k]'hlt)) := quoF_snoc hb
   have hidx : 0 ≤ (k : Int) ∧ (k : Int) < (s.size : Int) := ⟨by omega, by omega⟩
   by_cases h10 : (s[k]'hlt).toNat = 10
   ·have e1 : (((s[k]'hlt).toNat : Int) == 10) = true := by rw [h10]; rfl
    have HQ : Hid (quo (s[k]'hlt) = [92, 110]) := by show _ = _; simp [quo, h10]
    clear hb h10
    go_wp2_with (at_builtin; refine wpList_app_str rfl (.tmp 25) _ rfl rfl HB.out hBw ⟨#[92, 110]⟩ rfl (by show _ + 2 ≤ _; omega) ?_)
    intro v2 w2 h2 k2
    have HB2 : Hid (Bt B w2 v2 (l ++ [34] ++ (s.data.toList.take (k + 1)).flatMap quo)) := by show Bt _ _ _ _; rw [HS.out, HQ.out, ← List.append_assoc, HA.out]; exact h2
    have HK2 : Hid (Gr w w2 v v2) := HK.out.trans k2
    clear h2 k2
    go_wp2_with fail
    go_roundw
    case rel => exact ⟨k + 1, by omega, by go_num, HB2, HK2⟩
    case measure => simp [intOf]; omega
   ·have e1 : (((s[k]'hlt).toNat : Int) == 10) = false := by rw [beq_eq_false_iff_ne]; omega
    by_cases h34 : (s[k]'hlt).toNat = 34
    ·have e2 : (((s[k]'hlt).toNat : Int) == 34) = true := by rw [h34]; rfl
     have HQ : Hid (quo (s[k]'hlt) = [92, s[k]'hlt]) := by show _ = _; simp [quo, h34]
     clear hb h10 h34
     go_wp2_with (at_builtin; refine wpList_app_row rfl (.tmp 30) (.tmp 32) rfl rfl HB.out hBw [92, s[k]'hlt] rfl (by rfl) rfl (by simp) (by simp only [List.length_cons, List.length_nil]; omega) ?_)
     intro v2 w2 h2 k2
     have HB2 : Hid (Bt B w2 v2 (l ++ [34] ++ (s.data.toList.take (k + 1)).flatMap quo)) := by show Bt _ _ _ _; rw [HS.out, HQ.out, ← List.append_assoc, HA.out]; exact h2
     have HK2 : Hid (Gr w w2 v v2) := HK.out.trans k2
     clear h2 k2
     go_wp2_with fail
     go_roundw
     case rel => exact ⟨k + 1, by omega, by go_num, HB2, HK2⟩
     case measure => simp [intOf]; omega
    ·have e2 : (((s[k]'hlt).toNat : Int) == 34) = false := by rw [beq_eq_false_iff_ne]; omega
     by_cases h92 : (s[k]'hlt).toNat = 92
     ·have e3 : (((s[k]'hlt).toNat : Int) == 92) = true := by rw [h92]; rfl
      have HQ : Hid (quo (s[k]'hlt) = [92, s[k]'hlt]) := by show _ = _; simp [quo, h92]
      clear hb h10 h34 h92
      go_wp2_with (at_builtin; refine wpList_app_row rfl (.tmp 30) (.tmp 32) rfl rfl HB.out hBw [92, s[k]'hlt] rfl (by rfl) rfl (by simp) (by simp only [List.length_cons, List.length_nil]; omega) ?_)
      intro v2 w2 h2 k2
      have HB2 : Hid (Bt B w2 v2 (l ++ [34] ++ (s.data.toList.take (k + 1)).flatMap quo)) := by show Bt _ _ _ _; rw [HS.out, HQ.out, ← List.append_assoc, HA.out]; exact h2
      have HK2 : Hid (Gr w w2 v v2) := HK.out.trans k2
      clear h2 k2
      go_wp2_with fail
      go_roundw
      case rel => exact ⟨k + 1, by omega, by go_num, HB2, HK2⟩
      case measure => simp [intOf]; omega
     ·have e3 : (((s[k]'hlt).toNat : Int) == 92) = false := by rw [beq_eq_false_iff_ne]; omega
      have HQ : Hid (quo (s[k]'hlt) = [s[k]'hlt]) := by show _ = _; simp [quo, h10, h34, h92]
      clear hb h10 h34 h92
      go_wp2_with (at_builtin; refine wpList_app_row rfl (.tmp 19) (.tmp 21) rfl rfl HB.out hBw [s[k]'hlt] rfl (by rfl) rfl (by simp) (by simp only [List.length_cons, List.length_nil]; omega) ?_)
      intro v2 w2 h2 k2
      have HB2 : Hid (Bt B w2 v2 (l ++ [34] ++ (s.data.toList.take (k + 1)).flatMap quo)) := by show Bt _ _ _ _; rw [HS.out, HQ.out, ← List.append_assoc, HA.out]; exact h2
      have HK2 : Hid (Gr w w2 v v2) := HK.out.trans k2
      clear h2 k2
      go_wp2_with fail
      go_roundw
      case rel => exact ⟨k + 1, by omega, by go_num, HB2, HK2⟩
      case measure => simp [intOf]; omega
  ·obtain rfl : k = s.size := by omega
   go_wp2_with (at_builtin; refine wpList_app_row rfl (.tmp 35) (.tmp 36) rfl rfl HB.out hBw [34] rfl rfl rfl (by decide) (by simp only [List.length_cons, List.length_nil]; omega) ?_)
   intro v2 w2 h2 k2
   have HB2 : Hid (Bt B w2 v2 (l ++ quoteT s.data.toList)) := by
    show Bt _ _ _ _
    rw [← HA.out, List.take_of_length_le (by rw [len_eq]; exact Nat.le_refl _)] at h2
    unfold quoteT
    simpa [List.append_assoc] using h2
   have HK2 : Hid (Gr w w2 v v2) := HK.out.trans k2
   clear h2 k2
   go_wp2
   go_ret
   exact ⟨v2, rfl, HB2.out, HK2.out⟩
end Go.Proofs.YtpboencfnjmmbaaGreatDoor
