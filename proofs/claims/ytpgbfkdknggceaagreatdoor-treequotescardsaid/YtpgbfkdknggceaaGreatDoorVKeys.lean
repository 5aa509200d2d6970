/-
  slices.SortedFunc(maps.Keys(m), arena.Order) over a map from values to values: a new slice that holds its keys, in order; nothing that was there is turned.
  Conditions: as each theorem says.
-/
import Derived.Test.YtpgbfkdknggceaaGreatDoorVals
import Derived.Test.YtpgbfkdknggceaaGreatDoorOrder
import Derived.Test.YtpgbfkdknggceaaGreatDoorShelfSortVals
import Derived.Shelf.SlIterI.Collect
namespace Go.Proofs.YtpgbfkdknggceaaGreatDoor
open Go.ChangeShapes Go.WideShapes Go.ChangeAt Go.RowKit Go.Maps Go.Sort Go.Shelf
set_option linter.unusedVariables false
/-- No key twice; a key is on the list just where the map has it and it is no longer to come. -/
def CollV (D : DataW Value) (left : Lit → Bool) (ss : List Vl) : Prop := ss.Nodup ∧ (∀ x ∈ ss, x.wf) ∧ ∀ x : Vl, x.wf → (x ∈ ss ↔ (has D (keyV x) = true ∧ left (keyV x) = false))
theorem CollV.start (D : DataW Value) : CollV D (has D) [] := ⟨List.nodup_nil, by simp, fun x _ => by cases has D (keyV x) <;> simp⟩
theorem same_keyV {x y : Vl} (hx : x.wf) (hy : y.wf) : (keyV y).sameKey (keyV x) = decide (y = x) := by
  by_cases e : y = x
  · subst e; simp [Lit.sameKey, keyV]
  · rw [decide_eq_false e]
    cases h : (keyV y).sameKey (keyV x)
    · rfl
    · exact absurd (keyV_inj hy hx (by simpa [Lit.sameKey, keyV] using h)) e
theorem CollV.step {D : DataW Value} {left : Lit → Bool} {ss : List Vl} (h : CollV D left ss) {x : Vl} (hx : x.wf) {y : DataW Value} (hlk : left (keyV x) = true) (hat : ∀ zd, D.atKey (keyV x) zd = y) : CollV D (fun z => left z && !z.sameKey (keyV x)) (ss ++ [x]) := by
  have hhas : has D (keyV x) = true := has_true_of_atKey hat
  have hnew : x ∉ ss := fun e => by have := ((h.2.2 x hx).1 e).2; rw [hlk] at this; cases this
  refine ⟨List.nodup_append.2 ⟨h.1, by simp, fun a ha b hb => by simp at hb; subst hb; exact fun e => hnew (e ▸ ha)⟩, fun z hz => ?_, fun z hz => ?_⟩
  · rcases List.mem_append.1 hz with hz | hz
    · exact h.2.1 z hz
    · simp at hz; subst hz; exact hx
  · show _ ↔ _ ∧ (left (keyV z) && !(keyV z).sameKey (keyV x)) = false
    rw [same_keyV hx hz]
    by_cases e : z = x
    · subst e; simp [hhas]
    · simp [h.2.2 z hz, e]
theorem CollV.perm {w : World} {b : Nat} {m : List (Vl × Vl)} {D : DataW Value} {left : Lit → Bool} {ss : List Vl} (h : CollV D left ss) (hf : FldsD w b m D) (hl : ∀ kl, left kl = false) : ss.Perm (m.map Prod.fst) := by
  refine (List.perm_ext_iff_of_nodup h.1 hf.nodup).2 fun x => ⟨fun hx => ?_, fun hx => ?_⟩
  · have hw := h.2.1 x hx
    have := ((h.2.2 x hw).1 hx).1
    rw [hf.has hw] at this
    exact of_decide_eq_true this
  · have hw : x.wf := by obtain ⟨p, hp, rfl⟩ := List.mem_map.1 hx; exact hf.wf p hp
    exact (h.2.2 x hw).2 ⟨by rw [hf.has hw]; exact decide_eq_true hx, hl _⟩
set_option maxRecDepth 100000 in
set_option maxHeartbeats 1000000 in
/-- The iterator of maps.Keys, for every loop body that keeps its word. -/
theorem vkeys1_in (n : Nat) (hn : 1 ≤ n) (l Bm b : Nat) (m : List (Vl × Vl)) (D : DataW Value) (J : List Vl → World → Prop)
    (hY : ∀ pre x W, J pre W → pre.length < m.length → YieldAt Fence.wide (n - 1) Tryz.prog l #[Vl.val x] W fun e W' => e = .returned (.bool true) ∧ J (pre ++ [x]) W' ∧ KeepsWalks W W')
    (W : World) (hJ : AbidesFrom W.heap.size J) (hm : W.cell? ⟨Bm, 0, none⟩ = some (.map (some b))) (hf : FldsD W b m D) (h0 : J [] W) :
    CallsIn Fence.wide n Tryz.prog 116 #[.func (.yield l) #[] #[], .pointer (some ⟨Bm, 0, none⟩)] W fun e W' => (∃ v, e = .returned v) ∧ ∃ ss : List Vl, ss.Perm (m.map Prod.fst) ∧ J ss W' := by
  have hown := hf.own
  have hsz := hf.size
  refine callsIn_of_wp Tryz.func116 rfl trivial ?_ rfl
  simp only [Tryz.ntmps116, List.size_toArray, List.length_cons, List.length_nil, Nat.reduceAdd, Nat.reduceSub, Array.replicate_succ, Array.replicate_zero, List.push_toArray, List.append_toArray, List.nil_append, List.cons_append]
  gi_wp2_with (first
    | (gi_at_range; refine wpListIn_range_own _ rfl _ 108 rfl 112 112 keyedV Tryz.underlying108 _ b m.length _ rfl hown ?_; intro w0 hrg0 hg0 hs0)
    | gi_in)
  go_frame
  gi_loopw [3] (fun _ wr => ∃ (left : Lit → Bool) (cnt : Nat) (ss : List Vl), wr.ranges Tryz.prog 112 asIs b W.heap.size m.length D left cnt ∧ ss.length + cnt ≤ Maps.size D ∧ CollV D left ss ∧ J ss wr)
    (fun _ wr => wr.rangeLeft b W.heap.size)
  case atStart =>
    exact ⟨_, _, [], hrg0, by simp, CollV.start D, hJ [] W w0 none h0 hg0 (fun r e => by cases e)⟩
  case round =>
    obtain ⟨left, cnt, ss, hrg, hcs, hC, hJs⟩ := hrel
    gi_wp2_with (first
      | (gi_at_next; refine wpListIn_next_ranges _ rfl _ rfl 112 keyedV asIs Vl.val id (fun key kl hk => by obtain ⟨x, hx, _⟩ := keyOf_inv hk; exact ⟨x, hx⟩) (fun v _ _ => ⟨v, rfl⟩) b W.heap.size m.length _ _ _ rfl hrg ?_ ?_)
      | gi_in)
    · intro hc0 hl0
      gi_wp2
      go_end0
      exact ⟨⟨_, rfl⟩, ss, hC.perm hf hl0, hJs⟩
    · intro x c kl yd yp w2 cnt2 hkey hlk hv hat hrg2 hlt hg2 hs2 hen
      obtain ⟨x', ex, rfl, hw⟩ := keyOf_inv hkey
      obtain rfl : x = x' := val_inj ex
      have hJ2 : J ss w2 := hJ ss wr w2 (some W.heap.size) hJs hg2 (fun r e => by cases e; exact ⟨Nat.le_refl _, hrg.iter_walk⟩)
      have hJ3 : ∀ o, J ss (w2.alloc o) := fun o => hJ ss w2 _ none hJ2 (World.grownBy_alloc w2 o none) (fun r e => by cases e)
      have hsl : ss.length < m.length := by omega
      have hYY := hY ss x (w2.alloc (.cells #[.int .u8 x.k, .int .i64 x.n, .string x.s] 112)) (hJ3 _) hsl
      obtain ⟨kx, nx, sx⟩ := x
      simp only [Vl.val] at hen hYY ⊢
      obtain ⟨fn, tmps, assign, body, hy, hR⟩ := hYY
      clear hs2
      gi_wp2
      refine hR.mono ?_
      rintro e W3 ⟨rfl, hJ4, hk3⟩
      gi_wp2
      have hrg3 := hrg2.of_walks ((KeepsWalks.alloc _ _).trans hk3)
      go_roundw
      case rel => exact ⟨_, cnt2, ss ++ [⟨kx, nx, sx⟩], hrg3, by simp; omega, hC.step hw hlk hat, hJ4⟩
      case measure => rw [hrg3.left_eq, hrg.left_eq]; exact hlt
set_option maxHeartbeats 1000000 in
theorem vkeys_in (n : Nat) (mb : Option Nat) (w : World) :
    CallsIn Fence.wide n Tryz.prog 99 #[.map mb] w fun e w' => e = .returned (.func (.func 116) #[] #[.pointer (some ⟨w.heap.size, 0, none⟩)]) ∧ w' = w.alloc (.cells #[.map mb] 108) := by
  refine callsIn_of_wp Tryz.func99 rfl trivial ?_ rfl
  simp only [Tryz.ntmps99, List.size_toArray, List.length_cons, List.length_nil, Nat.reduceAdd, Nat.reduceSub, Array.replicate_succ, Array.replicate_zero, List.push_toArray, List.append_toArray, List.nil_append, List.cons_append]
  gi_wp2
  go_ret
  exact ⟨rfl, rfl⟩
/-- maps.Keys(m) hands back an iterator over m's keys. -/
theorem vkeys_gives (n : Nat) (hn : 1 ≤ n) (Bm b : Nat) (m : List (Vl × Vl)) (w : World) (hBm : Bm < w.heap.size) (hm : w.cell? ⟨Bm, 0, none⟩ = some (.map (some b))) (hf : Flds w b m) :
    SeqGives Fence.wide n Tryz.prog 116 #[.pointer (some ⟨Bm, 0, none⟩)] Vl.val (fun ss => ss.Perm (m.map Prod.fst)) m.length w := fun l J W hW hJ hY h0 => by
  obtain ⟨D, hf⟩ := hf
  exact vkeys1_in n hn l Bm b m D J hY W hJ ((hW.cell (p := ⟨Bm, 0, none⟩) hBm).trans hm) (hf.kept (hW.block b hf.own.lt)) h0
set_option maxRecDepth 100000 in
set_option maxHeartbeats 1000000 in
/-- .. of nil: none. -/
theorem vkeys_none (n : Nat) (hn : 1 ≤ n) (Bm : Nat) (w : World) (hBm : Bm < w.heap.size) (hm : w.cell? ⟨Bm, 0, none⟩ = some (.map none)) :
    SeqGives Fence.wide n Tryz.prog 116 #[.pointer (some ⟨Bm, 0, none⟩)] Vl.val (fun ss => ss = []) 0 w := fun l J W hW hJ hY h0 => by
  have hm := (hW.cell (p := ⟨Bm, 0, none⟩) hBm).trans hm
  refine callsIn_of_wp Tryz.func116 rfl trivial ?_ rfl
  simp only [Tryz.ntmps116, List.size_toArray, List.length_cons, List.length_nil, Nat.reduceAdd, Nat.reduceSub, Array.replicate_succ, Array.replicate_zero, List.push_toArray, List.append_toArray, List.nil_append, List.cons_append]
  have hrg := run_range_nilMap (P := Tryz.prog) W 108 112 112 Tryz.underlying108
  have hnx : ∀ ty, (Instr.next (.pointer (some ⟨W.heap.size, 0, none⟩)) false ty).run Tryz.prog (W.alloc (.mapIter none 0 #[] 0)) = _ := fun ty => run_next_nilMap _ ty 0 0 #[]
  gi_wp2
  refine wpIn_loop_rounds 1 ?_
  rw [roundsIn_succ]
  gi_wp2
  go_end0
  exact ⟨⟨_, rfl⟩, [], rfl, hJ [] W _ none h0 (World.grownBy_alloc W _ none) (fun r e => by cases e)⟩
def apAssign : Code := (Code.region 2 #[{ dst := some 5, op := Op.alloc 112, type := 0, pos := "iter.go:51", after := #[], guard := none }, { dst := none, op := Op.store 112 (Operand.tmp 5) (Operand.tmp 7), type := 0, pos := "iter.go:51", after := #[{ on := 0, ground := Ground.data }, { on := 0, ground := Ground.phase }], guard := none }] false)
def apBody : Code := (Code.block 1 (Code.region 3 #[{ dst := some 8, op := Op.load 109 (Operand.tmp 2), type := 109, pos := "iter.go:52", after := #[], guard := none }, { dst := some 9, op := Op.load 112 (Operand.tmp 5), type := 112, pos := "iter.go:52", after := #[], guard := none }, { dst := some 10, op := Op.buildSlice 109 1 #[(0, Operand.tmp 9)], type := 109, pos := "iter.go:52", after := #[{ on := 1, ground := Ground.data }], guard := none }, { dst := some 11, op := Op.call { callee := Callee.builtin Builtin.append, args := #[Operand.tmp 8, Operand.tmp 10], argTypes := #[109, 109] }, type := 109, pos := "iter.go:52", after := #[{ on := 0, ground := Ground.data }, { on := 2, ground := Ground.data }], guard := none }, { dst := none, op := Op.store 109 (Operand.tmp 2) (Operand.tmp 11), type := 0, pos := "iter.go:52", after := #[{ on := 3, ground := Ground.data }, { on := 3, ground := Ground.chain }, { on := 0, ground := Ground.phase }, { on := 1, ground := Ground.phase }, { on := 2, ground := Ground.phase }, { on := 3, ground := Ground.phase }], guard := none }] false))
/-- The loop's record of AppendSeq: 's' boxed in block Bs; sv: the iterator's value. -/
def apRec (fn : FuncId) (sv : Value) (Bs D : Nat) (st : LoopState) (pend : Option Code) : Loop :=
  { state := st, pending := pend, fn, tmps := #[.slice none 0 0, sv, .pointer (some ⟨Bs, 0, none⟩), undef, .slice none 0 0, undef, sv, undef, undef, undef, undef, undef, undef], params := #[7], assign := apAssign, body := apBody, defers := D }
/-- Rows of values. -/
def flat (l : List Vl) : List Value := l.flatMap Vl.list
theorem flat_length (l : List Vl) : (flat l).length = l.length * 3 := by
  induction l with
  | nil => rfl
  | cons x l ih => simp only [flat, List.flatMap_cons, List.length_append, List.length_cons] at ih ⊢; rw [ih]; simp [Vl.list]; omega
theorem flat_append (l m : List Vl) : flat (l ++ m) = flat l ++ flat m := by simp [flat]
theorem flat_get {l : List Vl} {i : Nat} {v : Vl} (h : l[i]? = some v) : (flat l)[i * 3]? = some (.int .u8 v.k) ∧ (flat l)[i * 3 + 1]? = some (.int .i64 v.n) ∧ (flat l)[i * 3 + 2]? = some (.string v.s) := by
  induction l generalizing i with
  | nil => simp at h
  | cons q l ih =>
    cases i with
    | zero => simp at h; subst h; simp [flat, Vl.list]
    | succ i =>
      have := ih (by simpa using h)
      rw [show (i + 1) * 3 = i * 3 + 1 + 1 + 1 from by omega]
      simpa [flat, Vl.list] using this
theorem flat_one {l : List Vl} : ∀ v ∈ flat l, v.oneCell' = true := by
  intro v hv
  obtain ⟨x, _, hx⟩ := List.mem_flatMap.1 hv
  simp [Vl.list] at hx
  rcases hx with rfl | rfl | rfl <;> rfl
/-- Between two rounds. -/
structure ApAt (w0 : World) (fn : FuncId) (sv : Value) (Bs l D : Nat) (ss : List Vl) (W : World) : Prop where
  box : ∃ v, W.heap[Bs]? = some (.cells #[v] 109 (0, 0)) ∧ W.ownsRow w0.heap.size 112 3 v ss.length (flat ss) ∧ (v = .slice none 0 0 ↔ ss = [])
  L : W.heap[l]? = some (.loop (apRec fn sv Bs D .ready none))
  K : W.heap[D]? = some (.deferred (some []))
  below : Below w0.heap.size w0 W
theorem ap_abides (w0 : World) (fn : FuncId) (sv : Value) (Bs l D B : Nat) (hB : w0.heap.size ≤ B) : AbidesFrom B (ApAt w0 fn sv Bs l D) := fun s W W' row h hg hrow => by
  have hrow' : ∀ r, row = some r → ∃ o : Obj, W.heap[r]? = some o ∧ o.isWalk = true := fun r e => (hrow r e).2
  obtain ⟨v, hv, hr, hn⟩ := h.box
  exact ⟨⟨v, (grownBy_keeps hg hrow' hv rfl).trans hv, ownsRow_abides_a hr hg hrow', hn⟩, (grownBy_keeps hg hrow' h.L rfl).trans h.L, (grownBy_keeps hg hrow' h.K rfl).trans h.K,
    h.below.grown hg h.below.size (fun k e => Nat.le_trans hB (hrow k e).1)⟩
theorem Tryz.infoV : (Tryz.prog.info? 112).map (fun i => (i.zero, i.size, i.bytes)) = some (some (.agg #[.int .u8 0, .int .i64 0, .string ⟨#[]⟩]), 3, 32) := by kernel_rfl
theorem three_news {w : World} {x y z : Value} {t : TypeId} (j : Nat) (u : Value) (hj : [x, y, z][j]? = some u) : (w.alloc (.cells #[x, y, z] t)).cell? ((⟨w.heap.size, 0, none⟩ : Addr).add j) = some u := by
  match j, hj with
  | 0, hj => simp at hj; subst hj; simp [Addr.add]
  | 1, hj => simp at hj; subst hj; simp [Addr.add]
  | 2, hj => simp at hj; subst hj; simp [Addr.add]
end Go.Proofs.YtpgbfkdknggceaaGreatDoor
