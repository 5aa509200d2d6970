/-
 The program's finder of free names: free names as plain data; what it has in memory, and what it leaves alone.
 Conditions: as each theorem says.
-/
import Derived.Test.YtpboencfnjmmbaaGreatDoorZSr
import Derived.Test.YtpboencfnjmmbaaGreatDoorZTrC
set_option maxRecDepth 100000
set_option maxHeartbeats 4000000
set_option linter.unusedVariables false
set_option linter.unusedSimpArgs false
namespace Go.Proofs.YtpboencfnjmmbaaGreatDoor
open Go.ChangeShapes Go.WideShapes Go.ChangeAt Go.RowKit Go.Maps TM
def inN (s : ByteArray) (m : List ByteArray) : Bool := m.any fun x => decide (x = s)
def cnt (s : ByteArray) (m : List ByteArray) : Nat := m.countP fun x => decide (x = s)
def useN (m f : List ByteArray) (s : ByteArray) : List ByteArray := if inN s m || inN s f then f else f ++ [s]
theorem cnt_app (s : ByteArray) (m l : List ByteArray) : cnt s (m ++ l) = cnt s m + cnt s l := by simp [cnt]
theorem cnt_one (s x : ByteArray) : cnt s [x] = if x = s then 1 else 0 := by by_cases h : x = s <;> simp [cnt, h]
theorem cnt_in (s : ByteArray) (m : List ByteArray) : inN s m = decide (0 < cnt s m) := by
 rw [Bool.eq_iff_iff, decide_eq_true_iff]; unfold cnt; rw [List.countP_pos_iff]; simp [inN]
theorem cnt_le (s : ByteArray) (m : List ByteArray) : cnt s m ≤ m.length := by unfold cnt; exact List.countP_le_length
theorem inN_app (s : ByteArray) (m l : List ByteArray) : inN s (m ++ l) = (inN s m || inN s l) := by simp [inN]
def wtNs : List ByteArray → Nat
 | [] => 0
 | s :: l => 1 + s.size + wtNs l
mutual
def wtE : TE → Nat
 | .mk _ _ text ps pm bd => 1 + text.size + wtEs ps + wtNs pm + wtSs bd
def wtEs : List TE → Nat
 | [] => 0
 | e :: l => wtE e + wtEs l
def wtS : TS → Nat
 | .mk _ name xs b e _ => 2 + name.size + wtEs xs + wtSs b + wtSs e
def wtSs : List TS → Nat
 | [] => 0
 | s :: l => wtS s + wtSs l
end
def mdS : TS → List ByteArray → List ByteArray
 | .mk k name _ _ _ _, m => if k = 0 then m ++ [name] else m
mutual
def frE : TE → List ByteArray → List ByteArray → List ByteArray
 | .mk op _ text ps pm bd, m, f => if op = 5 then useN m f text else if op = 17 then frSs bd (m ++ pm) f else frEs ps m f
def frEs : List TE → List ByteArray → List ByteArray → List ByteArray
 | [], m, f => f
 | e :: l, m, f => frEs l m (frE e m f)
def frS : TS → List ByteArray → List ByteArray → List ByteArray
 | .mk k name xs b e _, m, f => if k = 1 then useN m (frEs xs m f) name else if k = 3 ∨ k = 4 then frSs e m (frSs b m (frEs xs m f)) else if k = 7 then frSs e (m ++ [name]) (frSs b m (frEs xs m f)) else frEs xs m f
def frSs : List TS → List ByteArray → List ByteArray → List ByteArray
 | [], m, f => f
 | s :: l, m, f => frSs l (mdS s m) (frS s m f)
end
def mdSs : List TS → List ByteArray → List ByteArray
 | [], m => m
 | s :: l, m => mdSs l (mdS s m)
theorem wtEs_get : ∀ {l : List TE} {j : Nat} {e : TE}, l[j]? = some e → wtEs (l.take j) + wtE e = wtEs (l.take (j + 1))
 | x :: l, 0, e, h => by simp at h; subst h; simp [wtEs]
 | x :: l, j + 1, e, h => by
  have := wtEs_get (l := l) (j := j) (e := e) (by simpa using h)
  simp only [List.take_succ_cons, wtEs]; omega
theorem wtSs_get : ∀ {l : List TS} {j : Nat} {e : TS}, l[j]? = some e → wtSs (l.take j) + wtS e = wtSs (l.take (j + 1))
 | x :: l, 0, e, h => by simp at h; subst h; simp [wtSs]
 | x :: l, j + 1, e, h => by
  have := wtSs_get (l := l) (j := j) (e := e) (by simpa using h)
  simp only [List.take_succ_cons, wtSs]; omega
theorem wtNs_get : ∀ {l : List ByteArray} {j : Nat} {e : ByteArray}, l[j]? = some e → wtNs (l.take j) + (1 + e.size) = wtNs (l.take (j + 1))
 | x :: l, 0, e, h => by simp at h; subst h; simp [wtNs]
 | x :: l, j + 1, e, h => by
  have := wtNs_get (l := l) (j := j) (e := e) (by simpa using h)
  simp only [List.take_succ_cons, wtNs]; omega
theorem wtEs_take : ∀ (l : List TE) (j : Nat), wtEs (l.take j) ≤ wtEs l
 | [], j => by simp [wtEs]
 | x :: l, 0 => by simp [wtEs]
 | x :: l, j + 1 => by have := wtEs_take l j; simp only [List.take_succ_cons, wtEs]; omega
theorem wtSs_take : ∀ (l : List TS) (j : Nat), wtSs (l.take j) ≤ wtSs l
 | [], j => by simp [wtSs]
 | x :: l, 0 => by simp [wtSs]
 | x :: l, j + 1 => by have := wtSs_take l j; simp only [List.take_succ_cons, wtSs]; omega
theorem wtNs_take : ∀ (l : List ByteArray) (j : Nat), wtNs (l.take j) ≤ wtNs l
 | [], j => by simp [wtNs]
 | x :: l, 0 => by simp [wtNs]
 | x :: l, j + 1 => by have := wtNs_take l j; simp only [List.take_succ_cons, wtNs]; omega
theorem wtNs_len : ∀ l : List ByteArray, l.length ≤ wtNs l
 | [] => by simp [wtNs]
 | x :: l => by have := wtNs_len l; simp only [List.length_cons, wtNs]; omega
theorem frEs_take {l : List TE} {j : Nat} {e : TE} (h : l[j]? = some e) (m f : List ByteArray) : frEs (l.take (j + 1)) m f = frE e m (frEs (l.take j) m f) := by
 have key : ∀ (l : List TE) (j : Nat) (f : List ByteArray), l[j]? = some e → frEs (l.take (j + 1)) m f = frE e m (frEs (l.take j) m f) := by
  intro l
  induction l with
  | nil => intro j f h; simp at h
  | cons x l ih =>
   intro j f h
   cases j with
   | zero => simp at h; subst h; simp [frEs]
   | succ j => simpa [frEs] using ih j _ (by simpa using h)
 exact key l j f h
theorem frSs_take {l : List TS} {j : Nat} {e : TS} (h : l[j]? = some e) (m f : List ByteArray) : frSs (l.take (j + 1)) m f = frS e (mdSs (l.take j) m) (frSs (l.take j) m f) ∧ mdSs (l.take (j + 1)) m = mdS e (mdSs (l.take j) m) := by
 have key : ∀ (l : List TS) (j : Nat) (m f : List ByteArray), l[j]? = some e → frSs (l.take (j + 1)) m f = frS e (mdSs (l.take j) m) (frSs (l.take j) m f) ∧ mdSs (l.take (j + 1)) m = mdS e (mdSs (l.take j) m) := by
  intro l
  induction l with
  | nil => intro j m f h; simp at h
  | cons x l ih =>
   intro j m f h
   cases j with
   | zero => simp at h; subst h; simp [frSs, mdSs]
   | succ j => simpa [frSs, mdSs] using ih j _ _ (by simpa using h)
 exact key l j m f h
theorem mdSs_pre : ∀ (l : List TS) (m : List ByteArray), ∃ z, mdSs l m = m ++ z
 | [], m => ⟨[], by simp [mdSs]⟩
 | .mk k name _ _ _ _ :: l, m => by
  obtain ⟨z, hz⟩ := mdSs_pre l (mdS (.mk k name [] [] [] 0) m)
  by_cases hk : k = 0
  ·exact ⟨[name] ++ z, by simp only [mdSs, mdS, hk, if_true] at hz ⊢; rw [hz]; simp⟩
  ·exact ⟨z, by simp only [mdSs, mdS, hk, if_false] at hz ⊢; exact hz⟩
structure Fd (bs fb om tm : Nat) (vm vf : Value) (c m f : List ByteArray) (K : Nat) (w : World) : Prop where
 blk : w.heap[fb]? = some (.cells #[.map (some om), vm, .map (some tm), vf] 113 (0, 0))
 b0 : bs ≤ fb
 b1 : bs ≤ om
 b2 : bs ≤ tm
 ne : om ≠ tm
 own : ∃ D : DataW Unit, w.ownsMap Tryz.prog 9 (plainElem Tryz.prog 3) om K D ∧ ∀ s : ByteArray, s.size ≤ maxLen → D.atKey (.string s.data.toList) (.lit (.int .i64 0)) = .lit (.int .i64 (cnt s c : Int))
 told : ∃ D : DataW Unit, w.ownsMap Tryz.prog 9 unitElem tm K D ∧ ∀ s : ByteArray, s.size ≤ maxLen → Maps.has D (.string s.data.toList) = inN s f
 rm : w.ownsRow bs 9 1 vm m.length (m.map .string)
 rf : w.ownsRow bs 9 1 vf f.length (f.map .string)
 nr : ∀ k, vm.ownBlock = some k → vf.ownBlock ≠ some k
 lc : c.length ≤ K
 lm : m.length ≤ K
 lf : f.length ≤ K
 sm : ∀ s ∈ m, s.size ≤ maxLen
def FX (bs fb : Nat) (m f : List ByteArray) (K : Nat) (w : World) : Prop := ∃ om tm vm vf, Fd bs fb om tm vm vf m m f K w
def foot (w : World) (fb k : Nat) : Prop := k = fb ∨ ∃ om vm tm vf fz, w.heap[fb]? = some (.cells #[.map (some om), vm, .map (some tm), vf] 113 fz) ∧ (k = om ∨ k = tm ∨ vm.ownBlock = some k ∨ vf.ownBlock = some k)
structure Kp (fb : Nat) (w w' : World) : Prop where
 os : w'.os = w.os
 tape : w'.tape = w.tape
 output : w'.output = w.output
 size : w.heap.size ≤ w'.heap.size
 block : ∀ k, k < w.heap.size → ¬ foot w fb k → w'.heap[k]? = w.heap[k]? ∧ ¬ foot w' fb k
theorem Fd.no_foot {bs fb om tm K k : Nat} {vm vf : Value} {c m f : List ByteArray} {w : World} (h : Fd bs fb om tm vm vf c m f K w) : foot w fb k ↔ (k = fb ∨ k = om ∨ k = tm ∨ vm.ownBlock = some k ∨ vf.ownBlock = some k) := by
 constructor
 ·rintro (h1 | ⟨om', vm', tm', vf', fz, hb, h1⟩)
  ·exact .inl h1
  ·rw [h.blk] at hb
   simp only [Option.some.injEq, Obj.cells.injEq, Array.mk.injEq, List.cons.injEq, Value.map.injEq] at hb
   obtain ⟨⟨rfl, rfl, rfl, rfl, _⟩, _⟩ := hb
   exact .inr h1
 ·rintro (h1 | h1)
  ·exact .inl h1
  ·exact .inr ⟨om, vm, tm, vf, (0, 0), h.blk, h1⟩
theorem Fd.foot_ge {bs fb om tm K k : Nat} {vm vf : Value} {c m f : List ByteArray} {w : World} (h : Fd bs fb om tm vm vf c m f K w) (hf : foot w fb k) : bs ≤ k ∧ k < w.heap.size := by
 rcases h.no_foot.1 hf with rfl | rfl | rfl | h1 | h1
 ·exact ⟨h.b0, lt_of_block h.blk⟩
 ·obtain ⟨D, hD, _⟩ := h.own; exact ⟨h.b1, hD.lt⟩
 ·obtain ⟨D, hD, _⟩ := h.told; exact ⟨h.b2, hD.lt⟩
 ·exact h.rm.lt k h1
 ·exact h.rf.lt k h1
theorem Kp.refl (fb : Nat) (w : World) : Kp fb w w := ⟨rfl, rfl, rfl, Nat.le_refl _, fun k _ h => ⟨rfl, h⟩⟩
theorem Kp.trans {fb : Nat} {a b c : World} (h : Kp fb a b) (g : Kp fb b c) : Kp fb a c :=
 ⟨g.os.trans h.os, g.tape.trans h.tape, g.output.trans h.output, Nat.le_trans h.size g.size, fun k hk hf => by
  obtain ⟨h1, h2⟩ := h.block k hk hf
  obtain ⟨h3, h4⟩ := g.block k (Nat.lt_of_lt_of_le hk h.size) h2
  exact ⟨h3.trans h1, h4⟩⟩
theorem foot_same {fb k : Nat} {w w' : World} (h : w'.heap[fb]? = w.heap[fb]?) : foot w' fb k ↔ foot w fb k := by unfold foot; rw [h]
theorem Kp.alloc {fb : Nat} {a w : World} (h : Kp fb a w) (hf : fb < w.heap.size) (o : Obj) : Kp fb a (w.alloc o) :=
 h.trans ⟨rfl, rfl, rfl, by simp, fun k hk hn => ⟨Below.heap_alloc _ _ _ hk, fun h1 => hn ((foot_same (Below.heap_alloc _ _ _ hf)).1 h1)⟩⟩
theorem Fd.kp_below {bs fb om tm K : Nat} {vm vf : Value} {c m f : List ByteArray} {w w' : World} (h : Fd bs fb om tm vm vf c m f K w) (g : Kp fb w w') : Below bs w w' :=
 ⟨g.os, g.tape, g.output, g.size, fun k hk => (g.block k (by have := h.b0; have := lt_of_block h.blk; omega) (fun hf => by have := (h.foot_ge hf).1; omega)).1⟩
theorem FX.below {bs fb K : Nat} {m f : List ByteArray} {w w' : World} (h : FX bs fb m f K w) (g : Kp fb w w') : Below bs w w' := by
 obtain ⟨om, tm, vm, vf, h⟩ := h
 exact h.kp_below g
theorem FX.lt {bs fb K : Nat} {m f : List ByteArray} {w : World} (h : FX bs fb m f K w) : bs ≤ fb ∧ fb < w.heap.size := by
 obtain ⟨om, tm, vm, vf, h⟩ := h
 exact ⟨h.b0, lt_of_block h.blk⟩
theorem FX.bs_le {bs fb K : Nat} {m f : List ByteArray} {w : World} (h : FX bs fb m f K w) : bs ≤ w.heap.size := by have := h.lt; omega
theorem Fd.kept {bs fb om tm K : Nat} {vm vf : Value} {c m f : List ByteArray} {w w' : World} (h : Fd bs fb om tm vm vf c m f K w) (hk : ∀ k, k < w.heap.size → foot w fb k → w'.heap[k]? = w.heap[k]?) : Fd bs fb om tm vm vf c m f K w' := by
 have row : ∀ {v : Value} {n : Nat} {xs : List Value}, w.ownsRow bs 9 1 v n xs → (∀ k, v.ownBlock = some k → foot w fb k) → w'.ownsRow bs 9 1 v n xs := by
  intro v n xs h1 h2
  refine ⟨h1.1, ?_⟩
  rcases h1.2 with h3 | ⟨g, cap, cur, rfl, hb, hg, r⟩
  ·exact .inl h3
  ·exact .inr ⟨g, cap, cur, rfl, hb, (hk g (lt_of_block hg) (h2 g rfl)).trans hg, r⟩
 obtain ⟨D, ⟨es, cl, hb, r⟩, hD⟩ := h.own
 obtain ⟨D2, ⟨es2, cl2, hb2, r2⟩, hD2⟩ := h.told
 exact ⟨(hk fb (lt_of_block h.blk) (h.no_foot.2 (.inl rfl))).trans h.blk, h.b0, h.b1, h.b2, h.ne,
  ⟨D, ⟨es, cl, (hk om (lt_of_block hb) (h.no_foot.2 (.inr (.inl rfl)))).trans hb, r⟩, hD⟩, ⟨D2, ⟨es2, cl2, (hk tm (lt_of_block hb2) (h.no_foot.2 (.inr (.inr (.inl rfl))))).trans hb2, r2⟩, hD2⟩,
  row h.rm (fun k e => h.no_foot.2 (.inr (.inr (.inr (.inl e))))), row h.rf (fun k e => h.no_foot.2 (.inr (.inr (.inr (.inr e))))), h.nr, h.lc, h.lm, h.lf, h.sm⟩
theorem Fd.alloc {bs fb om tm K : Nat} {vm vf : Value} {c m f : List ByteArray} {w : World} (h : Fd bs fb om tm vm vf c m f K w) (o : Obj) : Fd bs fb om tm vm vf c m f K (w.alloc o) := h.kept fun k hk _ => Below.heap_alloc _ _ _ hk
theorem FX.alloc {bs fb K : Nat} {m f : List ByteArray} {w : World} (h : FX bs fb m f K w) (o : Obj) : FX bs fb m f K (w.alloc o) := by
 obtain ⟨om, tm, vm, vf, h⟩ := h
 exact ⟨om, tm, vm, vf, h.alloc o⟩
theorem FX.mono {bs fb K K' : Nat} {m f : List ByteArray} {w : World} (h : FX bs fb m f K w) (hk : K ≤ K') : FX bs fb m f K' w := by
 obtain ⟨om, tm, vm, vf, h⟩ := h
 obtain ⟨D, hD, h1⟩ := h.own
 obtain ⟨D2, hD2, h2⟩ := h.told
 exact ⟨om, tm, vm, vf, h.blk, h.b0, h.b1, h.b2, h.ne, ⟨D, hD.mono hk, h1⟩, ⟨D2, hD2.mono hk, h2⟩, h.rm, h.rf, h.nr, Nat.le_trans h.lc hk, Nat.le_trans h.lm hk, Nat.le_trans h.lf hk, h.sm⟩
theorem Kp.of {bs fb om tm K : Nat} {vm vf vm' vf' : Value} {c m f c' m' f' : List ByteArray} {K' : Nat} {w w' : World} (h : Fd bs fb om tm vm vf c m f K w) (h' : Fd bs fb om tm vm' vf' c' m' f' K' w') (ho : w'.os = w.os) (ht : w'.tape = w.tape) (hp : w'.output = w.output) (hs : w.heap.size ≤ w'.heap.size)
 (hb : ∀ k, k < w.heap.size → ¬ foot w fb k → w'.heap[k]? = w.heap[k]?) (hm : ∀ k, vm'.ownBlock = some k → vm.ownBlock = some k ∨ w.heap.size ≤ k) (hf : ∀ k, vf'.ownBlock = some k → vf.ownBlock = some k ∨ w.heap.size ≤ k) : Kp fb w w' :=
 ⟨ho, ht, hp, hs, fun k hk hn => ⟨hb k hk hn, fun h1 => by
  rcases h'.no_foot.1 h1 with h2 | h2 | h2 | h2 | h2
  ·exact hn (h.no_foot.2 (.inl h2))
  ·exact hn (h.no_foot.2 (.inr (.inl h2)))
  ·exact hn (h.no_foot.2 (.inr (.inr (.inl h2))))
  ·rcases hm k h2 with h3 | h3
   ·exact hn (h.no_foot.2 (.inr (.inr (.inr (.inl h3)))))
   ·omega
  ·rcases hf k h2 with h3 | h3
   ·exact hn (h.no_foot.2 (.inr (.inr (.inr (.inr h3)))))
   ·omega⟩⟩
theorem row_keep {bs n size : Nat} {e : TypeId} {v : Value} {xs : List Value} {w w' : World} (h : w.ownsRow bs e size v n xs) (hk : ∀ k, v.ownBlock = some k → w'.heap[k]? = w.heap[k]?) : w'.ownsRow bs e size v n xs := by
 refine ⟨h.1, ?_⟩
 rcases h.2 with h3 | ⟨g, cap, cur, rfl, hb, hg, r⟩
 ·exact .inl h3
 ·exact .inr ⟨g, cap, cur, rfl, hb, (hk g rfl).trans hg, r⟩
theorem map_keep {P : Program} {k : TypeId} {R : Value → Option (DataW Unit × List MemPlace)} {b n : Nat} {D : DataW Unit} {w w' : World} (h : w.ownsMap P k R b n D) (hk : w'.heap[b]? = w.heap[b]?) : w'.ownsMap P k R b n D := by
 obtain ⟨es, cl, hb, r⟩ := h
 exact ⟨es, cl, hk.trans hb, r⟩
theorem fdRow_cells {w : World} {bs n : Nat} {e : TypeId} {size : Nat} {v : Value} {xs : List Value} (h : w.ownsRow bs e size v n xs) {k : Nat} (hk : v.ownBlock = some k) : ∃ cur, w.heap[k]? = some (.cells cur e (0, 0)) := by
 rcases h.2 with ⟨rfl, _⟩ | ⟨g, cap, cur, rfl, hb, hg, r⟩
 ·cases hk
 ·cases hk; exact ⟨cur, hg⟩
theorem map_block {P : Program} {k : TypeId} {R : Value → Option (DataW Unit × List MemPlace)} {b n : Nat} {D : DataW Unit} {w : World} (h : w.ownsMap P k R b n D) : ∃ es cl, w.heap[b]? = some (.map es cl) := by
 obtain ⟨es, cl, hb, r⟩ := h
 exact ⟨es, cl, hb⟩
theorem Fd.apart {bs fb om tm K : Nat} {vm vf : Value} {c m f : List ByteArray} {w : World} (h : Fd bs fb om tm vm vf c m f K w) : om ≠ fb ∧ tm ≠ fb ∧ vm.ownBlock ≠ some fb ∧ vf.ownBlock ≠ some fb ∧ vm.ownBlock ≠ some om ∧ vf.ownBlock ≠ some om ∧ vm.ownBlock ≠ some tm ∧ vf.ownBlock ≠ some tm := by
 have hb := h.blk
 obtain ⟨D, hD, _⟩ := h.own
 obtain ⟨E, hE, _⟩ := h.told
 obtain ⟨es, cl, h1⟩ := map_block hD
 obtain ⟨es2, cl2, h2⟩ := map_block hE
 refine ⟨fun e => ?_, fun e => ?_, fun e => ?_, fun e => ?_, fun e => ?_, fun e => ?_, fun e => ?_, fun e => ?_⟩
 ·rw [e, hb] at h1; cases h1
 ·rw [e, hb] at h2; cases h2
 ·obtain ⟨cur, h3⟩ := fdRow_cells h.rm e; rw [hb] at h3; cases h3
 ·obtain ⟨cur, h3⟩ := fdRow_cells h.rf e; rw [hb] at h3; cases h3
 ·obtain ⟨cur, h3⟩ := fdRow_cells h.rm e; rw [h1] at h3; cases h3
 ·obtain ⟨cur, h3⟩ := fdRow_cells h.rf e; rw [h1] at h3; cases h3
 ·obtain ⟨cur, h3⟩ := fdRow_cells h.rm e; rw [h2] at h3; cases h3
 ·obtain ⟨cur, h3⟩ := fdRow_cells h.rf e; rw [h2] at h3; cases h3
theorem Fd.turned {bs fb om tm K K' : Nat} {vm vf vm' vf' : Value} {c m f c' m' f' : List ByteArray} {w w' : World} (h : Fd bs fb om tm vm vf c m f K w)
 (hb : w'.heap[fb]? = some (.cells #[.map (some om), vm', .map (some tm), vf'] 113 (0, 0)))
 (ho : ∃ D : DataW Unit, w'.ownsMap Tryz.prog 9 (plainElem Tryz.prog 3) om K' D ∧ ∀ s : ByteArray, s.size ≤ maxLen → D.atKey (.string s.data.toList) (.lit (.int .i64 0)) = .lit (.int .i64 (cnt s c' : Int)))
 (ht : ∃ D : DataW Unit, w'.ownsMap Tryz.prog 9 unitElem tm K' D ∧ ∀ s : ByteArray, s.size ≤ maxLen → Maps.has D (.string s.data.toList) = inN s f')
 (hrm : w'.ownsRow bs 9 1 vm' m'.length (m'.map .string)) (hrf : w'.ownsRow bs 9 1 vf' f'.length (f'.map .string))
 (h1 : w'.os = w.os) (h2 : w'.tape = w.tape) (h3 : w'.output = w.output) (h4 : w.heap.size ≤ w'.heap.size)
 (hm : ∀ k, vm'.ownBlock = some k → vm.ownBlock = some k ∨ w.heap.size ≤ k) (hf : ∀ k, vf'.ownBlock = some k → vf.ownBlock = some k ∨ w.heap.size ≤ k) (hne : vm' = vm ∨ vf' = vf)
 (hfr : ∀ k, k < w.heap.size → ¬ foot w fb k → w'.heap[k]? = w.heap[k]?) (lc : c'.length ≤ K') (lm : m'.length ≤ K') (lf : f'.length ≤ K') (sm : ∀ s ∈ m', s.size ≤ maxLen) : Fd bs fb om tm vm' vf' c' m' f' K' w' ∧ Kp fb w w' := by
 have hF : Fd bs fb om tm vm' vf' c' m' f' K' w' := ⟨hb, h.b0, h.b1, h.b2, h.ne, ho, ht, hrm, hrf, fun k e1 e2 => by
  rcases hne with rfl | rfl
  ·have h5 := (h.rm.lt k e1).2
   rcases hf k e2 with h6 | h6
   ·exact h.nr k e1 h6
   ·omega
  ·have h5 := (h.rf.lt k e2).2
   rcases hm k e1 with h6 | h6
   ·exact h.nr k h6 e2
   ·omega, lc, lm, lf, sm⟩
 exact ⟨hF, Kp.of h hF h1 h2 h3 h4 hfr hm hf⟩
theorem block_set_same {w : World} {b j : Nat} {cs : Array Value} {t : TypeId} {fz : Nat × Nat} (h : w.heap[b]? = some (.cells cs t fz)) (u : Value) : (w.setCell ⟨b, j, none⟩ u).heap[b]? = some (.cells (cs.setIfInBounds j u) t fz) := by
 simp [World.setCell, Array.getElem?_modify, h]
theorem block_set_ne {w : World} {b k j : Nat} (h : k ≠ b) (u : Value) : (w.setCell ⟨b, j, none⟩ u).heap[k]? = w.heap[k]? := by
 simp only [World.setCell, Array.getElem?_modify]
 rw [if_neg (fun e => h e.symm)]
end Go.Proofs.YtpboencfnjmmbaaGreatDoor
namespace Go.Proofs.YtpboencfnjmmbaaGreatDoor
open Go.ChangeShapes Go.WideShapes Go.ChangeAt Go.RowKit Go.Maps TM
theorem infoS : (Tryz.prog.info? 9).map (fun i => (i.zero, i.size, i.bytes)) = some (some (.string ⟨#[]⟩), 1, 16) := by kernel_rfl
theorem keyedStr : Keyed Tryz.prog 9 := string_keyed Tryz.underlying9
theorem zeroInt (w : World) : (zeroValue 3).run Tryz.prog w = .ok (.int .i64 0) w := by kernel_rfl
theorem zeroUnit9 (w : World) : (zeroValue 221).run Tryz.prog w = .ok (.agg #[]) w := by kernel_rfl
theorem fdFour {w : World} {b : Nat} {x y z u : Value} {t : TypeId} (h : w.heap[b]? = some (.cells #[x, y, z, u] t (0, 0))) : w.cell? ⟨b, 0, none⟩ = some x ∧ w.cell? ⟨b, 1, none⟩ = some y ∧ w.cell? ⟨b, 2, none⟩ = some z ∧ w.cell? ⟨b, 3, none⟩ = some u ∧ (∀ j, w.frozen? ⟨b, j, none⟩ = false) := by
 simp [World.cell?, World.frozen?, h]
theorem fdKey {s : ByteArray} (hs : s.size ≤ maxLen) : keyOf Tryz.prog 9 (.string s) = some (.string s.data.toList) := WideMaps.keyOf_string_mk Tryz.underlying9 hs
theorem fdStr_ne {a b : ByteArray} (h : a ≠ b) : (Lit.string a.data.toList) ≠ .string b.data.toList := by
 intro e
 apply h
 cases a; cases b
 simp only [Lit.string.injEq] at e
 congr 1
 exact Array.toList_inj.1 e
theorem one_newF {w : World} {x : Value} {t : TypeId} (j : Nat) (u : Value) (hj : [x][j]? = some u) : (w.alloc (.cells #[x] t)).cell? ((⟨w.heap.size, 0, none⟩ : Addr).add j) = some u := by
 match j, hj with
 | 0, hj => simp at hj; subst hj; simp [Addr.add]
 | j + 1, hj => simp at hj
theorem isKeyStr {l : List UInt8} : WideAt.IsKeyLit (.string l) := by simp [WideAt.IsKeyLit]
theorem declare_any {bs fb K : Nat} {m f : List ByteArray} {w : World} (h : FX bs fb m f K w) (s : ByteArray) (hs : s.size ≤ maxLen) (hK : K < 1000000000000) : Calls Tryz.prog 91 #[.pointer (some ⟨fb, 0, none⟩), .string s] w fun e w' => e = .returned (.tuple #[]) ∧ FX bs fb (m ++ [s]) f (K + 1) w' ∧ Kp fb w w' := by
 obtain ⟨om, tm, vm, vf, h⟩ := h
 obtain ⟨q0, q1, q2, q3, qf⟩ := fdFour h.blk
 obtain ⟨D, hD, hDc⟩ := h.own
 obtain ⟨ti, hti, hz0, hz1, hz2⟩ := info_parts infoS
 have hkey := fdKey hs
 have hcn : (cnt s m : Int) ≤ 1000000000000 := by have := cnt_le s m; have := h.lm; omega
 have hc0 : (0 : Int) ≤ (cnt s m : Int) := by omega
 have HDC := Lib.hid hDc
 clear hDc
 obtain ⟨c, hrl, hat, hwc⟩ := hD.lookup_int keyedStr Tryz.underlying110 Tryz.underlying3 (zeroInt _) hkey
 obtain rfl : c = (cnt s m : Int) := by have h9 := HDC.out s hs; rw [hat] at h9; simpa using h9
 obtain ⟨w1, hru, hown1, hgrow1⟩ := hD.update (val := .int .i64 ((cnt s m : Int) + 1)) (d := .lit (.int .i64 ((cnt s m : Int) + 1))) (ps := []) keyedStr Tryz.underlying110 (by unfold maxLen; omega) hkey (plainElem_int Tryz.underlying3 (WalkArith.wf_i64 ⟨by omega, by omega⟩))
 clear hat hwc
 obtain ⟨n1, n2, n3, n4, n5, n6, n7, n8⟩ := h.apart
 have hlt := lt_of_block h.blk
 have hb1 : w1.heap[fb]? = some (.cells #[.map (some om), vm, .map (some tm), vf] 113 (0, 0)) := (hgrow1.block fb hlt (by simpa using fun e => n1 e.symm)).trans h.blk
 obtain ⟨q0', q1', q2', q3', qf'⟩ := fdFour hb1
 have hr1 : w1.ownsRow bs 9 1 vm m.length (m.map .string) := h.rm.kept hgrow1 (.inr n5)
 have hsz1 : w.heap.size ≤ w1.heap.size := hgrow1.size
 have hbs : bs ≤ w1.heap.size := by have := h.b0; omega
 have hml : m.length < 1000000000000 := by have := h.lm; omega
 have HF := Lib.hid h
 clear h
 go_enter Tryz.func91, Tryz.ntmps91
 go_wp2_with (at_builtin; refine wpList_append_own2 rfl (.tmp 15) (.tmp 17) 63 rfl bs 9 ti _ 1 16 Tryz.underlying63 hti hz0 hz1 hz2 rfl (by decide) vm m.length _ rfl (hr1.alloc _) ⟨w1.heap.size, 0, none⟩ 1 1 [.string s] rfl rfl one_newF (by intro u hu; simp at hu; subst hu; rfl) (by decide) (by unfold maxLen; omega) (by omega) (by simp; omega) ?_)
 intro v2 w2 hown2 hgrow2 hwhere
 have hb2 : w2.heap[fb]? = some (.cells #[.map (some om), vm, .map (some tm), vf] 113 (0, 0)) := (hgrow2.block fb (by simp; omega) (fun e => n3 e.symm)).trans ((Below.heap_alloc _ _ _ (by omega)).trans hb1)
 obtain ⟨z0, z1, z2, z3, zf⟩ := fdFour hb2
 clear q0 q1 q2 q3 qf q0' q1' q2' q3' qf'
 obtain ⟨ao, cap, rfl, hc1, hc2⟩ := row_shape hown2
 have HFIN : Hid (FX bs fb (m ++ [s]) f (K + 1) (w2.setCell ⟨fb, 1, none⟩ (.slice ao (m.length + 1) cap)) ∧ Kp fb w (w2.setCell ⟨fb, 1, none⟩ (.slice ao (m.length + 1) cap))) := by
  have h := HF.out
  have hs2 : w1.heap.size + 1 ≤ w2.heap.size := by have := hgrow2.size; simpa using this
  have hold : ∀ k, k < w.heap.size → k ≠ om → k ≠ fb → vm.ownBlock ≠ some k → (w2.setCell ⟨fb, 1, none⟩ (.slice ao (m.length + 1) cap)).heap[k]? = w.heap[k]? := fun k hk e1 e2 e3 => by
   rw [block_set_ne e2, hgrow2.block k (by simp; omega) (fun e => e3 e.symm), Below.heap_alloc _ _ _ (by omega), hgrow1.block k hk (by simpa using e1)]
  have hv2 : ∀ k, (Value.slice ao (m.length + 1) cap).ownBlock = some k → vm.ownBlock = some k ∨ w.heap.size ≤ k := fun k hk => by
   rcases hwhere with e | e
   ·exact .inl (e.symm.trans hk)
   ·rw [e] at hk; cases hk; exact .inr (Nat.le_succ_of_le hsz1)
  have hnf : (Value.slice ao (m.length + 1) cap).ownBlock ≠ some fb := fun e => by
   rcases hv2 fb e with e | e
   ·exact n3 e
   ·omega
  have hnm : om ≠ fb := n1
  obtain ⟨E, hE, hEc⟩ := h.told
  refine (fun z => ⟨⟨_, _, _, _, z.1⟩, z.2⟩) (h.turned (c' := m ++ [s]) (vm' := .slice ao (m.length + 1) cap) (vf' := vf) (by rw [block_set_same hb2]; rfl) ⟨_, (((hown1.alloc _).kept hgrow2 (fun e => n5 e.symm)).setCell hnm _), fun x hx => ?_⟩ ⟨E, map_keep (hE.mono (Nat.le_succ K)) (hold tm hE.lt (fun e => h.ne e.symm) n2 n7), hEc⟩ (row_keep (by simpa using hown2) fun k hk => block_set_ne (fun e => hnf (by rw [← e]; exact hk)) _) (row_keep h.rf fun k hk => hold k (h.rf.lt k hk).2 (fun e => n6 (by rw [← e]; exact hk)) (fun e => n4 (by rw [← e]; exact hk)) (fun e => h.nr k e hk)) (hgrow2.os.trans hgrow1.os) (hgrow2.tape.trans hgrow1.tape) (hgrow2.output.trans hgrow1.output) (by simp [World.setCell]; omega) hv2 (fun k hk => .inl hk) (.inr rfl) (fun k hk hn => ?_) (by simp; exact h.lm) (by simp; exact h.lm) (Nat.le_succ_of_le h.lf) (fun x hx => ?_))
  ·by_cases he : x = s
   ·subst he
    rw [atKey_put_same hD.isMap isKeyStr, cnt_app, cnt_one, if_pos rfl]; simp
   ·rw [atKey_put_other (fdStr_ne he), HDC.out x hx, cnt_app, cnt_one, if_neg (fun e => he e.symm)]; simp
  ·rw [h.no_foot] at hn
   exact hold k hk (fun e => hn (.inr (.inl e))) (fun e => hn (.inl e)) (fun e => hn (.inr (.inr (.inr (.inl e)))))
  ·rcases List.mem_append.1 hx with h5 | h5
   ·exact h.sm x h5
   ·simp at h5; subst h5; exact hs
 go_wp2
 go_end0
 exact ⟨rfl, HFIN.out⟩
theorem use_any {bs fb K : Nat} {m f : List ByteArray} {w : World} (h : FX bs fb m f K w) (s : ByteArray) (hs : s.size ≤ maxLen) (hK : K < 1000000000000) : Calls Tryz.prog 116 #[.pointer (some ⟨fb, 0, none⟩), .string s] w fun e w' => e = .returned (.tuple #[]) ∧ FX bs fb m (useN m f s) (K + 1) w' ∧ Kp fb w w' := by
 obtain ⟨om, tm, vm, vf, h⟩ := h
 obtain ⟨q0, q1, q2, q3, qf⟩ := fdFour h.blk
 obtain ⟨D, hD, hDc⟩ := h.own
 obtain ⟨E, hE, hEc⟩ := h.told
 obtain ⟨ti, hti, hz0, hz1, hz2⟩ := info_parts infoS
 have hkey := fdKey hs
 have hcn : (cnt s m : Int) ≤ 1000000000000 := by have := cnt_le s m; have := h.lm; omega
 have hc0 : (0 : Int) ≤ (cnt s m : Int) := by omega
 obtain ⟨c, hrl, hat, hwc⟩ := hD.lookup_int keyedStr Tryz.underlying110 Tryz.underlying3 (zeroInt _) hkey
 obtain rfl : c = (cnt s m : Int) := by have h9 := hDc s hs; rw [hat] at h9; simpa using h9
 clear hat hwc hDc
 have hlt := lt_of_block h.blk
 cases hin : inN s m with
 | true =>
  have hpos : (0 : Int) < (cnt s m : Int) := by rw [cnt_in] at hin; simpa using hin
  have HFIN : Hid (FX bs fb m (useN m f s) (K + 1) w ∧ Kp fb w w) := ⟨by rw [useN, hin]; simp only [Bool.true_or, if_true]; exact FX.mono ⟨_, _, _, _, h⟩ (Nat.le_succ K), Kp.refl _ _⟩
  clear h hD hE hEc
  go_enter Tryz.func116, Tryz.ntmps116
  go_wp2
  refine bodyPost_ret (results_none rfl _ _ _) rfl ?_
  exact ⟨rfl, HFIN.out⟩
 | false =>
  have hpos : (cnt s m : Int) ≤ 0 := by rw [cnt_in] at hin; simp at hin; omega
  have hpos0 : (cnt s m : Int) = 0 := by omega
  obtain ⟨v1, ps1, hro, hv1⟩ := hE.look_ok keyedStr Tryz.underlying111 (zeroUnit9 _) unitElem_mk hkey
  obtain ⟨rfl, -⟩ := unitElem_inv hv1
  rw [hEc s hs] at hro
  clear hv1
  cases hto : inN s f with
  | true =>
   rw [hto] at hro
   have HFIN : Hid (FX bs fb m (useN m f s) (K + 1) (w.alloc (.cells #[] 221)) ∧ Kp fb w (w.alloc (.cells #[] 221))) := ⟨by rw [useN, hin, hto]; simp only [Bool.or_true, if_true]; exact FX.mono ⟨_, _, _, _, h.alloc _⟩ (Nat.le_succ K), (Kp.refl _ _).alloc hlt _⟩
   clear h hD hE hEc
   go_enter Tryz.func116, Tryz.ntmps116
   go_wp2
   refine bodyPost_ret (results_none rfl _ _ _) rfl ?_
   exact ⟨rfl, HFIN.out⟩
  | false =>
   rw [hto] at hro
   obtain ⟨w1, hru, hown1, hgrow1⟩ := (hE.alloc (.cells #[] 221)).update (val := .agg #[]) (d := .agg []) (ps := []) keyedStr Tryz.underlying111 (by unfold maxLen; omega) hkey unitElem_mk
   obtain ⟨n1, n2, n3, n4, n5, n6, n7, n8⟩ := h.apart
   have hb1 : w1.heap[fb]? = some (.cells #[.map (some om), vm, .map (some tm), vf] 113 (0, 0)) := (hgrow1.block fb (by simp; omega) (by simpa using fun e => n2 e.symm)).trans ((Below.heap_alloc _ _ _ hlt).trans h.blk)
   obtain ⟨q0', q1', q2', q3', qf'⟩ := fdFour hb1
   obtain ⟨y0, y1, y2, y3, yf⟩ := fdFour (h.alloc (.cells #[] 221)).blk
   have hr1 : w1.ownsRow bs 9 1 vf f.length (f.map .string) := (h.rf.alloc _).kept hgrow1 (.inr n8)
   have hsz1 : w.heap.size + 1 ≤ w1.heap.size := by have := hgrow1.size; simpa using this
   have hbs : bs ≤ w1.heap.size := by have := h.b0; omega
   have hml : f.length < 1000000000000 := by have := h.lf; omega
   have HF := Lib.hid h
   clear h
   go_enter Tryz.func116, Tryz.ntmps116
   go_wp2_with (at_builtin; refine wpList_append_own2 rfl (.tmp 33) (.tmp 35) 63 rfl bs 9 ti _ 1 16 Tryz.underlying63 hti hz0 hz1 hz2 rfl (by decide) vf f.length _ rfl (hr1.alloc _) ⟨w1.heap.size, 0, none⟩ 1 1 [.string s] rfl rfl one_newF (by intro u hu; simp at hu; subst hu; rfl) (by decide) (by unfold maxLen; omega) (by omega) (by simp; omega) ?_)
   intro v2 w2 hown2 hgrow2 hwhere
   have hb2 : w2.heap[fb]? = some (.cells #[.map (some om), vm, .map (some tm), vf] 113 (0, 0)) := (hgrow2.block fb (by simp; omega) (fun e => n4 e.symm)).trans ((Below.heap_alloc _ _ _ (by omega)).trans hb1)
   obtain ⟨z0, z1, z2, z3, zf⟩ := fdFour hb2
   clear q0 q1 q2 q3 qf q0' q1' q2' q3' qf' y0 y1 y2 y3 yf
   obtain ⟨ao, cap, rfl, hc1, hc2⟩ := row_shape hown2
   have HFIN : Hid (FX bs fb m (useN m f s) (K + 1) (w2.setCell ⟨fb, 3, none⟩ (.slice ao (f.length + 1) cap)) ∧ Kp fb w (w2.setCell ⟨fb, 3, none⟩ (.slice ao (f.length + 1) cap))) := by
    have h := HF.out
    rw [useN, hin, hto]
    simp only [Bool.or_false, Bool.false_eq_true, if_false]
    have hs2 : w1.heap.size + 1 ≤ w2.heap.size := by have := hgrow2.size; simpa using this
    have hold : ∀ k, k < w.heap.size → k ≠ tm → k ≠ fb → vf.ownBlock ≠ some k → (w2.setCell ⟨fb, 3, none⟩ (.slice ao (f.length + 1) cap)).heap[k]? = w.heap[k]? := fun k hk e1 e2 e3 => by
     rw [block_set_ne e2, hgrow2.block k (by simp; omega) (fun e => e3 e.symm), Below.heap_alloc _ _ _ (by omega), hgrow1.block k (by simp; omega) (by simpa using e1), Below.heap_alloc _ _ _ hk]
    have hv2 : ∀ k, (Value.slice ao (f.length + 1) cap).ownBlock = some k → vf.ownBlock = some k ∨ w.heap.size ≤ k := fun k hk => by
     rcases hwhere with e | e
     ·exact .inl (e.symm.trans hk)
     ·rw [e] at hk; cases hk; exact .inr (by omega)
    have hnf : (Value.slice ao (f.length + 1) cap).ownBlock ≠ some fb := fun e => by
     rcases hv2 fb e with e | e
     ·exact n4 e
     ·omega
    have hnm : tm ≠ fb := n2
    obtain ⟨D2, hD2, hDc⟩ := h.own
    refine (fun z => ⟨⟨_, _, _, _, z.1⟩, z.2⟩) (h.turned (c' := m) (vm' := vm) (vf' := .slice ao (f.length + 1) cap) (by rw [block_set_same hb2]; rfl) ⟨D2, map_keep (hD2.mono (Nat.le_succ K)) (hold om hD2.lt h.ne n1 n6), hDc⟩ ⟨_, (((hown1.alloc _).kept hgrow2 (fun e => n8 e.symm)).setCell hnm _), fun x hx => ?_⟩ (row_keep h.rm fun k hk => hold k (h.rm.lt k hk).2 (fun e => n7 (by rw [← e]; exact hk)) (fun e => n3 (by rw [← e]; exact hk)) (fun e => h.nr k hk e)) (row_keep (by simpa using hown2) fun k hk => block_set_ne (fun e => hnf (by rw [← e]; exact hk)) _) (hgrow2.os.trans hgrow1.os) (hgrow2.tape.trans hgrow1.tape) (hgrow2.output.trans hgrow1.output) (by simp [World.setCell]; omega) (fun k hk => .inl hk) hv2 (.inl rfl) (fun k hk hn => ?_) (Nat.le_succ_of_le h.lm) (Nat.le_succ_of_le h.lm) (by simp; exact h.lf) h.sm)
    ·by_cases he : x = s
     ·subst he
      rw [has_put_same hE.isMap isKeyStr, inN_app]; simp [inN]
     ·rw [has_put_other (fdStr_ne he), hEc x hx, inN_app]; simp [inN]; intro e; exact absurd e.symm he
    ·rw [h.no_foot] at hn
     exact hold k hk (fun e => hn (.inr (.inr (.inl e)))) (fun e => hn (.inl e)) (fun e => hn (.inr (.inr (.inr (.inr e)))))
   go_wp2
   go_end0
   exact ⟨rfl, HFIN.out⟩
end Go.Proofs.YtpboencfnjmmbaaGreatDoor
namespace Go.Proofs.YtpboencfnjmmbaaGreatDoor
open Go.ChangeShapes Go.WideShapes Go.ChangeAt Go.RowKit Go.Maps TM
def OFe (e : TE) : Prop := ∀ {bs fb K : Nat} {m f : List ByteArray} {w : World} {a b c : Value}, FX bs fb m f K w → EIn (· < bs) w e a b c → K + 2 * wtE e ≤ 1000000000000 →
 Calls Tryz.prog 150 #[.pointer (some ⟨fb, 0, none⟩), exV e a b c] w fun en w' => en = .returned (.tuple #[]) ∧ FX bs fb m (frE e m f) (K + 2 * wtE e) w' ∧ Kp fb w w'
def OFs (s : TS) : Prop := ∀ {bs fb K : Nat} {m f : List ByteArray} {w : World} {a b c : Value}, FX bs fb m f K w → SIn (· < bs) w s a b c → K + 2 * wtS s ≤ 1000000000000 →
 Calls Tryz.prog 92 #[.pointer (some ⟨fb, 0, none⟩), stV s a b c] w fun en w' => en = .returned (.tuple #[]) ∧ (∃ K', K' + 1 ≤ K + 2 * wtS s ∧ FX bs fb (mdS s m) (frS s m f) K' w') ∧ Kp fb w w'
def NmIn (w : World) (fb : Nat) (v : Value) (ns : List ByteArray) : Prop := SlAt (fun g => g < w.heap.size ∧ ¬ foot w fb g) v ns.length (fun g o => StrAt w g o ns)
def OFb (l : List TS) : Prop := ∀ {bs fb K : Nat} {m f ns : List ByteArray} {w : World} {v nv : Value}, FX bs fb m f K w → SsIn bs w v l → NmIn w fb nv ns → K + 2 * (wtNs ns + wtSs l) ≤ 1000000000000 →
 Calls Tryz.prog 58 #[.pointer (some ⟨fb, 0, none⟩), v, nv] w fun en w' => en = .returned (.tuple #[]) ∧ FX bs fb m (frSs l (m ++ ns) f) (K + 2 * (wtNs ns + wtSs l)) w' ∧ Kp fb w w'
theorem NmIn.nil (w : World) (fb : Nat) : NmIn w fb (.slice none 0 0) [] := slNil _ _
theorem FX.names {bs fb K : Nat} {m f ns : List ByteArray} {w : World} {v : Value} (h : FX bs fb m f K w) (hn : SlAt (· < bs) v ns.length (fun g o => StrAt w g o ns)) : NmIn w fb v ns := by
 have hb := h.bs_le
 obtain ⟨om, tm, vm, vf, h⟩ := h
 exact hn.imp (fun k hk => ⟨Nat.lt_of_lt_of_le hk hb, fun hf => by have := (h.foot_ge hf).1; omega⟩) fun g o _ hA => hA
theorem exprs_any {l : List TE} (hl : ∀ e ∈ l, OFe e) {bs fb K : Nat} {m f : List ByteArray} {w : World} {v : Value} (h : FX bs fb m f K w) (hv : EsIn bs w v l) (hK : K + 2 * wtEs l ≤ 1000000000000) :
 Calls Tryz.prog 115 #[.pointer (some ⟨fb, 0, none⟩), v] w fun en w' => en = .returned (.tuple #[]) ∧ FX bs fb m (frEs l m f) (K + 2 * wtEs l) w' ∧ Kp fb w w' := by
 obtain ⟨ad, cap, rfl, hc1, hx1, hg1⟩ := hv
 unfold maxLen at hx1
 have HL := Lib.hid hl
 have HG := Lib.hid hg1
 have HF := Lib.hid h
 clear hl hg1 h
 go_enter Tryz.func115, Tryz.ntmps115
 go_wp2_with fail
 go_loopw [8] (fun i wr => ∃ k : Nat, i = .int .i64 (k : Int) ∧ k ≤ l.length ∧ Hid (FX bs fb m (frEs (l.take k) m f) (K + 2 * wtEs (l.take k)) wr) ∧ Hid (Kp fb w wr))
  (fun i _ => l.length - (intOf i).toNat)
 case atStart => exact ⟨0, rfl, Nat.zero_le _, HF.out, Kp.refl _ _⟩
 case round =>
  obtain ⟨k, rfl, hk, HFk, HKk⟩ := hrel
  by_cases hlt : k < l.length
  ·obtain ⟨x, hx⟩ : ∃ x, l[k]? = some x := ⟨_, List.getElem?_eq_getElem hlt⟩
   obtain ⟨g, o, rfl, gl, A⟩ := HG.out (by omega)
   obtain ⟨a1, b1, c1, hce, hin⟩ := A.get hx
   have hB : Below bs w wr := HF.out.below HKk.out
   have hw1 := wtEs_get hx
   have hw2 := wtEs_take l (k + 1)
   have HOK : Hid (∀ o, Calls Tryz.prog 150 #[.pointer (some ⟨fb, 0, none⟩), exV x a1 b1 c1] (wr.alloc o) fun en w' => en = .returned (.tuple #[]) ∧ FX bs fb m (frE x m (frEs (l.take k) m f)) (K + 2 * wtEs (l.take k) + 2 * wtE x) w' ∧ Kp fb (wr.alloc o) w') :=
    fun o => HL.out x (List.mem_of_getElem? hx) (HFk.out.alloc o) (EIn.on hin (hB.alloc (HFk.out.bs_le) o)) (by omega)
   have HFR : Hid (frEs (l.take (k + 1)) m f = frE x m (frEs (l.take k) m f)) := frEs_take hx m f
   obtain ⟨op1, num1, text1, ps1, pm1, bd1⟩ := x
   obtain ⟨_, ⟨pa1, pc1, rfl, _⟩, ⟨na1, nc1, rfl, _⟩, ⟨ba1, bc1, rfl, _⟩⟩ := hin
   obtain ⟨q0, q1, q2, q3, q4, q5⟩ := hce.kept (hB.block g gl)
   have hidx : 0 ≤ (k : Int) ∧ (k : Int) < (l.length : Int) := ⟨by omega, by omega⟩
   have hfl : fb < wr.heap.size := HFk.out.lt.2
   simp only [exV] at HOK
   clear A hce hx hB
   go_wp2_with fail
   refine (HOK.out _).mono ?_
   rintro en w2 ⟨rfl, hF2, hK2⟩
   have HF2 := Lib.hid hF2
   have HK2 : Hid (Kp fb w w2) := ((HKk.out.alloc hfl _).trans hK2)
   clear hF2 hK2 q0 q1 q2 q3 q4 q5 HOK
   go_wp2_with fail
   go_roundw
   case rel => exact ⟨k + 1, by go_num, by omega, by show FX _ _ _ _ _ _; rw [HFR.out, ← hw1, Nat.mul_add, ← Nat.add_assoc]; exact HF2.out, HK2⟩
   case measure => simp [intOf]; omega
  ·obtain rfl : k = l.length := by omega
   go_wp2
   go_end0
   exact ⟨rfl, by have := HFk.out; rwa [List.take_length] at this, HKk.out⟩
theorem expr_step {op : Nat} {num : Int} {text : ByteArray} {ps : List TE} {pm : List ByteArray} {bd : List TS} (hps : ∀ p ∈ ps, OFe p) (hbd : OFb bd) : OFe (.mk op num text ps pm bd) := by
 intro bs fb K m f w a b c h hin hK
 have HF := Lib.hid h
 have hfl : fb < w.heap.size := h.lt.2
 obtain ⟨⟨hop, _, _⟩, hP, hN, hS⟩ := hin
 have HP := Lib.hid hP
 have HN := Lib.hid hN
 have HS := Lib.hid hS
 obtain ⟨pa1, pc1, rfl, _⟩ := hP
 obtain ⟨na1, nc1, rfl, _⟩ := hN
 obtain ⟨ba1, bc1, rfl, _⟩ := hS
 have HPS := Lib.hid hps
 have HBD : Hid (OFb bd) := @hbd
 clear h hps hbd
 simp only [exV]
 simp only [wtE] at hK
 by_cases h5 : op = 5
 ·subst h5
  go_enter Tryz.func150, Tryz.ntmps150
  go_wp2_with fail
  refine (use_any (HF.out.alloc _) text (by unfold maxLen; omega) (by omega)).mono ?_
  rintro en w2 ⟨rfl, hF2, hK2⟩
  have HF2 := Lib.hid (hF2.mono (show K + 1 ≤ K + 2 * (1 + text.size + wtEs ps + wtNs pm + wtSs bd) by omega))
  have HK2 : Hid (Kp fb w w2) := ((Kp.refl fb w).alloc hfl _).trans hK2
  clear hF2 hK2
  go_wp2
  go_end0
  exact ⟨rfl, HF2.out, HK2.out⟩
 ·have hne5 : ((op : Int) == 5) = false := by simp; omega
  by_cases h17 : op = 17
  ·subst h17
   go_enter Tryz.func150, Tryz.ntmps150
   go_wp2_with fail
   refine (HBD.out (ns := pm) (HF.out.alloc _) (SsIn.on HS.out (HF.out.below ((Kp.refl fb w).alloc hfl _))) ((HF.out.alloc _).names (SlAt.imp HN.out (fun k hk => hk) fun g o hg hA => StrAt.kept (Below.heap_alloc _ _ _ (by have := HF.out.bs_le; omega)) pm _ hA)) (by omega)).mono ?_
   rintro en w2 ⟨rfl, hF2, hK2⟩
   have HF2 := Lib.hid (hF2.mono (show K + 2 * (wtNs pm + wtSs bd) ≤ K + 2 * (1 + text.size + wtEs ps + wtNs pm + wtSs bd) by omega))
   have HK2 : Hid (Kp fb w w2) := ((Kp.refl fb w).alloc hfl _).trans hK2
   clear hF2 hK2
   go_wp2_with fail
   go_end0
   exact ⟨rfl, HF2.out, HK2.out⟩
  ·have hne17 : ((op : Int) == 17) = false := by simp; omega
   go_enter Tryz.func150, Tryz.ntmps150
   go_wp2_with fail
   refine (exprs_any HPS.out (HF.out.alloc _) (EsIn.on HP.out (HF.out.below ((Kp.refl fb w).alloc hfl _))) (by omega)).mono ?_
   rintro en w2 ⟨rfl, hF2, hK2⟩
   have HF2 := Lib.hid (hF2.mono (show K + 2 * wtEs ps ≤ K + 2 * (1 + text.size + wtEs ps + wtNs pm + wtSs bd) by omega))
   have HK2 : Hid (Kp fb w w2) := ((Kp.refl fb w).alloc hfl _).trans hK2
   clear hF2 hK2
   go_wp2_with fail
   go_end0
   exact ⟨rfl, by have := HF2.out; simp only [frE, h5, h17, if_false]; exact this, HK2.out⟩
theorem FX.new_foot {bs fb K : Nat} {m f : List ByteArray} {w : World} (h : FX bs fb m f K w) (o : Obj) : ¬ foot (w.alloc o) fb w.heap.size := fun hf => by
 obtain ⟨om, tm, vm, vf, h⟩ := h
 have h8 := (foot_same (fb := fb) (k := w.heap.size) (Below.heap_alloc w o fb (lt_of_block h.blk))).1 hf
 have := (h.foot_ge h8).2
 omega
theorem fdSix {w : World} {b : Nat} {x0 x1 x2 x3 x4 x5 : Value} {t : TypeId} (h : w.heap[b]? = some (.cells #[x0, x1, x2, x3, x4, x5] t (0, 0))) : w.cell? ⟨b, 0, none⟩ = some x0 ∧ w.cell? ⟨b, 1, none⟩ = some x1 ∧ w.cell? ⟨b, 2, none⟩ = some x2 ∧ w.cell? ⟨b, 3, none⟩ = some x3 ∧ w.cell? ⟨b, 4, none⟩ = some x4 ∧ w.cell? ⟨b, 5, none⟩ = some x5 := by
 simp [World.cell?, h]
theorem mdS_no {k : Nat} (h : k ≠ 0) (name : ByteArray) (xs : List TE) (b e : List TS) (p : Int) (m : List ByteArray) : mdS (.mk k name xs b e p) m = m := by simp [mdS, h]
theorem frS_0 (name : ByteArray) (xs : List TE) (b e : List TS) (p : Int) (m f : List ByteArray) : frS (.mk 0 name xs b e p) m f = frEs xs m f := by simp [frS]
theorem frS_1 (name : ByteArray) (xs : List TE) (b e : List TS) (p : Int) (m f : List ByteArray) : frS (.mk 1 name xs b e p) m f = useN m (frEs xs m f) name := by simp [frS]
theorem frS_34 {k : Nat} (h : k = 3 ∨ k = 4) (name : ByteArray) (xs : List TE) (b e : List TS) (p : Int) (m f : List ByteArray) : frS (.mk k name xs b e p) m f = frSs e m (frSs b m (frEs xs m f)) := by rcases h with rfl | rfl <;> simp [frS]
theorem frS_7 (name : ByteArray) (xs : List TE) (b e : List TS) (p : Int) (m f : List ByteArray) : frS (.mk 7 name xs b e p) m f = frSs e (m ++ [name]) (frSs b m (frEs xs m f)) := by simp [frS]
theorem frS_o {k : Nat} (h1 : k ≠ 1) (h3 : k ≠ 3) (h4 : k ≠ 4) (h7 : k ≠ 7) (name : ByteArray) (xs : List TE) (b e : List TS) (p : Int) (m f : List ByteArray) : frS (.mk k name xs b e p) m f = frEs xs m f := by simp [frS, h1, h3, h4, h7]
theorem stmt_step {kind : Nat} {name : ByteArray} {xs : List TE} {bd el : List TS} {pos : Int} (hxs : ∀ p ∈ xs, OFe p) (hbd : OFb bd) (hel : OFb el) : OFs (.mk kind name xs bd el pos) := by
 intro bs fb K m f w a b c h hin hK
 have HF := Lib.hid h
 have hfl : fb < w.heap.size := h.lt.2
 obtain ⟨hop, hP, hN, hS⟩ := hin
 have HP := Lib.hid hP
 have HN := Lib.hid hN
 have HS := Lib.hid hS
 obtain ⟨pa1, pc1, rfl, _⟩ := hP
 obtain ⟨na1, nc1, rfl, _⟩ := hN
 obtain ⟨ba1, bc1, rfl, _⟩ := hS
 have HXS := Lib.hid hxs
 have HBD : Hid (OFb bd) := @hbd
 have HEL : Hid (OFb el) := @hel
 clear h hxs hbd hel
 simp only [stV]
 simp only [wtS] at hK
 have hnm : name.size ≤ maxLen := by unfold maxLen; omega
 go_enter Tryz.func92, Tryz.ntmps92
 go_wp2_with fail
 refine (exprs_any HXS.out (HF.out.alloc _) (EsIn.on HP.out (HF.out.below ((Kp.refl fb w).alloc hfl _))) (by omega)).mono ?_
 rintro en w2 ⟨rfl, hF2, hK2⟩
 have HF2 := Lib.hid hF2
 have HK2 : Hid (Kp fb w w2) := ((Kp.refl fb w).alloc hfl _).trans hK2
 have hbs : bs ≤ w.heap.size := HF.out.bs_le
 have hnf : ¬ foot w2 fb w.heap.size := (hK2.block w.heap.size (by simp) (HF.out.new_foot _)).2
 have hx : w2.heap[w.heap.size]? = some (.cells #[.int .i64 (kind : Int), .string name, .slice pa1 xs.length pc1, .slice na1 bd.length nc1, .slice ba1 el.length bc1, .int .i64 pos] 60 (0, 0)) :=
  (hK2.block w.heap.size (by simp) (HF.out.new_foot _)).1.trans (heap_alloc_new _ _)
 have hxl := lt_of_block hx
 have HX : Hid (∀ W, Kp fb w2 W → W.heap[w.heap.size]? = some (.cells #[.int .i64 (kind : Int), .string name, .slice pa1 xs.length pc1, .slice na1 bd.length nc1, .slice ba1 el.length bc1, .int .i64 pos] 60 (0, 0)) ∧ ¬ foot W fb w.heap.size) :=
  fun W hW => ⟨(hW.block _ hxl hnf).1.trans hx, (hW.block _ hxl hnf).2⟩
 obtain ⟨q0, q1, q2, q3, q4, q5⟩ := fdSix hx
 have HSB : Hid (∀ W, Kp fb w2 W → SsIn bs W (.slice na1 bd.length nc1) bd ∧ SsIn bs W (.slice ba1 el.length bc1) el) := fun W hW =>
  ⟨SsIn.on HN.out (HF.out.below (HK2.out.trans hW)), SsIn.on HS.out (HF.out.below (HK2.out.trans hW))⟩
 clear hF2 hK2 hx hnf HP HN HS
 by_cases k0 : kind = 0
 ·subst k0
  go_wp2_with fail
  refine (declare_any HF2.out name hnm (by omega)).mono ?_
  rintro en w3 ⟨rfl, hF3, hK3⟩
  have HFIN : Hid ((∃ K', K' + 1 ≤ K + 2 * (2 + name.size + wtEs xs + wtSs bd + wtSs el) ∧ FX bs fb (m ++ [name]) (frEs xs m f) K' w3) ∧ Kp fb w w3) := ⟨⟨_, by omega, hF3⟩, HK2.out.trans hK3⟩
  clear hF3 hK3
  go_wp2_with fail
  go_end0
  exact ⟨rfl, by rw [frS_0]; exact HFIN.out.1, HFIN.out.2⟩
 by_cases k1 : kind = 1
 ·subst k1
  go_wp2_with fail
  refine (use_any HF2.out name hnm (by omega)).mono ?_
  rintro en w3 ⟨rfl, hF3, hK3⟩
  have HFIN : Hid ((∃ K', K' + 1 ≤ K + 2 * (2 + name.size + wtEs xs + wtSs bd + wtSs el) ∧ FX bs fb m (useN m (frEs xs m f) name) K' w3) ∧ Kp fb w w3) := ⟨⟨_, by omega, hF3⟩, HK2.out.trans hK3⟩
  clear hF3 hK3
  go_wp2_with fail
  go_end0
  exact ⟨rfl, by rw [frS_1, mdS_no (by decide)]; exact HFIN.out.1, HFIN.out.2⟩
 have e0 : ((kind : Int) == 0) = false := by simp; omega
 have e1 : ((kind : Int) == 1) = false := by simp; omega
 by_cases k34 : kind = 3 ∨ kind = 4
 ·have HW : Hid (∀ W, Kp fb w2 W → ∀ {f' : List ByteArray} {K' : Nat}, FX bs fb m f' K' W → K' + 2 * wtSs el ≤ 1000000000000 → Calls Tryz.prog 58 #[.pointer (some ⟨fb, 0, none⟩), .slice ba1 el.length bc1, .slice none 0 0] W fun en w' => en = .returned (.tuple #[]) ∧ FX bs fb m (frSs el m f') (K' + 2 * wtSs el) w' ∧ Kp fb W w') := fun W hW f' K' hF' hk => by
   have := HEL.out (ns := []) hF' (HSB.out W hW).2 (NmIn.nil _ _) (by simpa [wtNs] using hk)
   simpa [wtNs] using this
  have HV : Hid (Calls Tryz.prog 58 #[.pointer (some ⟨fb, 0, none⟩), .slice na1 bd.length nc1, .slice none 0 0] w2 fun en w' => en = .returned (.tuple #[]) ∧ FX bs fb m (frSs bd m (frEs xs m f)) (K + 2 * wtEs xs + 2 * wtSs bd) w' ∧ Kp fb w2 w') := by
   have := HBD.out (ns := []) HF2.out (HSB.out w2 (Kp.refl _ _)).1 (NmIn.nil _ _) (by simp only [wtNs]; omega)
   exact Lib.hid (by simpa [wtNs] using this)
  have e34 : Hid (frS (.mk kind name xs bd el pos) m f = frSs el m (frSs bd m (frEs xs m f)) ∧ mdS (.mk kind name xs bd el pos) m = m) := ⟨frS_34 k34 _ _ _ _ _ _ _, mdS_no k0 _ _ _ _ _ _⟩
  rcases k34 with rfl | rfl
  all_goals
   go_wp2_with fail
   refine HV.out.mono ?_
   rintro en w3 ⟨rfl, hF3, hK3⟩
   have HF3 := Lib.hid hF3
   have HK3 := Lib.hid hK3
   clear q0 q1 q2 q3 q4 q5
   obtain ⟨q0, q1, q2, q3, q4, q5⟩ := fdSix (HX.out w3 hK3).1
   clear hF3 hK3
   go_wp2_with fail
   refine (HW.out w3 HK3.out HF3.out (by omega)).mono ?_
   rintro en w4 ⟨rfl, hF4, hK4⟩
   have HFIN : Hid ((∃ K', K' + 1 ≤ K + 2 * (2 + name.size + wtEs xs + wtSs bd + wtSs el) ∧ FX bs fb m (frSs el m (frSs bd m (frEs xs m f))) K' w4) ∧ Kp fb w w4) := ⟨⟨_, by omega, hF4⟩, (HK2.out.trans HK3.out).trans hK4⟩
   clear hF4 hK4
   go_wp2_with fail
   go_end0
   exact ⟨rfl, by rw [e34.out.1, e34.out.2]; exact HFIN.out.1, HFIN.out.2⟩
 have e3 : ((kind : Int) == 3) = false := by simp; omega
 have e4 : ((kind : Int) == 4) = false := by simp; omega
 by_cases k7 : kind = 7
 ·subst k7
  have HV : Hid (Calls Tryz.prog 58 #[.pointer (some ⟨fb, 0, none⟩), .slice na1 bd.length nc1, .slice none 0 0] w2 fun en w' => en = .returned (.tuple #[]) ∧ FX bs fb m (frSs bd m (frEs xs m f)) (K + 2 * wtEs xs + 2 * wtSs bd) w' ∧ Kp fb w2 w') := by
   have := HBD.out (ns := []) HF2.out (HSB.out w2 (Kp.refl _ _)).1 (NmIn.nil _ _) (by simp only [wtNs]; omega)
   exact Lib.hid (by simpa [wtNs] using this)
  go_wp2_with fail
  refine HV.out.mono ?_
  rintro en w3 ⟨rfl, hF3, hK3⟩
  have HF3 := Lib.hid hF3
  have HK3 := Lib.hid hK3
  have hfl3 : fb < w3.heap.size := hF3.lt.2
  clear q0 q1 q2 q3 q4 q5
  obtain ⟨q0, q1, q2, q3, q4, q5⟩ := fdSix (HX.out w3 hK3).1
  clear hF3 hK3
  go_wp2_with fail
  refine (HEL.out (ns := [name]) (HF3.out.alloc _) (HSB.out _ (HK3.out.alloc hfl3 _)).2 ⟨_, 1, rfl, by simp, by decide, fun _ => ⟨_, 0, rfl, ⟨by simp, HF3.out.new_foot _⟩, ⟨by have h9 := one_newF (w := w3) (x := .string name) (t := 9) 0 _ rfl; exact h9, trivial⟩⟩⟩ (by simp only [wtNs]; omega)).mono ?_
  rintro en w4 ⟨rfl, hF4, hK4⟩
  have HFIN : Hid ((∃ K', K' + 1 ≤ K + 2 * (2 + name.size + wtEs xs + wtSs bd + wtSs el) ∧ FX bs fb m (frSs el (m ++ [name]) (frSs bd m (frEs xs m f))) K' w4) ∧ Kp fb w w4) := ⟨⟨K + 2 * wtEs xs + 2 * wtSs bd + 2 * (wtNs [name] + wtSs el), by simp only [wtNs]; omega, hF4⟩, (HK2.out.trans (HK3.out.alloc hfl3 _)).trans hK4⟩
  clear hF4 hK4
  go_wp2_with fail
  go_end0
  exact ⟨rfl, by rw [frS_7, mdS_no (by decide)]; exact HFIN.out.1, HFIN.out.2⟩
 have e7 : ((kind : Int) == 7) = false := by simp; omega
 have HFIN : Hid ((∃ K', K' + 1 ≤ K + 2 * (2 + name.size + wtEs xs + wtSs bd + wtSs el) ∧ FX bs fb m (frEs xs m f) K' w2) ∧ Kp fb w w2) := ⟨⟨_, by omega, HF2.out⟩, HK2.out⟩
 go_wp2_with fail
 go_end0
 exact ⟨rfl, by rw [frS_o k1 (fun e => k34 (.inl e)) (fun e => k34 (.inr e)) k7, mdS_no k0]; exact HFIN.out.1, HFIN.out.2⟩
end Go.Proofs.YtpboencfnjmmbaaGreatDoor
namespace Go.Proofs.YtpboencfnjmmbaaGreatDoor
open Go.ChangeShapes Go.WideShapes Go.ChangeAt Go.RowKit Go.Maps TM
theorem mdSs_len : ∀ (l : List TS) (m : List ByteArray), (mdSs l m).length ≤ m.length + l.length
 | [], m => by simp [mdSs]
 | .mk k name xs b e p :: l, m => by
  have := mdSs_len l (mdS (.mk k name xs b e p) m)
  have h2 : (mdS (.mk k name xs b e p) m).length ≤ m.length + 1 := by
   by_cases hk : k = 0
   ·simp [mdS, hk]
   ·simp [mdS, hk]
  show (mdSs l (mdS _ m)).length ≤ _
  simp only [List.length_cons]
  omega
theorem rcells9 {w : World} {base : Nat} {e : TypeId} {size g n n' cap : Nat} {xs : List Value} (h : w.ownsRow base e size (.slice (some ⟨g, 0, none⟩) n cap) n' xs) : ∀ (j : Nat) (u : Value), xs[j]? = some u → w.cell? ⟨g, j, none⟩ = some u := fun j u hj => by
 have := h.cells (g := g) rfl j u hj
 by_cases h0 : j = 0
 ·subst h0; simpa [Addr.add] using this
 ·simpa [Addr.add, h0] using this
theorem Fd.undo {bs fb om tm K : Nat} {vm vf : Value} {m r M f : List ByteArray} {x : ByteArray} {w : World} (h : Fd bs fb om tm vm vf (m ++ x :: r) M f K w) (hx : x.size ≤ maxLen) (hK : K < 1000000000000) :
 ∃ w1, (Instr.lookup 110 (.map (some om)) (.string x) false).run Tryz.prog w = .ok (.int .i64 (cnt x (m ++ x :: r) : Int)) w ∧ (Instr.mapUpdate 110 (.map (some om)) (.string x) (.int .i64 ((cnt x (m ++ x :: r) : Int) - 1))).run Tryz.prog w = .ok () w1 ∧ Fd bs fb om tm vm vf (m ++ r) M f (K + 1) w1 ∧ Kp fb w w1 ∧ 1 ≤ cnt x (m ++ x :: r) ∧ cnt x (m ++ x :: r) ≤ 1000000000000 := by
 obtain ⟨D, hD, hDc⟩ := h.own
 have hc : cnt x (m ++ x :: r) = cnt x (m ++ r) + 1 := by
  rw [show m ++ x :: r = (m ++ [x]) ++ r from by simp, cnt_app, cnt_app, cnt_app, cnt_one, if_pos rfl]; omega
 have hle : cnt x (m ++ x :: r) ≤ 1000000000000 := by have := cnt_le x (m ++ x :: r); have := h.lc; omega
 obtain ⟨c, hrl, hat, hwc⟩ := hD.lookup_int keyedStr Tryz.underlying110 Tryz.underlying3 (zeroInt _) (fdKey hx)
 obtain rfl : c = (cnt x (m ++ x :: r) : Int) := by have h9 := hDc x hx; rw [hat] at h9; simpa using h9
 obtain ⟨w1, hru, hown1, hgrow1⟩ := hD.update (val := .int .i64 ((cnt x (m ++ x :: r) : Int) - 1)) (d := .lit (.int .i64 ((cnt x (m ++ x :: r) : Int) - 1))) (ps := []) keyedStr Tryz.underlying110 (by unfold maxLen; omega) (fdKey hx) (plainElem_int Tryz.underlying3 (WalkArith.wf_i64 ⟨by omega, by omega⟩))
 obtain ⟨n1, n2, n3, n4, n5, n6, n7, n8⟩ := h.apart
 obtain ⟨E, hE, hEc⟩ := h.told
 have hold : ∀ k, k < w.heap.size → k ≠ om → w1.heap[k]? = w.heap[k]? := fun k hk hn => hgrow1.block k hk (by simpa using hn)
 have hT := h.turned (vm' := vm) (vf' := vf) (c' := m ++ r) (m' := M) (f' := f) (K' := K + 1) (w' := w1) ((hold fb (lt_of_block h.blk) (fun e => n1 e.symm)).trans h.blk)
  ⟨_, hown1, fun y hy => ?_⟩ ⟨E, map_keep (hE.mono (Nat.le_succ K)) (hold tm hE.lt (fun e => h.ne e.symm)), hEc⟩ (row_keep h.rm fun k hk => hold k (h.rm.lt k hk).2 (fun e => n5 (by rw [← e]; exact hk))) (row_keep h.rf fun k hk => hold k (h.rf.lt k hk).2 (fun e => n6 (by rw [← e]; exact hk)))
  hgrow1.os hgrow1.tape hgrow1.output hgrow1.size (fun k hk => .inl hk) (fun k hk => .inl hk) (.inl rfl) (fun k hk hn => hold k hk (fun e => hn (h.no_foot.2 (.inr (.inl e))))) (by have := h.lc; simp at this ⊢; omega) (Nat.le_succ_of_le h.lm) (Nat.le_succ_of_le h.lf) h.sm
 ·exact ⟨w1, hrl, hru, hT.1, hT.2, by omega, hle⟩
 ·by_cases he : y = x
  ·subst he
   rw [atKey_put_same hD.isMap isKeyStr, hc]; simp
  ·rw [atKey_put_other (fdStr_ne he), hDc y hy, show m ++ x :: r = (m ++ [x]) ++ r from by simp, cnt_app, cnt_app, cnt_one, if_neg (fun e => he e.symm), cnt_app]; simp
theorem Fd.cut {bs fb om tm K cap : Nat} {ao : Option Addr} {vf : Value} {m y f : List ByteArray} {w : World} (h : Fd bs fb om tm (.slice ao (m.length + y.length) cap) vf m (m ++ y) f K w) :
 FX bs fb m f K (w.setCell ⟨fb, 1, none⟩ (.slice ao m.length cap)) ∧ Kp fb w (w.setCell ⟨fb, 1, none⟩ (.slice ao m.length cap)) := by
 obtain ⟨D, hD, hDc⟩ := h.own
 obtain ⟨E, hE, hEc⟩ := h.told
 obtain ⟨n1, n2, n3, n4, n5, n6, n7, n8⟩ := h.apart
 have hrow : w.ownsRow bs 9 1 (.slice ao m.length cap) m.length (m.map .string) := by
  refine ⟨by simp, ?_⟩
  rcases h.rm.2 with ⟨e1, e2⟩ | ⟨g, cp, cur, e1, hb, hg, h1, h2, h3, h4⟩
  ·simp only [Value.slice.injEq] at e1
   obtain ⟨rfl, e3, rfl⟩ := e1
   have e4 : m.length = 0 := by omega
   rw [e4]
   exact .inl ⟨rfl, rfl⟩
  ·simp only [Value.slice.injEq] at e1
   obtain ⟨rfl, e3, rfl⟩ := e1
   refine .inr ⟨g, cap, cur, rfl, hb, hg, by simp at h1; omega, h2, h3, ?_⟩
   have h5 := congrArg (List.take (m.length * 1)) h4
   rw [List.take_take] at h5
   rw [show min (m.length * 1) ((m ++ y).length * 1) = m.length * 1 from by simp] at h5
   rw [h5]; simp
 have hvo : ∀ k, (Value.slice ao m.length cap).ownBlock = some k → (Value.slice ao (m.length + y.length) cap).ownBlock = some k := fun k hk => by cases ao with
  | none => exact hk
  | some a => exact hk
 have hT := h.turned (vm' := .slice ao m.length cap) (vf' := vf) (c' := m) (m' := m) (f' := f) (K' := K) (w' := w.setCell ⟨fb, 1, none⟩ (.slice ao m.length cap)) (by rw [block_set_same h.blk]; rfl)
  ⟨D, map_keep hD (block_set_ne n1 _), hDc⟩ ⟨E, map_keep hE (block_set_ne n2 _), hEc⟩ (row_keep hrow fun k hk => block_set_ne (fun e => n3 (by rw [← e]; exact hvo k hk)) _) (row_keep h.rf fun k hk => block_set_ne (fun e => n4 (by rw [← e]; exact hk)) _)
  rfl rfl rfl (by simp [World.setCell]) (fun k hk => .inl (hvo k hk)) (fun k hk => .inl hk) (.inr rfl) (fun k hk hn => block_set_ne (fun e => hn (h.no_foot.2 (.inl e))) _) h.lc (by have := h.lm; simp at this; omega) h.lf (fun s hs => h.sm s (by simp [hs]))
 exact ⟨⟨_, _, _, _, hT.1⟩, hT.2⟩
theorem block_any {l : List TS} (hl : ∀ s ∈ l, OFs s) : OFb l := by
 intro bs fb K m f ns w v nv h hv hn hK
 obtain ⟨ad, cap, rfl, hc1, hx1, hg1⟩ := hv
 obtain ⟨ad2, cap2, rfl, hc2, hx2, hg2⟩ := hn
 unfold maxLen at hx1 hx2
 have HF := Lib.hid h
 have HL := Lib.hid hl
 have HG := Lib.hid hg1
 have HN := Lib.hid hg2
 obtain ⟨om, tm, vm, vf, hfd⟩ := h
 obtain ⟨q0, q1, q2, q3, qf⟩ := fdFour hfd.blk
 obtain ⟨ao, capm, rfl, hcm1, hcm2⟩ := row_shape hfd.rm
 have hml := hfd.lm
 unfold maxLen at hcm2
 clear hl hg1 hg2 hfd
 have hnl := wtNs_len ns
 go_enter Tryz.func58, Tryz.ntmps58
 go_wp2_with fail
 clear q0 q1 q2 q3 qf
 go_loopw [20] (fun i wr => ∃ k : Nat, i = .int .i64 (k : Int) ∧ k ≤ ns.length ∧ Hid (FX bs fb (m ++ ns.take k) f (K + k) wr) ∧ Hid (Kp fb w wr))
  (fun i _ => ns.length - (intOf i).toNat)
 case atStart => exact ⟨0, rfl, Nat.zero_le _, Lib.hid (by simpa using HF.out), Kp.refl _ _⟩
 case round =>
  obtain ⟨k, rfl, hk, HFk, HKk⟩ := hrel
  by_cases hlt : k < ns.length
  ·obtain ⟨x, hx⟩ : ∃ x, ns[k]? = some x := ⟨_, List.getElem?_eq_getElem hlt⟩
   obtain ⟨g, o, rfl, gl, A⟩ := HN.out (by omega)
   have hce := A.get hx
   have hq : wr.cell? ⟨g, o + k, none⟩ = some (.string x) := (cell_kept (HKk.out.block g gl.1 gl.2).1).trans hce
   have hxs := wtNs_get hx
   have hxt := wtNs_take ns (k + 1)
   have hxm : x.size ≤ maxLen := by unfold maxLen; omega
   have hidx : 0 ≤ (k : Int) ∧ (k : Int) < (ns.length : Int) := ⟨by omega, by omega⟩
   have HTK : Hid (m ++ ns.take (k + 1) = (m ++ ns.take k) ++ [x]) := by show _ = _; rw [List.take_add_one, hx]; simp
   clear A hce hx
   go_wp2_with fail
   refine (declare_any HFk.out x hxm (by omega)).mono ?_
   rintro en w2 ⟨rfl, hF2, hK2⟩
   have HF2 := Lib.hid hF2
   have HK2 : Hid (Kp fb w w2) := HKk.out.trans hK2
   clear hF2 hK2 hq
   go_wp2_with fail
   go_roundw
   case rel => exact ⟨k + 1, by go_num, by omega, by show FX _ _ _ _ _ _; rw [HTK.out]; exact HF2.out, HK2⟩
   case measure => simp [intOf]; omega
  ·obtain rfl : k = ns.length := by omega
   rw [List.take_length] at HFk
   have HF1 := Lib.hid HFk.out
   have HK1 := Lib.hid HKk.out
   obtain ⟨W1, hW1⟩ : ∃ W1, W1 = wr := ⟨_, rfl⟩
   subst hW1
   clear HFk HKk hlt HN hc2 hx2
   go_wp2_with fail
   go_loopw [30] (fun i wr => ∃ (k K' : Nat), i = .int .i64 (k : Int) ∧ k ≤ l.length ∧ Hid (K' + k ≤ K + ns.length + 2 * wtSs (l.take k)) ∧ Hid (FX bs fb (mdSs (l.take k) (m ++ ns)) (frSs (l.take k) (m ++ ns) f) K' wr) ∧ Hid (Kp fb w wr))
    (fun i _ => l.length - (intOf i).toNat)
   case atStart => exact ⟨0, K + ns.length, rfl, Nat.zero_le _, by simp [wtSs]; exact Lib.hid trivial, HF1.out, HK1.out⟩
   case round =>
    obtain ⟨k, K', rfl, hk, HKB, HFk, HKk⟩ := hrel
    by_cases hlt : k < l.length
    ·obtain ⟨x, hx⟩ : ∃ x, l[k]? = some x := ⟨_, List.getElem?_eq_getElem hlt⟩
     obtain ⟨g, o, rfl, gl, A⟩ := HG.out (by omega)
     obtain ⟨a1, b1, c1, hce, hin⟩ := A.get hx
     have hB : Below bs w wr := HF.out.below HKk.out
     have hw1 := wtSs_get hx
     have hw2 := wtSs_take l (k + 1)
     have hkb := HKB.out
     have HOK : Hid (∀ o, Calls Tryz.prog 92 #[.pointer (some ⟨fb, 0, none⟩), stV x a1 b1 c1] (wr.alloc o) fun en w' => en = .returned (.tuple #[]) ∧ (∃ K2, K2 + 1 ≤ K' + 2 * wtS x ∧ FX bs fb (mdS x (mdSs (l.take k) (m ++ ns))) (frS x (mdSs (l.take k) (m ++ ns)) (frSs (l.take k) (m ++ ns) f)) K2 w') ∧ Kp fb (wr.alloc o) w') :=
      fun o => HL.out x (List.mem_of_getElem? hx) (HFk.out.alloc o) (SIn.on hin (hB.alloc (HFk.out.bs_le) o)) (by omega)
     have HFR : Hid (frSs (l.take (k + 1)) (m ++ ns) f = frS x (mdSs (l.take k) (m ++ ns)) (frSs (l.take k) (m ++ ns) f) ∧ mdSs (l.take (k + 1)) (m ++ ns) = mdS x (mdSs (l.take k) (m ++ ns)) ∧ wtSs (l.take (k + 1)) = wtSs (l.take k) + wtS x) := ⟨(frSs_take hx _ _).1, (frSs_take hx _ f).2, hw1.symm⟩
     obtain ⟨op1, name1, xs1, bd1, el1, pos1⟩ := x
     obtain ⟨_, ⟨pa1, pc1, rfl, _⟩, ⟨na1, nc1, rfl, _⟩, ⟨ba1, bc1, rfl, _⟩⟩ := hin
     obtain ⟨q0, q1, q2, q3, q4, q5⟩ := hce.kept (hB.block g gl)
     have hidx : 0 ≤ (k : Int) ∧ (k : Int) < (l.length : Int) := ⟨by omega, by omega⟩
     have hfl : fb < wr.heap.size := HFk.out.lt.2
     simp only [stV] at HOK
     clear A hce hx hB hw1 hw2 hkb
     go_wp2_with fail
     refine (HOK.out _).mono ?_
     rintro en w2 ⟨rfl, ⟨K2, hK2', hF2⟩, hK2⟩
     have HF2 := Lib.hid hF2
     have HK2 : Hid (Kp fb w w2) := ((HKk.out.alloc hfl _).trans hK2)
     have HKB2 : Hid (K2 + (k + 1) ≤ K + ns.length + 2 * wtSs (l.take (k + 1))) := by show _ ≤ _; rw [HFR.out.2.2]; have := HKB.out; omega
     clear hF2 hK2 hK2' q0 q1 q2 q3 q4 q5 HOK
     go_wp2_with fail
     go_roundw
     case rel => exact ⟨k + 1, K2, by go_num, by omega, HKB2, by show FX _ _ _ _ _ _; rw [HFR.out.1, HFR.out.2.1]; exact HF2.out, HK2⟩
     case measure => simp [intOf]; omega
    ·obtain rfl : k = l.length := by omega
     rw [List.take_length] at HFk HKB
     obtain ⟨K2', hK2e⟩ : ∃ K2', K2' = K' := ⟨_, rfl⟩
     subst hK2e
     obtain ⟨W2, hW2⟩ : ∃ W2, W2 = wr := ⟨_, rfl⟩
     subst hW2
     have HK2 := Lib.hid HKk.out
     obtain ⟨y, hz, hzl⟩ : ∃ y, mdSs l (m ++ ns) = m ++ y ∧ y.length ≤ ns.length + l.length := by
      obtain ⟨z, hz⟩ := mdSs_pre l (m ++ ns)
      have hzl := mdSs_len l (m ++ ns)
      rw [hz] at hzl
      simp at hzl
      exact ⟨ns ++ z, by rw [hz]; simp, by simp; omega⟩
     rw [hz] at HFk
     have hkb := HKB.out
     obtain ⟨om2, tm2, vm2, vf2, hfd⟩ := HFk.out
     obtain ⟨q0, q1, q2, q3, qf⟩ := fdFour hfd.blk
     obtain ⟨ao2, capm2, rfl, hcm1', hcm2'⟩ := row_shape hfd.rm
     have hrm := hfd.rm
     simp only [List.length_append] at hcm1' q1 q0 q2 q3 hfd hrm
     unfold maxLen at hcm2'
     have HFIN : Hid (∀ W K3, Fd bs fb om2 tm2 (.slice ao2 (m.length + y.length) capm2) vf2 m (m ++ y) (frSs l (m ++ ns) f) K3 W → K3 ≤ K + 2 * (wtNs ns + wtSs l) → Kp fb w W → FX bs fb m (frSs l (m ++ ns) f) (K + 2 * (wtNs ns + wtSs l)) (W.setCell ⟨fb, 1, none⟩ (.slice ao2 m.length capm2)) ∧ Kp fb w (W.setCell ⟨fb, 1, none⟩ (.slice ao2 m.length capm2))) :=
      fun W K3 hW hk3 hkp => ⟨hW.cut.1.mono hk3, hkp.trans hW.cut.2⟩
     have HFD := Lib.hid hfd
     clear hfd HKk HFk HKB hlt HG hc1 hx1 HF1 HK1 HL
     by_cases hy : y.length = 0
     ·obtain rfl : y = [] := List.length_eq_zero_iff.1 hy
      simp only [List.length_nil, Nat.add_zero, List.append_nil] at hcm1' q1 HFD HFIN
      clear hrm
      rcases Decidable.em (m.length = capm2) with hcap | hcap
      ·subst hcap
       go_wp2_with fail
       go_loopw [45] (fun i wr => i = .int .i64 0 ∧ wr = W2) (fun _ _ => 0)
       case atStart => exact ⟨rfl, rfl⟩
       case round =>
        obtain ⟨rfl, rfl⟩ := hrel
        go_wp2_with fail
        go_end0
        exact ⟨rfl, HFIN.out _ K2' HFD.out (by omega) HK2.out⟩
      ·have hncl : ¬ (capm2 - m.length = 0) := by omega
       go_wp2_with fail
       go_loopw [45] (fun i wr => i = .int .i64 0 ∧ wr = W2) (fun _ _ => 0)
       case atStart => exact ⟨rfl, rfl⟩
       case round =>
        obtain ⟨rfl, rfl⟩ := hrel
        go_wp2_with fail
        go_end0
        exact ⟨rfl, HFIN.out _ K2' HFD.out (by omega) HK2.out⟩
     ·obtain ⟨g, cap3, cur3, e3, hn3, hc3, hbg, hblk⟩ := row_at hrm (by omega)
      cases e3
      have hncl : ¬ (capm2 - m.length = 0) := by omega
      go_wp2_with fail
      clear q0 q1 q2 q3 qf
      go_loopw [45] (fun i wr => ∃ k : Nat, i = .int .i64 (k : Int) ∧ k ≤ y.length ∧ Hid (Fd bs fb om2 tm2 (.slice (some ⟨g, 0, none⟩) (m.length + y.length) capm2) vf2 (m ++ y.drop k) (m ++ y) (frSs l (m ++ ns) f) (K2' + k) wr) ∧ Hid (Kp fb w wr))
       (fun i _ => y.length - (intOf i).toNat)
      case atStart => exact ⟨0, rfl, Nat.zero_le _, HFD.out, HK2.out⟩
      case round =>
       obtain ⟨k, rfl, hk, HFk, HKk⟩ := hrel
       obtain ⟨q0, q1, q2, q3, qf⟩ := fdFour HFk.out.blk
       by_cases hlt : k < y.length
       ·obtain ⟨x, hx⟩ : ∃ x, y[k]? = some x := ⟨_, List.getElem?_eq_getElem hlt⟩
        have hd : y.drop k = x :: y.drop (k + 1) := by
         obtain ⟨h5, rfl⟩ := List.getElem?_eq_some_iff.1 hx
         exact List.drop_eq_getElem_cons h5
        have hxs : x.size ≤ maxLen := HFk.out.sm x (by simp [List.mem_of_getElem? hx])
        have hq : wr.cell? ⟨g, m.length + k, none⟩ = some (.string x) := by
         have h6 := rcells9 HFk.out.rm (m.length + k) (.string x) (by rw [List.getElem?_map, List.getElem?_append_right (by omega), Nat.add_sub_cancel_left, hx]; rfl)
         exact h6
        have hfk := HFk.out
        rw [hd] at hfk
        obtain ⟨w1, hrl, hru, hF1, hK1, hc1, hc2⟩ := hfk.undo hxs (by omega)
        have HF1 := Lib.hid hF1
        have HK1 : Hid (Kp fb w w1) := HKk.out.trans hK1
        have hidx : 0 ≤ (k : Int) ∧ (k : Int) < (y.length : Int) := ⟨by omega, by omega⟩
        have hcc1 : (1 : Int) ≤ (cnt x (m ++ x :: y.drop (k + 1)) : Int) := by omega
        have hcc2 : (cnt x (m ++ x :: y.drop (k + 1)) : Int) ≤ 1000000000000 := by omega
        clear hF1 hK1 hfk hx hd hc1 hc2
        go_wp2_with fail
        go_roundw
        case rel => exact ⟨k + 1, by go_num, by omega, HF1, HK1⟩
        case measure => simp [intOf]; omega
       ·obtain rfl : k = y.length := by omega
        rw [List.drop_length, List.append_nil] at HFk
        go_wp2_with fail
        go_end0
        exact ⟨rfl, HFIN.out _ (K2' + y.length) HFk.out (by omega) HKk.out⟩
mutual
theorem fdE : ∀ e : TE, OFe e
 | .mk op num text ps pm bd => expr_step (fdEs ps) (block_any (fdSs bd))
theorem fdEs : ∀ (l : List TE), ∀ p ∈ l, OFe p
 | [], p, hp => absurd hp (by simp)
 | x :: l, p, hp => by
  rcases List.mem_cons.1 hp with h | h
  ·exact h ▸ fdE x
  ·exact fdEs l p h
theorem fdS : ∀ s : TS, OFs s
 | .mk kind name xs bd el pos => stmt_step (fdEs xs) (block_any (fdSs bd)) (block_any (fdSs el))
theorem fdSs : ∀ (l : List TS), ∀ p ∈ l, OFs p
 | [], p, hp => absurd hp (by simp)
 | x :: l, p, hp => by
  rcases List.mem_cons.1 hp with h | h
  ·exact h ▸ fdS x
  ·exact fdSs l p h
end
theorem FX.made (w : World) (o : Obj) : FX w.heap.size (w.heap.size + 1 + 1 + 1) [] [] 0 ((((w.alloc o).alloc (.map #[] 0)).alloc (.map #[] 0)).alloc (.cells #[.map (some (w.heap.size + 1)), .slice none 0 0, .map (some (w.heap.size + 1 + 1)), .slice none 0 0] 113)) := by
 refine ⟨w.heap.size + 1, w.heap.size + 1 + 1, .slice none 0 0, .slice none 0 0, ?_, by omega, by omega, by omega, by omega, ⟨.map [], ?_, fun s _ => rfl⟩, ⟨.map [], ?_, fun s _ => rfl⟩, World.ownsRow_nil _ _ _ _, World.ownsRow_nil _ _ _ _, (fun k e => by cases e), Nat.le_refl _, Nat.le_refl _, Nat.le_refl _, fun s hs => absurd hs (by simp)⟩
 ·have := heap_alloc_new (((w.alloc o).alloc (.map #[] 0)).alloc (.map #[] 0)) (.cells #[.map (some (w.heap.size + 1)), .slice none 0 0, .map (some (w.heap.size + 1 + 1)), .slice none 0 0] 113)
  simpa using this
 ·have := World.ownsMap_made (H := Unit) (w.alloc o) Tryz.prog 9 (plainElem Tryz.prog 3)
  rw [show (w.alloc o).heap.size = w.heap.size + 1 from by simp] at this
  exact (this.alloc _).alloc _
 ·have := World.ownsMap_made (H := Unit) ((w.alloc o).alloc (.map #[] 0)) Tryz.prog 9 unitElem
  rw [show ((w.alloc o).alloc (.map #[] 0)).heap.size = w.heap.size + 1 + 1 from by simp] at this
  exact this.alloc _
theorem fdFree_any {op : Nat} {num : Int} {text : ByteArray} {ps : List TE} {pm : List ByteArray} {bd : List TS} {w : World} {a b c : Value} (hin : EIn (· < w.heap.size) w (.mk op num text ps pm bd) a b c) (hK : 2 * (wtNs pm + wtSs bd) ≤ 1000000000000) :
 Calls Tryz.prog 30 #[exV (.mk op num text ps pm bd) a b c] w fun en w' => ∃ v, en = .returned v ∧ w'.ownsRow w.heap.size 9 1 v (frSs bd pm []).length ((frSs bd pm []).map .string) ∧ Below w.heap.size w w' := by
 obtain ⟨_, hP, hN, hS⟩ := hin
 have HN := Lib.hid hN
 have HS := Lib.hid hS
 obtain ⟨pa1, pc1, rfl, _⟩ := hP
 obtain ⟨na1, nc1, rfl, _⟩ := hN
 obtain ⟨ba1, bc1, rfl, _⟩ := hS
 simp only [exV]
 have hmm := @run_makeMap Tryz.prog
 go_enter Tryz.func30, Tryz.ntmps30
 go_wp2_with fail
 have hb4 : ∀ o p q r, Below w.heap.size w ((((w.alloc o).alloc p).alloc q).alloc r) := fun o p q r => ((((Below.refl _ _).alloc (Nat.le_refl _) o).alloc (by simp) p).alloc (by simp; omega) q).alloc (by simp; omega) r
 refine (block_any (fdSs bd) (ns := pm) (FX.made w _) (SsIn.on HS.out (hb4 _ _ _ _)) ((FX.made w _).names (SlAt.imp HN.out (fun k hk => hk) fun g o hg hA => StrAt.kept ((hb4 _ _ _ _).block g hg) pm _ hA)) (by omega)).mono ?_
 rintro en w2 ⟨rfl, hF2, hK2⟩
 have hB2 : Hid (Below w.heap.size w w2) := (hb4 _ _ _ _).trans ((FX.made w _).below hK2)
 rw [List.nil_append] at hF2
 obtain ⟨om, tm, vm, vf, hfd⟩ := hF2
 obtain ⟨q0, q1, q2, q3, qf⟩ := fdFour hfd.blk
 obtain ⟨ao, cap, rfl, hc1, hc2⟩ := row_shape hfd.rf
 have HR := Lib.hid hfd.rf
 clear hfd hK2 hb4
 go_wp2_with fail
 go_ret
 exact ⟨_, rfl, HR.out, hB2.out⟩
end Go.Proofs.YtpboencfnjmmbaaGreatDoor
