/-
 What an arena is in memory, said of a plain state: accounts, slots, unused slots, objects; what stays as it was while only the arena's own blocks are written; and the plain lemmas on its rows.
 Conditions: as each theorem says.
-/
import Derived.WalkKit
import Derived.BigQuiet
import Derived.Deep.RegionLaw
set_option linter.unusedVariables false
namespace Go.Proofs.YtenfphbhofibjaaGreatDoor
open Go.RowKit
structure Ob where
 k : Int := 0
 ow : Int := 0
 fz : Bool := false
 fm : Option Nat := none
 mo : Int := 0
 fu : Int := 0
 hd : Value := .slice none 0 0
 br : Int := 0
 ck : Int := 0
 cn : Int := 0
 cs : ByteArray := ⟨#[]⟩
 me : Int := 0
 ta : Int := 0
 de : Int := 0
def Ob.cells (o : Ob) : Array Value := #[.int .u8 o.k, .int .i64 o.ow, .bool o.fz, .map o.fm, .int .i64 o.mo, .int .i64 o.fu, o.hd, .int .u64 o.br, .int .u8 o.ck, .int .i64 o.cn, .string o.cs, .int .i64 o.me, .int .u64 o.ta, .int .i64 o.de]
structure Sl where
 uses : Nat
 obj : Option (Nat × Ob)
structure St where
 accs : List (Int × Int)
 slots : List Sl
 unused : List Nat
def accCells : List (Int × Int) → List Value
 | [] => []
 | p :: l => .int .i64 p.1 :: .int .i64 p.2 :: accCells l
def ptrOf : Option (Nat × Ob) → Value
 | none => .pointer none
 | some p => .pointer (some ⟨p.1, 0, none⟩)
def slotCells : List Sl → List Value
 | [] => []
 | s :: l => .int .u32 s.uses :: ptrOf s.obj :: slotCells l
def freeCells (l : List Nat) : List Value := l.map fun (n : Nat) => Value.int .u32 (n : Int)
theorem accCells_append (l m : List (Int × Int)) : accCells (l ++ m) = accCells l ++ accCells m := by
 induction l with
 | nil => rfl
 | cons p l ih => simp [accCells, ih]
theorem slotCells_append (l m : List Sl) : slotCells (l ++ m) = slotCells l ++ slotCells m := by
 induction l with
 | nil => rfl
 | cons p l ih => simp [slotCells, ih]
theorem accCells_get {l : List (Int × Int)} {i : Nat} {p : Int × Int} (h : l[i]? = some p) : (accCells l)[i * 2]? = some (.int .i64 p.1) ∧ (accCells l)[i * 2 + 1]? = some (.int .i64 p.2) := by
 induction l generalizing i with
 | nil => simp at h
 | cons q l ih =>
  cases i with
  | zero => simp at h; subst h; simp [accCells]
  | succ i =>
   have := ih (by simpa using h)
   rw [show (i + 1) * 2 = i * 2 + 1 + 1 from by omega]
   simpa [accCells] using this
theorem slotCells_get {l : List Sl} {i : Nat} {p : Sl} (h : l[i]? = some p) : (slotCells l)[i * 2]? = some (.int .u32 p.uses) ∧ (slotCells l)[i * 2 + 1]? = some (ptrOf p.obj) := by
 induction l generalizing i with
 | nil => simp at h
 | cons q l ih =>
  cases i with
  | zero => simp at h; subst h; simp [slotCells]
  | succ i =>
   have := ih (by simpa using h)
   rw [show (i + 1) * 2 = i * 2 + 1 + 1 from by omega]
   simpa [slotCells] using this
theorem accCells_set {l : List (Int × Int)} {i : Nat} {p : Int × Int} (h : l[i]? = some p) (m : Int) : (accCells l).set (i * 2) (.int .i64 m) = accCells (l.set i (m, p.2)) := by
 induction l generalizing i with
 | nil => simp at h
 | cons q l ih =>
  cases i with
  | zero => simp at h; subst h; simp [accCells]
  | succ i =>
   have := ih (by simpa using h)
   rw [show (i + 1) * 2 = i * 2 + 1 + 1 from by omega]
   simpa [accCells] using this
theorem slotCells_set0 {l : List Sl} {i : Nat} {p : Sl} (h : l[i]? = some p) (m : Nat) : (slotCells l).set (i * 2) (.int .u32 m) = slotCells (l.set i ⟨m, p.obj⟩) := by
 induction l generalizing i with
 | nil => simp at h
 | cons q l ih =>
  cases i with
  | zero => simp at h; subst h; simp [slotCells]
  | succ i =>
   have := ih (by simpa using h)
   rw [show (i + 1) * 2 = i * 2 + 1 + 1 from by omega]
   simpa [slotCells] using this
theorem slotCells_set1 {l : List Sl} {i : Nat} {p : Sl} (h : l[i]? = some p) (o : Option (Nat × Ob)) : (slotCells l).set (i * 2 + 1) (ptrOf o) = slotCells (l.set i ⟨p.uses, o⟩) := by
 induction l generalizing i with
 | nil => simp at h
 | cons q l ih =>
  cases i with
  | zero => simp at h; subst h; simp [slotCells]
  | succ i =>
   have := ih (by simpa using h)
   rw [show (i + 1) * 2 + 1 = i * 2 + 1 + 1 + 1 from by omega]
   simpa [slotCells] using this
def isA (t : Nat) : Bool := t == 215 || t == 217 || t == 225 || t == 207 || t == 178
def noT (t : Nat) : Bool := false
def mine (T : Nat → Bool) (base : Nat) (w : World) (k : Nat) : Prop := base ≤ k ∧ ∃ cs t fz, w.heap[k]? = some (.cells cs t fz) ∧ T t = true
structure Fr (T : Nat → Bool) (base : Nat) (w w' : World) : Prop where
 os : w'.os = w.os
 tape : w'.tape = w.tape
 output : w'.output = w.output
 size : w.heap.size ≤ w'.heap.size
 keep : ∀ k, k < w.heap.size → ¬ mine T base w k → w'.heap[k]? = w.heap[k]?
section
variable {T : Nat → Bool} {base : Nat}
theorem Fr.refl (T : Nat → Bool) (base : Nat) (w : World) : Fr T base w w := ⟨rfl, rfl, rfl, Nat.le_refl _, fun _ _ _ => rfl⟩
theorem Fr.trans {a b c : World} (h : Fr T base a b) (g : Fr T base b c) : Fr T base a c := by
 refine ⟨g.os.trans h.os, g.tape.trans h.tape, g.output.trans h.output, Nat.le_trans h.size g.size, fun k hk hn => ?_⟩
 have e := h.keep k hk hn
 rw [g.keep k (Nat.lt_of_lt_of_le hk h.size) (fun ⟨h1, cs, t, fz, h2, h3⟩ => hn ⟨h1, cs, t, fz, e ▸ h2, h3⟩), e]
theorem Fr.more {U : Nat → Bool} {a b : World} (h : Fr T base a b) (hm : ∀ t, T t = true → U t = true) : Fr U base a b :=
 ⟨h.os, h.tape, h.output, h.size, fun k hk hn => h.keep k hk (fun ⟨h1, cs, t, fz, h2, h3⟩ => hn ⟨h1, cs, t, fz, h2, hm t h3⟩)⟩
theorem Fr.drew {a w : World} (h : Fr T base a w) : Fr T base a w.drew := ⟨h.os, h.tape, h.output, h.size, h.keep⟩
theorem Fr.drewN {a w : World} (h : Fr T base a w) (n : Nat) : Fr T base a (w.drewN n) := ⟨h.os, h.tape, h.output, h.size, h.keep⟩
theorem Fr.alloc {a w : World} (h : Fr T base a w) (o : Obj) : Fr T base a (w.alloc o) :=
 h.trans ⟨rfl, rfl, rfl, by simp, fun k hk _ => Below.heap_alloc _ _ _ hk⟩
theorem Fr.setCell {a w : World} (h : Fr T base a w) {p : Addr} (hp : mine T base w p.block) (u : Value) : Fr T base a (w.setCell p u) :=
 h.trans ⟨rfl, rfl, rfl, by simp [World.setCell], fun k hk hn => Below.heap_setCell _ _ _ _ (fun e => hn (e ▸ hp))⟩
theorem Fr.grown {a w w' : World} {row : Option Nat} (h : Fr T base a w) (hg : w.grownBy w' row) (hr : ∀ k, row = some k → mine T base w k) : Fr T base a w' :=
 h.trans ⟨hg.os, hg.tape, hg.output, hg.size, fun k hk hn => hg.block k hk (fun e => hn (hr k e.symm))⟩
theorem Fr.below {w w' : World} (h : Fr T base w w') (hb : base ≤ w.heap.size) : Below base w w' :=
 ⟨h.os, h.tape, h.output, h.size, fun k hk => h.keep k (by omega) (fun hm => by have := hm.1; omega)⟩
theorem mine_row {w : World} {e : TypeId} {size : Nat} {v : Value} {n : Nat} {xs : List Value} (h : w.ownsRow base e size v n xs) (he : T e = true) : ∀ k, v.ownBlock = some k → mine T base w k := by
 intro k hk
 rcases h.2 with ⟨rfl, _⟩ | ⟨g, cap, cur, rfl, hb, hg, _⟩
 ·simp [Value.ownBlock] at hk
 ·simp [Value.ownBlock] at hk; subst hk
  exact ⟨hb, _, _, _, hg, he⟩
theorem Fr.block {w w' : World} (h : Fr T base w w') {k : Nat} {cs : Array Value} {t : TypeId} {fz : Nat × Nat} (hk : w.heap[k]? = some (.cells cs t fz)) (ht : T t = false) : w'.heap[k]? = some (.cells cs t fz) := by
 rw [h.keep k (lt_of_block hk) (fun ⟨_, cs', t', fz', h2, h3⟩ => by rw [hk] at h2; simp at h2; obtain ⟨_, rfl, _⟩ := h2; rw [ht] at h3; cases h3)]
 exact hk
theorem Fr.map {w w' : World} (h : Fr T base w w') {k : Nat} {es : Array MapEntry} {clock : Nat} (hk : w.heap[k]? = some (.map es clock)) : w'.heap[k]? = some (.map es clock) := by
 rw [h.keep k (lt_of_block hk) (fun ⟨_, cs', t', fz', h2, h3⟩ => by rw [hk] at h2; simp at h2)]
 exact hk
theorem Fr.keepNo {b2 : Nat} {w w' : World} (h : Fr T base w w') (hT : ∀ t, T t = false) (hb : b2 ≤ w.heap.size) : Below b2 w w' :=
 ⟨h.os, h.tape, h.output, h.size, fun k hk => h.keep k (by omega) (fun ⟨_, _, t, _, _, h3⟩ => by rw [hT t] at h3; cases h3)⟩
theorem Fr.row {b2 : Nat} {w w' : World} (h : Fr T base w w') {e : TypeId} {size : Nat} {v : Value} {n : Nat} {xs : List Value} (ho : w.ownsRow b2 e size v n xs) (ht : T e = false) : w'.ownsRow b2 e size v n xs := by
 refine ⟨ho.1, ?_⟩
 rcases ho.2 with h0 | ⟨g, cap, cur, rfl, hb, hg, r⟩
 ·exact .inl h0
 ·exact .inr ⟨g, cap, cur, rfl, hb, h.block hg ht, r⟩
end
structure Arn (base ab : Nat) (w : World) (s : St) : Prop where
 hb : base ≤ ab
 rows : ∃ vo vs vu, w.heap[ab]? = some (.cells #[vo, vs, vu] 215 (0, 0)) ∧ w.ownsRow base 217 2 vo s.accs.length (accCells s.accs) ∧ w.ownsRow base 225 2 vs s.slots.length (slotCells s.slots) ∧ w.ownsRow base 207 1 vu s.unused.length (freeCells s.unused)
 objs : ∀ (i : Nat) (sl : Sl) (b : Nat) (o : Ob), s.slots[i]? = some sl → sl.obj = some (b, o) → base ≤ b ∧ w.heap[b]? = some (.cells o.cells 178 (0, 0))
theorem ne_of_types {w : World} {a b : Nat} {cs ds : Array Value} {t u : TypeId} {f g : Nat × Nat} (h : w.heap[a]? = some (.cells cs t f)) (k : w.heap[b]? = some (.cells ds u g)) (hn : t ≠ u) : a ≠ b := by
 rintro rfl
 rw [h] at k
 simp at k
 exact hn k.2.1
theorem own_ne {w : World} {base : Nat} {e : TypeId} {size : Nat} {v : Value} {n : Nat} {xs : List Value} (h : w.ownsRow base e size v n xs) {b : Nat} {ds : Array Value} {u : TypeId} {f : Nat × Nat} (k : w.heap[b]? = some (.cells ds u f)) (hn : e ≠ u) : v.ownBlock ≠ some b := by
 rcases h.2 with ⟨rfl, _⟩ | ⟨g, cap, cur, rfl, hb, hg, _⟩
 ·simp [Value.ownBlock]
 ·simp [Value.ownBlock]
  exact ne_of_types hg k hn
theorem own_own {w : World} {base b2 : Nat} {e e2 : TypeId} {size s2 : Nat} {v v2 : Value} {n n2 : Nat} {xs x2 : List Value} (h : w.ownsRow base e size v n xs) (k : w.ownsRow b2 e2 s2 v2 n2 x2) (hn : e ≠ e2) : v.ownBlock = none ∨ v.ownBlock ≠ v2.ownBlock := by
 rcases k.2 with ⟨rfl, _⟩ | ⟨g, cap, cur, rfl, hb, hg, _⟩
 ·cases hv : v.ownBlock <;> simp [Value.ownBlock]
 ·exact .inr (own_ne h hg hn)
theorem block_grown {w w' : World} {row : Option Nat} (hg : w.grownBy w' row) {b : Nat} {o : Obj} (h : w.heap[b]? = some o) (hne : row ≠ some b) : w'.heap[b]? = some o :=
 (hg.block b (lt_of_block h) (fun e => hne e.symm)).trans h
theorem block_alloc {w : World} {b : Nat} {o : Obj} (h : w.heap[b]? = some o) (p : Obj) : (w.alloc p).heap[b]? = some o :=
 (Below.heap_alloc _ _ _ (lt_of_block h)).trans h
theorem block_set {w : World} {b : Nat} {o : Obj} (h : w.heap[b]? = some o) {p : Addr} (hp : b ≠ p.block) (u : Value) : (w.setCell p u).heap[b]? = some o :=
 (Below.heap_setCell _ _ _ _ hp).trans h
theorem Arn.alloc {base ab : Nat} {w : World} {s : St} (h : Arn base ab w s) (o : Obj) : Arn base ab (w.alloc o) s := by
 obtain ⟨hb, ⟨vo, vs, vu, h0, h1, h2, h3⟩, h4⟩ := h
 exact ⟨hb, ⟨vo, vs, vu, block_alloc h0 o, h1.alloc o, h2.alloc o, h3.alloc o⟩, fun i sl b ob e1 e2 => ⟨(h4 i sl b ob e1 e2).1, block_alloc (h4 i sl b ob e1 e2).2 o⟩⟩
theorem Arn.drew {base ab : Nat} {w : World} {s : St} (h : Arn base ab w s) : Arn base ab w.drew s := ⟨h.hb, h.rows, h.objs⟩
theorem Arn.drewN {base ab : Nat} {w : World} {s : St} (h : Arn base ab w s) (n : Nat) : Arn base ab (w.drewN n) s := ⟨h.hb, h.rows, h.objs⟩
theorem Arn.lt {base ab : Nat} {w : World} {s : St} (h : Arn base ab w s) : base ≤ ab ∧ ab < w.heap.size := by
 obtain ⟨vo, vs, vu, h0, _⟩ := h.rows
 exact ⟨h.hb, lt_of_block h0⟩
theorem Arn.kept {base ab : Nat} {w w' : World} {s : St} (h : Arn base ab w s) (hk : ∀ (k : Nat) (cs : Array Value) (t : TypeId), w.heap[k]? = some (.cells cs t (0, 0)) → isA t = true → w'.heap[k]? = w.heap[k]?) : Arn base ab w' s := by
 obtain ⟨hb, ⟨vo, vs, vu, h0, h1, h2, h3⟩, h4⟩ := h
 have hr : ∀ {e : TypeId} {size : Nat} {v : Value} {n : Nat} {xs : List Value}, isA e = true → w.ownsRow base e size v n xs → w'.ownsRow base e size v n xs := by
  intro e size v n xs he ho
  refine ⟨ho.1, ?_⟩
  rcases ho.2 with h0 | ⟨g, cap, cur, rfl, hb, hg, r⟩
  ·exact .inl h0
  ·exact .inr ⟨g, cap, cur, rfl, hb, (hk _ _ _ hg he).trans hg, r⟩
 exact ⟨hb, ⟨vo, vs, vu, (hk _ _ _ h0 rfl).trans h0, hr rfl h1, hr rfl h2, hr rfl h3⟩, fun i sl b ob e1 e2 => ⟨(h4 i sl b ob e1 e2).1, (hk _ _ _ (h4 i sl b ob e1 e2).2 rfl).trans (h4 i sl b ob e1 e2).2⟩⟩
theorem Arn.fr {T : Nat → Bool} {b2 base ab : Nat} {w w' : World} {s : St} (h : Arn base ab w s) (f : Fr T b2 w w') (hT : ∀ t, isA t = true → T t = false) : Arn base ab w' s :=
 h.kept fun k cs t hk ht => (f.block hk (hT t ht)).trans hk.symm
theorem Arn.below {base ab : Nat} {w w' : World} {s : St} (h : Arn base ab w s) (hb : Below w.heap.size w w') : Arn base ab w' s :=
 h.kept fun k cs t hk ht => hb.block k (lt_of_block hk)
theorem row_shape {w : World} {base : Nat} {e : TypeId} {size : Nat} {v : Value} {n : Nat} {xs : List Value} (h : w.ownsRow base e size v n xs) : ∃ ao cap, v = .slice ao n cap ∧ n ≤ cap ∧ cap ≤ maxLen := by
 rcases h.2 with ⟨rfl, rfl⟩ | ⟨g, cap, cur, rfl, hb, hg, h1, h2, _⟩
 ·exact ⟨none, 0, rfl, Nat.le_refl _, by simp [maxLen]⟩
 ·exact ⟨_, _, rfl, h1, h2⟩
theorem row_at {w : World} {base : Nat} {e : TypeId} {size : Nat} {v : Value} {n : Nat} {xs : List Value} (h : w.ownsRow base e size v n xs) (hn : 0 < n) : ∃ g cap cur, v = .slice (some ⟨g, 0, none⟩) n cap ∧ n ≤ cap ∧ cap ≤ maxLen ∧ base ≤ g ∧ w.heap[g]? = some (.cells cur e (0, 0)) := by
 rcases h.2 with ⟨rfl, rfl⟩ | ⟨g, cap, cur, rfl, hb, hg, h1, h2, _⟩
 ·omega
 ·exact ⟨_, _, _, rfl, h1, h2, hb, hg⟩
theorem three {w : World} {b : Nat} {x y z : Value} {t : TypeId} (h : w.heap[b]? = some (.cells #[x, y, z] t (0, 0))) : w.cell? ⟨b, 0, none⟩ = some x ∧ w.cell? ⟨b, 1, none⟩ = some y ∧ w.cell? ⟨b, 2, none⟩ = some z ∧ (∀ j, w.frozen? ⟨b, j, none⟩ = false) := by
 refine ⟨?_, ?_, ?_, fun j => frozen_of_row _ _ _ _ _ h⟩ <;> (rw [cell_of_row _ _ _ _ _ _ h]; rfl)
theorem step_append_own {P : Program} {ops : Array Oper} {o : Oper} {a : Act} {w : World} {K : Act → World → Prop} {Q : Exit → Act → World → Prop} {E : Prop}
 (hg : o.guard = none) (s x : Operand) (t : TypeId) (hop : o.op = Op.call { callee := Callee.builtin Builtin.append, args := #[s, x], argTypes := #[t, t] })
 (base : Nat) (e : TypeId) (i : TypeInfo) (z : Value) (size bytes : Nat) (h1 : P.underlying t = some (.slice e)) (h2 : P.info? e = some i) (h3 : i.zero = some z) (h4 : i.size = size) (h5 : i.bytes = bytes) (h6 : z.cells.size = size) (h7 : 0 < size)
 (v : Value) (n : Nat) (xs : List Value) (hs : a.eval s = v) (hown : w.ownsRow base e size v n xs)
 (ad : Addr) (m c : Nat) (news : List Value) (hx : a.eval x = .slice (some ad) m c) (hn : news.length = m * size) (hc : ∀ j u, news[j]? = some u → w.cell? (ad.add j) = some u) (h1c : ∀ u ∈ news, u.oneCell' = true)
 (b1 : n + m ≤ maxLen) (b2 : (n + m) * bytes ≤ 140737488355328) (hb : base ≤ w.heap.size)
 (hK : ∀ v' w', w'.ownsRow base e size v' (n + m) (xs ++ news) → w.grownBy w' v.ownBlock → K (a.put o.dst v') w') :
 if Region.wanted o (yielded ops a.tmps) = true then Oper.wp P o a w K Q else E := by
 have hw : Region.wanted o (yielded ops a.tmps) = true := by simp [Region.wanted, hg]
 rw [if_pos hw]
 obtain ⟨v', w', hrun, r1, r2, _⟩ := run_append_own (P := P) w base t o.type e i z size bytes h1 h2 h3 h4 h5 h6 h7 v n xs hown ad m c news hn hc h1c b1 b2 hb
 unfold Oper.wp
 simp [execOp, hop, resolve, invoke, builtin, hs, hx, hrun, Result.andThen]
 exact hK v' w' r1 r2
theorem step_call_same {P : Program} {ops : Array Oper} {o : Oper} {a : Act} {w : World} {K : Act → World → Prop} {Q : Exit → Act → World → Prop} {E : Prop}
 (hg : o.guard = none) (s : Operand) (f t : Nat) (hop : o.op = Op.call { callee := Callee.value (.func f), args := #[s], argTypes := #[t] })
 (x v : Value) (hs : a.eval s = x) (eg : ∀ (args : Array Value) (w : World), (callFunc f args).run P w = .ok (.enter f args) w) (hc : Calls P f #[x] w fun e w' => e = .returned v ∧ w' = w)
 (hK : K (a.put o.dst v) w) :
 if Region.wanted o (yielded ops a.tmps) = true then Oper.wp P o a w K Q else E := by
 have hw : Region.wanted o (yielded ops a.tmps) = true := by simp [Region.wanted, hg]
 rw [if_pos hw]
 unfold Oper.wp
 have e1 : ∀ w, (Deferred.ofValue (a.eval (Operand.func f)) #[x]).run P w = .ok ⟨.fn (.func f) #[], #[x]⟩ w := fun w => rfl
 simp [execOp, hop, resolve, invoke, builtin, hs, Result.andThen, e1, eg]
 rw [Oper.upon_enter]
 refine hc.mono ?_
 rintro e w' ⟨rfl, rfl⟩
 exact hK
end Go.Proofs.YtenfphbhofibjaaGreatDoor
