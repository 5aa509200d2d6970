/-
 The relation between a plain run and the run in memory: names of blocks in place of blocks.
 Conditions: none. (No program is named here.)
-/
import Derived.WalkKit
set_option linter.unusedVariables false
namespace Go.Ex
open Go.RowKit
abbrev Rn := Nat → Option (Nat × Nat)
def Le (p q : Rn) : Prop := ∀ n b, p n = some b → q n = some b
theorem Le.refl (p : Rn) : Le p p := fun _ _ h => h
theorem Le.trans {p q r : Rn} (h : Le p q) (k : Le q r) : Le p r := fun n b e => k n b (h n b e)
def unk : Nat := 18446744073709551616
def AR (p : Rn) (a b : Addr) : Prop := (∃ k, p a.block = some (b.block, k)) ∧ b.off = a.off ∧ b.spot = a.spot
theorem AR.le {p q : Rn} {a b : Addr} (h : AR p a b) (l : Le p q) : AR q a b := ⟨h.1.imp fun _ e => l _ _ e, h.2⟩
def Arr (R : Value → Value → Prop) (x y : Array Value) : Prop := x.size = y.size ∧ ∀ (i : Nat) (u v : Value), x[i]? = some u → y[i]? = some v → R u v
theorem Arr.mono {R R' : Value → Value → Prop} {x y : Array Value} (h : Arr R x y) (k : ∀ u v, R u v → R' u v) : Arr R' x y := ⟨h.1, fun i u v a b => k _ _ (h.2 i u v a b)⟩
def leaf : Value → Bool
 | .bool _ | .int _ _ | .float _ _ | .complex _ _ _ | .string _ | .pointer none | .slice none _ _ | .map none | .chan none | .nilFunc | .nilIface => true
 | _ => false
def noYield : Fn → Bool
 | .yield _ => false
 | _ => true
structure VCl (p : Rn) (R : Value → Value → Prop) : Prop where
 leaf : ∀ v, leaf v = true → R v v
 ptr : ∀ a b, AR p a b → R (.pointer (some a)) (.pointer (some b))
 sl : ∀ a b l c, c < unk → AR p a b → R (.slice (some a) l c) (.slice (some b) l c)
 slU : ∀ a b l c k, p a.block = some (b.block, k) → b.off = a.off → b.spot = a.spot → l ≤ c → c ≤ k → R (.slice (some a) l unk) (.slice (some b) l c)
 mp : ∀ r r' k, p r = some (r', k) → R (.map (some r)) (.map (some r'))
 fn : ∀ f x y x' y', noYield f = true → Arr R x x' → Arr R y y' → R (.func f x y) (.func f x' y')
 ifc : ∀ t v v', R v v' → R (.iface t v) (.iface t v')
 agg : ∀ x x', Arr R x x' → R (.agg x) (.agg x')
 tup : ∀ x x', Arr R x x' → R (.tuple x) (.tuple x')
def VR (p : Rn) (v v' : Value) : Prop := ∀ R, VCl p R → R v v'
theorem VR.cl (p : Rn) : VCl p (VR p) where
 leaf v h := fun R c => c.leaf v h
 ptr a b h := fun R c => c.ptr a b h
 sl a b l k h0 h := fun R c => c.sl a b l k h0 h
 slU a b l c k h1 h2 h3 h4 h5 := fun R d => d.slU a b l c k h1 h2 h3 h4 h5
 mp r r' k h := fun R c => c.mp r r' k h
 fn f x y x' y' h1 h2 h3 := fun R c => c.fn f x y x' y' h1 (h2.mono fun _ _ h => h R c) (h3.mono fun _ _ h => h R c)
 ifc t v v' h := fun R c => c.ifc t v v' (h R c)
 agg x x' h := fun R c => c.agg x x' (h.mono fun _ _ h => h R c)
 tup x x' h := fun R c => c.tup x x' (h.mono fun _ _ h => h R c)
theorem VR.le {p q : Rn} {v v' : Value} (h : VR p v v') (l : Le p q) : VR q v v' := by
 refine h _ ?_
 have c := VR.cl q
 exact ⟨c.leaf, fun a b e => c.ptr a b (e.le l), fun a b n k h0 e => c.sl a b n k h0 (e.le l), fun a b n k K h1 => c.slU a b n k K (l _ _ h1), fun r r' k e => c.mp r r' k (l _ _ e), c.fn, c.ifc, c.agg, c.tup⟩
def VI (p : Rn) : Value → Value → Prop
 | .pointer (some a), v' => ∃ b, v' = .pointer (some b) ∧ AR p a b
 | .slice (some a) l c, v' => ∃ b c', v' = .slice (some b) l c' ∧ AR p a b ∧ (c' = c ∧ c < unk ∨ c = unk ∧ l ≤ c' ∧ ∃ k, p a.block = some (b.block, k) ∧ c' ≤ k)
 | .map (some r), v' => ∃ r' k, v' = .map (some r') ∧ p r = some (r', k)
 | .func f x y, v' => ∃ x' y', v' = .func f x' y' ∧ noYield f = true ∧ Arr (VR p) x x' ∧ Arr (VR p) y y'
 | .iface t v, v' => ∃ u, v' = .iface t u ∧ VR p v u
 | .agg x, v' => ∃ x', v' = .agg x' ∧ Arr (VR p) x x'
 | .tuple x, v' => ∃ x', v' = .tuple x' ∧ Arr (VR p) x x'
 | .chan (some _), _ => False
 | v, v' => v' = v
theorem VR.inv {p : Rn} {v v' : Value} (h : VR p v v') : VI p v v' := by
 have key : VCl p (fun u u' => VR p u u' ∧ VI p u u') := by
  have c := VR.cl p
  have pr : ∀ {x x' : Array Value}, Arr (fun u u' => VR p u u' ∧ VI p u u') x x' → Arr (VR p) x x' := fun h => h.mono fun _ _ h => h.1
  refine ⟨fun v hv => ⟨c.leaf v hv, ?_⟩, fun a b e => ⟨c.ptr a b e, b, rfl, e⟩, fun a b n k h0 e => ⟨c.sl a b n k h0 e, b, k, rfl, e, .inl ⟨rfl, h0⟩⟩, fun a b n k K h1 h2 h3 h4 h5 => ⟨c.slU a b n k K h1 h2 h3 h4 h5, b, k, rfl, ⟨⟨K, h1⟩, h2, h3⟩, .inr ⟨rfl, h4, K, h1, h5⟩⟩,
   fun r r' k e => ⟨c.mp r r' k e, r', k, rfl, e⟩, fun f x y x' y' h1 h2 h3 => ⟨c.fn f x y x' y' h1 (pr h2) (pr h3), x', y', rfl, h1, pr h2, pr h3⟩, fun t v v' e => ⟨c.ifc t v v' e.1, v', rfl, e.1⟩, fun x x' e => ⟨c.agg x x' (pr e), x', rfl, pr e⟩, fun x x' e => ⟨c.tup x x' (pr e), x', rfl, pr e⟩⟩
  unfold Ex.leaf at hv
  split at hv <;> first | rfl | cases hv
 exact (h _ key).2
theorem VR.of_leaf {p : Rn} {v : Value} (h : leaf v = true) : VR p v v := (VR.cl p).leaf v h
theorem VR.bool (p : Rn) (b : Bool) : VR p (.bool b) (.bool b) := VR.of_leaf rfl
theorem VR.int (p : Rn) (k : IntKind) (n : Int) : VR p (.int k n) (.int k n) := VR.of_leaf rfl
theorem VR.str (p : Rn) (s : ByteArray) : VR p (.string s) (.string s) := VR.of_leaf rfl
theorem VR.undef (p : Rn) : VR p undef undef := (VR.cl p).tup _ _ ⟨rfl, by simp⟩
def flat1 (v : Value) : Bool := leaf v || (match v with | .agg cs => cs.toList.all leaf | .tuple cs => cs.toList.all leaf | .iface _ u => leaf u | .func f x y => noYield f && x.toList.all leaf && y.toList.all leaf | _ => false)
theorem Arr.flat {p : Rn} {cs : Array Value} (h : cs.toList.all leaf = true) : Arr (VR p) cs cs := by
 refine ⟨rfl, fun i u v a b => ?_⟩
 rw [a] at b
 cases b
 refine VR.of_leaf (List.all_eq_true.1 h u ?_)
 exact List.mem_of_getElem? (l := cs.toList) (i := i) (by simpa using a)
theorem VR.of_flat {p : Rn} {v : Value} (h : flat1 v = true) : VR p v v := by
 unfold flat1 at h
 rw [Bool.or_eq_true] at h
 rcases h with h | h
 ·exact VR.of_leaf h
 ·split at h
  ·exact (VR.cl p).agg _ _ (Arr.flat h)
  ·exact (VR.cl p).tup _ _ (Arr.flat h)
  ·exact (VR.cl p).ifc _ _ _ (VR.of_leaf h)
  ·simp only [Bool.and_eq_true] at h
   exact (VR.cl p).fn _ _ _ _ _ h.1.1 (Arr.flat h.1.2) (Arr.flat h.2)
  ·cases h
theorem Arr.le {p q : Rn} {x y : Array Value} (h : Arr (VR p) x y) (l : Le p q) : Arr (VR q) x y := h.mono fun _ _ h => h.le l
theorem Arr.get {R : Value → Value → Prop} {x y : Array Value} (h : Arr R x y) {i : Nat} {u : Value} (e : x[i]? = some u) : ∃ v, y[i]? = some v ∧ R u v := by
 have hi : i < x.size := (Array.getElem?_eq_some_iff.1 e).1
 exact ⟨y[i]'(h.1 ▸ hi), by simp, h.2 i _ _ e (by simp)⟩
theorem Arr.none {R : Value → Value → Prop} {x y : Array Value} (h : Arr R x y) {i : Nat} (e : x[i]? = none) : y[i]? = none := by
 rw [Array.getElem?_eq_none_iff] at *; have := h.1; omega
theorem Arr.nil {R : Value → Value → Prop} : Arr R #[] #[] := ⟨rfl, by simp⟩
theorem Arr.one {R : Value → Value → Prop} {u v : Value} (h : R u v) : Arr R #[u] #[v] := by
 refine ⟨rfl, fun i a b e f => ?_⟩
 have hi : i < 1 := (Array.getElem?_eq_some_iff.1 e).1
 obtain rfl : i = 0 := by omega
 simp at e f; subst e; subst f; exact h
theorem Arr.append {R : Value → Value → Prop} {x y x' y' : Array Value} (h : Arr R x x') (k : Arr R y y') : Arr R (x ++ y) (x' ++ y') := by
 refine ⟨by simp [h.1, k.1], fun i u v a b => ?_⟩
 rw [Array.getElem?_append] at a b
 rw [← h.1] at b
 split at a
 ·rename_i hi; rw [if_pos hi] at b; exact h.2 i u v a b
 ·rename_i hi; rw [if_neg hi] at b; exact k.2 _ u v a b
theorem Arr.push {R : Value → Value → Prop} {x x' : Array Value} {u v : Value} (h : Arr R x x') (k : R u v) : Arr R (x.push u) (x'.push v) := by
 have := h.append (Arr.one k)
 simpa using this
theorem Arr.extract {R : Value → Value → Prop} {x y : Array Value} (h : Arr R x y) (a b : Nat) : Arr R (x.extract a b) (y.extract a b) := by
 refine ⟨by simp [h.1], fun i u v e f => ?_⟩
 rw [Array.getElem?_extract] at e f
 rw [← h.1] at f
 split at e
 ·rename_i hi; rw [if_pos hi] at f; exact h.2 _ u v e f
 ·cases e
theorem Arr.set {R : Value → Value → Prop} {x y : Array Value} {u v : Value} (h : Arr R x y) (k : R u v) (i : Nat) : Arr R (x.setIfInBounds i u) (y.setIfInBounds i v) := by
 refine ⟨by simp [h.1], fun j a b e f => ?_⟩
 rw [Array.getElem?_setIfInBounds] at e f
 rw [← h.1] at f
 split at e
 ·rename_i hi; rw [if_pos hi] at f
  split at e
  ·rename_i hj; rw [if_pos hj] at f; cases e; cases f; exact k
  ·cases e
 ·rename_i hi; rw [if_neg hi] at f; exact h.2 j a b e f
theorem VR.cells {p : Rn} {v v' : Value} (h : VR p v v') : Arr (VR p) v.cells v'.cells := by
 have i := h.inv
 cases v with
 | agg x => obtain ⟨x', rfl, a⟩ := i; exact a
 | pointer a => cases a with
  | none => obtain rfl := i; exact .one h
  | some a => obtain ⟨b, rfl, _⟩ := i; exact .one h
 | slice a l c => cases a with
  | none => obtain rfl := i; exact .one h
  | some a => obtain ⟨b, c', rfl, _⟩ := i; exact .one h
 | map r => cases r with
  | none => obtain rfl := i; exact .one h
  | some r => obtain ⟨b, c', rfl, _⟩ := i; exact .one h
 | chan r => cases r with
  | none => obtain rfl := i; exact .one h
  | some r => exact i.elim
 | func f x y => obtain ⟨x', y', rfl, _⟩ := i; exact .one h
 | iface t u => obtain ⟨x', rfl, _⟩ := i; exact .one h
 | tuple x => obtain ⟨x', rfl, _⟩ := i; exact .one h
 | bool b => obtain rfl := i; exact .one h
 | int k n => obtain rfl := i; exact .one h
 | float k n => obtain rfl := i; exact .one h
 | complex k n m => obtain rfl := i; exact .one h
 | string s => obtain rfl := i; exact .one h
 | nilFunc => obtain rfl := i; exact .one h
 | nilIface => obtain rfl := i; exact .one h
theorem Arr.map {R : Value → Value → Prop} {α : Type} {l : Array α} {f g : α → Value} (h : ∀ x ∈ l, R (f x) (g x)) : Arr R (l.map f) (l.map g) := by
 refine ⟨by simp, fun i u v a b => ?_⟩
 simp only [Array.getElem?_map, Option.map_eq_some_iff] at a b
 obtain ⟨x, hx, rfl⟩ := a
 obtain ⟨y, hy, rfl⟩ := b
 rw [hx] at hy; cases hy
 exact h x (Array.mem_of_getElem? hx)
def lput {α : Type} (d : α) : List α → Nat → α → List α
 | [], 0, x => [x]
 | [], n + 1, x => d :: lput d [] n x
 | _ :: l, 0, x => x :: l
 | y :: l, n + 1, x => y :: lput d l n x
def lget {α : Type} (d : α) : List α → Nat → α
 | [], _ => d
 | x :: _, 0 => x
 | _ :: l, n + 1 => lget d l n
theorem lget_nil {α : Type} (d : α) (n : Nat) : lget d [] n = d := by cases n <;> rfl
theorem lget_lput {α : Type} (d : α) : ∀ (l : List α) (n : Nat) (x : α) (m : Nat), lget d (lput d l n x) m = if m = n then x else lget d l m
 | [], 0, x, m => by cases m <;> simp [lput, lget]
 | [], n + 1, x, m => by
  cases m with
  | zero => simp [lput, lget]
  | succ m => simp [lput, lget, lget_lput d [] n x m]
 | y :: l, 0, x, m => by cases m <;> simp [lput, lget]
 | y :: l, n + 1, x, m => by
  cases m with
  | zero => simp [lput, lget]
  | succ m => simp [lput, lget, lget_lput d l n x m]
abbrev Tr (α : Type) := List (List (List (Option α)))
def Tr.get {α : Type} (t : Tr α) (n : Nat) : Option α := lget none (lget [] (lget [] t (n / 1024)) (n / 32 % 32)) (n % 32)
def Tr.put {α : Type} (t : Tr α) (n : Nat) (x : Option α) : Tr α :=
 lput [] t (n / 1024) (lput [] (lget [] t (n / 1024)) (n / 32 % 32) (lput none (lget [] (lget [] t (n / 1024)) (n / 32 % 32)) (n % 32) x))
theorem Tr.get_put {α : Type} (t : Tr α) (n : Nat) (x : Option α) (m : Nat) : (t.put n x).get m = if m = n then x else t.get m := by
 simp only [Tr.get, Tr.put, lget_lput]
 by_cases h1 : m / 1024 = n / 1024
 ·rw [if_pos h1, lget_lput]
  by_cases h2 : m / 32 % 32 = n / 32 % 32
  ·rw [if_pos h2, lget_lput]
   by_cases h3 : m % 32 = n % 32
   ·rw [if_pos h3, if_pos (by omega)]
   ·rw [if_neg h3, if_neg (by omega), h1, h2]
  ·rw [if_neg h2, if_neg (by omega), h1]
 ·rw [if_neg h1, if_neg (by omega)]
end Go.Ex
namespace Go.Ex
open Go.RowKit
structure Cx where
 P : Program
 G : Nat
 base : Nat
 w0 : World
 lo : Nat
 old : Nat → Prop
structure St where
 h : Tr Obj
 ctr : Nat
 top : Nat
 rd : List Nat
 wr : List Nat
def ER (p : Rn) (x y : Array MapEntry) : Prop := x.size = y.size ∧ ∀ (i : Nat) (u v : MapEntry), x[i]? = some u → y[i]? = some v → VR p u.key v.key ∧ VR p u.val v.val ∧ v.born = u.born
theorem ER.le {p q : Rn} {x y : Array MapEntry} (h : ER p x y) (l : Le p q) : ER q x y := ⟨h.1, fun i u v a b => ⟨(h.2 i u v a b).1.le l, (h.2 i u v a b).2.1.le l, (h.2 i u v a b).2.2⟩⟩
def OC (p : Rn) (k : Nat) (c : Array Value) (e : TypeId) (fr : Nat × Nat) (o' : Obj) : Prop :=
 ∃ c' fr', o' = .cells c' e fr' ∧ c.size ≤ c'.size ∧ (∀ (i : Nat) (u v : Value), c[i]? = some u → c'[i]? = some v → VR p u v) ∧ (∀ j, j < c'.size → ¬ (fr'.1 ≤ j ∧ j < fr'.2)) ∧ (fr = (0, 0) ∧ c'.size = c.size ∨ fr.1 = 1 ∧ c'.size = k * fr.2)
def OR (p : Rn) (k : Nat) : Obj → Obj → Prop
 | .cells c e fr, o' => OC p k c e fr o' ∨ fr.1 = 2 ∧ ∃ c' e' fr', o' = .cells c' e' fr' ∧ c.size ≤ c'.size ∧ (∀ (i : Nat) (u v : Value), c[i]? = some u → c'[i]? = some v → VR p u v)
 | .map es cl, o' => ∃ es', o' = .map es' cl ∧ ER p es es'
 | .mapIter none a b c, o' => o' = .mapIter none a b c
 | .mapIter (some r) a b c, o' => ∃ r' k', o' = .mapIter (some r') a b c ∧ p r = some (r', k')
 | .stringIter s n, o' => o' = .stringIter s n
 | _, _ => False
theorem OR.le {p q : Rn} {k : Nat} {o o' : Obj} (h : OR p k o o') (l : Le p q) : OR q k o o' := by
 cases o with
 | cells c e fr =>
  rcases h with ⟨c', fr', h1, h2, h3, h4⟩ | ⟨h0, c', e', fr', h1, h2, h3⟩
  ·exact .inl ⟨c', fr', h1, h2, fun i u v a b => (h3 i u v a b).le l, h4⟩
  ·exact .inr ⟨h0, c', e', fr', h1, h2, fun i u v a b => (h3 i u v a b).le l⟩
 | map es cl => obtain ⟨es', h1, h2⟩ := h; exact ⟨es', h1, h2.le l⟩
 | mapIter m a b c => cases m with
  | none => exact h
  | some r => obtain ⟨r', k', h1, h2⟩ := h; exact ⟨r', k', h1, l _ _ h2⟩
 | stringIter s n => exact h
 | _ => exact h.elim
theorem OR.oc {p : Rn} {k : Nat} {c : Array Value} {e : TypeId} {fr : Nat × Nat} {o' : Obj} (h : OR p k (.cells c e fr) o') (hf : fr.1 ≠ 2) : OC p k c e fr o' := by
 rcases h with h | ⟨h, _⟩
 ·exact h
 ·exact absurd h hf
structure WR (C : Cx) (p : Rn) (s : St) (w : World) : Prop where
 below : Below C.base C.w0 w
 base : C.base ≤ w.heap.size
 dom : ∀ n b k, p n = some (b, k) → (C.old n ∨ C.lo ≤ n ∧ n < s.ctr) ∧ b < w.heap.size
 heap : ∀ n o, s.h.get n = some o → ∃ b k o', p n = some (b, k) ∧ w.heap[b]? = some o' ∧ OR p k o o'
 inj : ∀ n m o o' b k k', s.h.get n = some o → s.h.get m = some o' → p n = some (b, k) → p m = some (b, k') → n = m
 own : ∀ n b k, C.G ≤ n → p n = some (b, k) → C.base ≤ b
 ctr : C.G ≤ s.ctr
 far : ∀ n, C.old n → n < C.lo ∨ s.top ≤ n
 lo : C.lo ≤ s.ctr
 room : s.ctr ≤ s.top
def St.read (s : St) (n : Nat) : St := { s with rd := n :: s.rd }
def St.write (s : St) (n : Nat) (o : Obj) : St := { s with h := s.h.put n (some o), rd := n :: s.rd, wr := n :: s.wr }
def St.fresh (s : St) (o : Obj) : St := { s with h := s.h.put s.ctr (some o), ctr := s.ctr + 1 }
theorem WR.read {C : Cx} {p : Rn} {s : St} {w : World} (h : WR C p s w) (n : Nat) : WR C p (s.read n) w := ⟨h.below, h.base, h.dom, h.heap, h.inj, h.own, h.ctr, h.far, h.lo, h.room⟩
theorem WR.drew {C : Cx} {p : Rn} {s : St} {w : World} (h : WR C p s w) : WR C p s w.drew := ⟨h.below.drew, h.base, h.dom, h.heap, h.inj, h.own, h.ctr, h.far, h.lo, h.room⟩
theorem WR.write {C : Cx} {p : Rn} {s : St} {w w' : World} (h : WR C p s w) {n b k : Nat} {o o0 o' : Obj} (hp : p n = some (b, k)) (h0 : s.h.get n = some o0) (hG : C.G ≤ n) (hw : Below C.base w w') (hs : w'.heap.size = w.heap.size)
 (hb : w'.heap[b]? = some o') (hk : ∀ i, i ≠ b → w'.heap[i]? = w.heap[i]?) (ho : OR p k o o') : WR C p (s.write n o) w' := by
 refine ⟨h.below.trans hw, hs ▸ h.base, fun m b' k' e => hs ▸ h.dom m b' k' e, ?_, ?_, h.own, h.ctr, h.far, h.lo, h.room⟩
 ·intro m u e
  simp only [St.write, Tr.get_put] at e
  split at e
  ·rename_i hm; subst hm; cases e; exact ⟨b, k, o', hp, hb, ho⟩
  ·rename_i hm
   obtain ⟨b', k', u', h1, h2, h3⟩ := h.heap m u e
   refine ⟨b', k', u', h1, ?_, h3⟩
   rw [hk b' (fun e' => hm ?_)]; exact h2
   subst e'
   exact h.inj m n u o0 _ _ _ e h0 h1 hp
 ·intro m m' u u' b' k1 k2 e e' f f'
  have look : ∀ m u, (s.write n o).h.get m = some u → ∃ u', s.h.get m = some u' := by
   intro m u e
   simp only [St.write, Tr.get_put] at e
   split at e
   ·rename_i hm; subst hm; exact ⟨o0, h0⟩
   ·exact ⟨u, e⟩
  obtain ⟨v, e⟩ := look m u e
  obtain ⟨v', e'⟩ := look m' u' e'
  exact h.inj m m' v v' b' k1 k2 e e' f f'
def ext (p : Rn) (n b k : Nat) : Rn := fun m => if m = n then some (b, k) else p m
theorem WR.nowhere {C : Cx} {p : Rn} {s : St} {w : World} (h : WR C p s w) (ht : s.ctr < s.top) : p s.ctr = none := by
 cases e : p s.ctr with
 | none => rfl
 | some x =>
  rcases (h.dom _ x.1 x.2 e).1 with h1 | h1
  ·have := h.lo; rcases h.far _ h1 with h2 | h2 <;> omega
  ·omega
theorem WR.extend {C : Cx} {p : Rn} {s : St} {w : World} (h : WR C p s w) (ht : s.ctr < s.top) (b k : Nat) : Le p (ext p s.ctr b k) := by
 intro n x e
 unfold Ex.ext
 split
 ·rename_i hn; subst hn; rw [h.nowhere ht] at e; cases e
 ·exact e
theorem ext_self (p : Rn) (n b k : Nat) : ext p n b k n = some (b, k) := by simp [ext]
theorem WR.fresh {C : Cx} {p : Rn} {s : St} {w : World} (h : WR C p s w) (ht : s.ctr < s.top) {k : Nat} {o o' : Obj} (ho : OR (Ex.ext p s.ctr w.heap.size k) k o o') :
 WR C (Ex.ext p s.ctr w.heap.size k) (s.fresh o) (w.alloc o') := by
 have hle := h.extend ht w.heap.size k
 have hsz : (w.alloc o').heap.size = w.heap.size + 1 := by simp
 have old : ∀ n b j, Ex.ext p s.ctr w.heap.size k n = some (b, j) → n ≠ s.ctr → p n = some (b, j) := by
  intro n b j e hn; simpa [Ex.ext, hn] using e
 refine ⟨h.below.alloc h.base o', by have := h.base; omega, ?_, ?_, ?_, ?_, by have := h.ctr; simp only [St.fresh]; omega, h.far, by have := h.lo; simp only [St.fresh]; omega, by simp only [St.fresh]; omega⟩
 ·intro n b j e
  by_cases hn : n = s.ctr
  ·subst hn; rw [ext_self] at e; cases e; simp only [St.fresh]; exact ⟨.inr (by have := h.lo; omega), by omega⟩
  ·have := h.dom n b j (old n b j e hn); simp only [St.fresh]; exact ⟨this.1.imp id (fun h => by omega), by omega⟩
 ·intro n u e
  simp only [St.fresh, Tr.get_put] at e
  split at e
  ·rename_i hn; subst hn; cases e
   exact ⟨w.heap.size, k, o', ext_self _ _ _ _, heap_alloc_new w o', ho⟩
  ·obtain ⟨b, j, u', h1, h2, h3⟩ := h.heap n u e
   exact ⟨b, j, u', hle _ _ h1, by rw [heap_alloc_old w o' (h.dom _ _ _ h1).2]; exact h2, h3.le hle⟩
 ·intro n m u u' b k1 k2 e e' f f'
  simp only [St.fresh, Tr.get_put] at e e'
  by_cases hn : n = s.ctr <;> by_cases hm : m = s.ctr
  ·rw [hn, hm]
  ·subst hn; rw [ext_self] at f; cases f
   have := (h.dom _ _ _ (old _ _ _ f' hm)).2; omega
  ·subst hm; rw [ext_self] at f'; cases f'
   have := (h.dom _ _ _ (old _ _ _ f hn)).2; omega
  ·rw [if_neg hn] at e; rw [if_neg hm] at e'
   exact h.inj n m u u' b k1 k2 e e' (old _ _ _ f hn) (old _ _ _ f' hm)
 ·intro n b j hG e
  by_cases hn : n = s.ctr
  ·subst hn; rw [ext_self] at e; cases e; exact h.base
  ·exact h.own n b j hG (old _ _ _ e hn)
def okNew : Obj → Bool
 | .cells _ _ fr => fr == (0, 0)
 | .map _ _ | .mapIter _ _ _ _ | .stringIter _ _ => true
 | _ => false
def okSet : Obj → Bool
 | .map es _ => es.toList.all fun e => flat1 e.key
 | .mapIter _ _ _ _ | .stringIter _ _ => true
 | _ => false
def flatP : Value → Bool
 | .iface _ u => flat1 u
 | v => flat1 v
theorem VR.of_flatP {p : Rn} {v : Value} (h : flatP v = true) : VR p v v := by
 unfold flatP at h
 split at h
 ·exact (VR.cl p).ifc _ _ _ (VR.of_flat h)
 ·exact VR.of_flat h
def arun {α : Type} (P : Program) (G : Nat) : Sem α → St → Option (Except Value α × St)
 | .pure a, s => some (.ok a, s)
 | .load _ a k, s => match s.h.get a.block with
  | some (.cells c _ _) => if a.spot.isSome then none else match c[a.off]? with
   | some v => arun P G (k v) (s.read a.block)
   | none => none
  | _ => none
 | .store _ a v k, s => match s.h.get a.block with
  | some (.cells c e fr) => if a.spot.isNone && decide (G ≤ a.block) && decide (a.off < c.size ∧ fr.1 ≠ 2) && v.oneCell' then arun P G k (s.write a.block (.cells (c.setIfInBounds a.off v) e fr)) else none
  | _ => none
 | .new o k, s => if okNew o && decide (s.ctr < s.top) then arun P G (k s.ctr) (s.fresh o) else none
 | .shape r k, s => match s.h.get r with
  | some (.cells c e fr) => if fr == (0, 0) then arun P G (k (some (e, c.size))) (s.read r) else none
  | _ => none
 | .freeze _ _ _, _ => none
 | .frozen a k, s => match s.h.get a.block with
  | some (.cells c _ fr) => if a.off < c.size ∧ fr.1 ≠ 2 then arun P G (k false) (s.read a.block) else none
  | _ => none
 | .getObj r k, s => match s.h.get r with
  | some o => if okSet o then arun P G (k o) (s.read r) else none
  | none => none
 | .setObj r o k, s => match s.h.get r with
  | some o0 => if okSet o0 && okSet o && decide (G ≤ r) then arun P G k (s.write r o) else none
  | none => none
 | .choose q k, s => if q.forced then arun P G (k 0) s else none
 | .sys _ _, _ => none
 | .program k, s => arun P G (k P) s
 | .mark _ k, s => arun P G k s
 | .halt (.panic v), s => if flatP v then some (.error v, s) else none
 | .halt _, _ => none
theorem arun_bind {α β : Type} (P : Program) (G : Nat) (e : Sem α) (f : α → Sem β) : ∀ s, arun P G (e >>= f) s = match arun P G e s with
 | some (.ok v, s1) => arun P G (f v) s1
 | some (.error x, s1) => some (.error x, s1)
 | none => none := by
 show ∀ s, arun P G (e.bind f) s = _
 induction e with
 | pure a => intro s; rfl
 | load m a k ih => intro s; simp only [Sem.bind, arun]; split <;> (try rfl); split <;> (try rfl); split <;> first | rfl | exact ih _ _
 | store m a v k ih => intro s; simp only [Sem.bind, arun]; split <;> (try rfl); split <;> first | rfl | exact ih _
 | new o k ih => intro s; simp only [Sem.bind, arun]; split <;> first | rfl | exact ih _ _
 | shape r k ih => intro s; simp only [Sem.bind, arun]; split <;> (try rfl); split <;> first | rfl | exact ih _ _
 | freeze a n k ih => intro s; rfl
 | frozen a k ih => intro s; simp only [Sem.bind, arun]; split <;> (try rfl); split <;> first | rfl | exact ih _ _
 | getObj r k ih => intro s; simp only [Sem.bind, arun]; split <;> (try rfl); split <;> first | rfl | exact ih _ _
 | setObj r o k ih => intro s; simp only [Sem.bind, arun]; split <;> (try rfl); split <;> first | rfl | exact ih _
 | choose q k ih => intro s; simp only [Sem.bind, arun]; split <;> first | rfl | exact ih _ _
 | sys c k ih => intro s; rfl
 | program k ih => intro s; exact ih _ _
 | mark m k ih => intro s; exact ih _
 | halt h => intro s; cases h <;> first | rfl | (simp only [Sem.bind, arun]; split <;> rfl)
def Fits (C : Cx) {α : Type} (A : Rn → α → α → Prop) (p : Rn) (w' : World) (r : Except Value α) (res : Result α) : Prop :=
 match r with
 | .ok v => ∃ v', res = .ok v' w' ∧ A p v v'
 | .error x => ∃ x', res = .halt (.panic x') w' ∧ VR p x x'
def Sim (C : Cx) {α : Type} (p : Rn) (A : Rn → α → α → Prop) (e e' : Sem α) : Prop :=
 ∀ q, Le p q → ∀ s w, WR C q s w → ∀ r s', arun C.P C.G e s = some (r, s') → ∃ q' w', Le q q' ∧ WR C q' s' w' ∧ Fits C A q' w' r (e'.run C.P w)
section
variable {C : Cx} {α β : Type} {p : Rn} {A : Rn → α → α → Prop} {B : Rn → β → β → Prop}
theorem Sim.le {q : Rn} {e e' : Sem α} (h : Sim C p A e e') (l : Le p q) : Sim C q A e e' := fun r lr => h r (l.trans lr)
theorem Sim.pure {v v' : α} (h : ∀ q, Le p q → A q v v') : Sim C p A (Pure.pure v) (Pure.pure v') := by
 intro q l s w hw r s' e
 cases e
 exact ⟨q, w, Le.refl _, hw, v', rfl, h q l⟩
theorem Sim.bind {e e' : Sem α} {f f' : α → Sem β} (h : Sim C p A e e') (k : ∀ q, Le p q → ∀ v v', A q v v' → Sim C q B (f v) (f' v')) : Sim C p B (e >>= f) (e' >>= f') := by
 intro q l s w hw r s' hr
 rw [arun_bind] at hr
 cases he : arun C.P C.G e s with
 | none => rw [he] at hr; cases hr
 | some x =>
  obtain ⟨r1, s1⟩ := x
  obtain ⟨q1, w1, l1, hw1, hf⟩ := h q l s w hw r1 s1 he
  rw [he] at hr
  cases r1 with
  | ok v =>
   obtain ⟨v', e1, hA⟩ := hf
   obtain ⟨q2, w2, l2, hw2, hf2⟩ := k q1 (l.trans l1) v v' hA q1 (Le.refl _) s1 w1 hw1 r s' hr
   refine ⟨q2, w2, l1.trans l2, hw2, ?_⟩
   rw [Sem.run_bind, e1]
   exact hf2
  | error x =>
   obtain ⟨x', e1, hA⟩ := hf
   cases hr
   refine ⟨q1, w1, l1, hw1, x', ?_, hA⟩
   rw [Sem.run_bind, e1]
   rfl
theorem Sim.mono {A' : Rn → α → α → Prop} {e e' : Sem α} (h : Sim C p A e e') (k : ∀ q v v', Le p q → A q v v' → A' q v v') : Sim C p A' e e' := by
 intro q l s w hw r s' hr
 obtain ⟨q1, w1, l1, hw1, hf⟩ := h q l s w hw r s' hr
 refine ⟨q1, w1, l1, hw1, ?_⟩
 cases r with
 | ok v => obtain ⟨v', e1, hA⟩ := hf; exact ⟨v', e1, k _ _ _ (l.trans l1) hA⟩
 | error x => exact hf
theorem Sim.no {e e' : Sem α} (h : ∀ s, arun C.P C.G e s = none) : Sim C p A e e' := by
 intro q l s w hw r s' hr; rw [h] at hr; cases hr
theorem Sim.stuck {why : String} {e' : Sem α} : Sim C p A (Go.stuck why) e' := Sim.no fun _ => rfl
theorem Sim.unsupported {u : Unsupported} {e' : Sem α} : Sim C p A (Go.unsupported u) e' := Sim.no fun _ => rfl
theorem Sim.program {k k' : Program → Sem α} (h : Sim C p A (k C.P) (k' C.P)) : Sim C p A (.program k) (.program k') := h
theorem Sim.askProgram : Sim C p (fun _ a b => a = C.P ∧ b = C.P) Go.program Go.program := by
 intro q l s w hw r s' hr
 cases hr
 exact ⟨q, w, Le.refl _, hw, C.P, rfl, rfl, rfl⟩
theorem Sim.mark {m m' : Mark} : Sim C p (fun _ _ _ => True) (Go.mark m) (Go.mark m') := by
 intro q l s w hw r s' hr
 cases hr
 exact ⟨q, w, Le.refl _, hw, (), rfl, trivial⟩
theorem Sim.panic {v v' : Value} (h : flatP v = true → ∀ q, Le p q → VR q v v') : Sim C p A (goPanic v) (goPanic v') := by
 intro q l s w hw r s' hr
 simp only [goPanic, arun] at hr
 split at hr <;> cases hr
 rename_i hv
 have h := h hv
 exact ⟨q, w, Le.refl _, hw, v', rfl, h q l⟩
theorem Sim.choose (q : Question) : Sim C p (fun _ a b => a = b) (Go.choose q) (Go.choose q) := by
 intro q' l s w hw r s' hr
 simp only [Go.choose, arun] at hr
 split at hr
 ·rename_i hf
  cases hr
  refine ⟨q', w, Le.refl _, hw, 0, ?_, rfl⟩
  simp [hf]
 ·cases hr
theorem cells_of {q : Rn} {s : St} {w : World} (hw : WR C q s w) {a b : Addr} (hab : AR q a b) {c : Array Value} {e : TypeId} {fr : Nat × Nat} (hg : s.h.get a.block = some (.cells c e fr)) (hf : fr.1 ≠ 2) :
 ∃ k c' fr', q a.block = some (b.block, k) ∧ w.heap[b.block]? = some (.cells c' e fr') ∧ OC q k c e fr (.cells c' e fr') := by
 obtain ⟨b', k, o', h1, h2, h3⟩ := hw.heap _ _ hg
 obtain ⟨⟨k', h4⟩, _⟩ := hab
 rw [h1] at h4; cases h4
 obtain ⟨c', fr', rfl, hr⟩ := h3.oc hf
 exact ⟨k, c', fr', h1, h2, c', fr', rfl, hr⟩
theorem cells_in {q : Rn} {s : St} {w : World} (hw : WR C q s w) {a b : Addr} (hab : AR q a b) {c : Array Value} {e : TypeId} {fr : Nat × Nat} (hg : s.h.get a.block = some (.cells c e fr)) :
 ∃ c' e' fr', w.heap[b.block]? = some (.cells c' e' fr') ∧ c.size ≤ c'.size ∧ (∀ (i : Nat) (u v : Value), c[i]? = some u → c'[i]? = some v → VR q u v) := by
 obtain ⟨b', k, o', h1, h2, h3⟩ := hw.heap _ _ hg
 obtain ⟨⟨k', h4⟩, _⟩ := hab
 rw [h1] at h4; cases h4
 rcases h3 with ⟨c', fr', rfl, g1, g2, _⟩ | ⟨_, c', e', fr', rfl, g1, g2⟩
 ·exact ⟨c', e, fr', h2, g1, g2⟩
 ·exact ⟨c', e', fr', h2, g1, g2⟩
theorem Sim.load {a b : Addr} (h : AR p a b) : Sim C p VR (Go.load a) (Go.load b) := by
 intro q l s w hw r s' hr
 simp only [Go.load, arun] at hr
 split at hr <;> (try cases hr)
 rename_i c e fr hg
 split at hr <;> (try cases hr)
 rename_i hsp
 split at hr <;> (try cases hr)
 rename_i v hv
 obtain ⟨c', e', fr', h2, h4, h5⟩ := cells_in hw (h.le l) hg
 have hlt : a.off < c'.size := Nat.lt_of_lt_of_le (Array.getElem?_eq_some_iff.1 hv).1 h4
 have hc : w.cell? b = some (c'[a.off]) := by
  simp only [World.cell?, h2]
  rw [h.2.2, if_neg hsp, h.2.1]
  simp [hlt]
 refine ⟨q, w, Le.refl _, hw.read _, c'[a.off], ?_, h5 _ _ _ hv (by simp [hlt])⟩
 simp [run_load, hc]
theorem AR.block {q : Rn} {a b : Addr} (h : AR q a b) {b' k : Nat} (e : q a.block = some (b', k)) : b.block = b' := by
 obtain ⟨⟨k', h1⟩, _⟩ := h; rw [h1] at e; cases e; rfl
theorem Sim.store {a b : Addr} {v v' : Value} (h : AR p a b) (hv : VR p v v') : Sim C p (fun _ _ _ => True) (Go.store a v) (Go.store b v') := by
 intro q l s w hw r s' hr
 simp only [Go.store, arun] at hr
 split at hr <;> (try cases hr)
 rename_i c e fr hg
 split at hr <;> (try cases hr)
 rename_i hok
 simp only [Bool.and_eq_true, decide_eq_true_eq] at hok
 obtain ⟨⟨⟨hsp, hG⟩, hlt, hne⟩, h1c⟩ := hok
 obtain ⟨k, c', fr', h1, h2, h3⟩ := cells_of hw (h.le l) hg hne
 obtain ⟨_, _, e3, h4, h5, h6, h7⟩ := h3
 cases e3
 have hlt' : a.off < c'.size := Nat.lt_of_lt_of_le hlt h4
 have hbs : b.spot.isSome = false := by rw [h.2.2]; revert hsp; cases a.spot <;> simp
 have hc : w.cell? b = some (c'[a.off]) := by
  simp only [World.cell?, h2]
  rw [hbs, h.2.1]
  simp [hlt']
 have hfz : w.frozen? b = false := by
  simp only [World.frozen?, h2]
  rw [h.2.1]
  have := h6 _ hlt'
  simpa using this
 have h1c' : v'.oneCell' = true := by
  have i := hv.inv
  cases v with
  | agg x => cases h1c
  | tuple x => cases h1c
  | pointer a => cases a with
   | none => obtain rfl := i; rfl
   | some a => obtain ⟨b, rfl, _⟩ := i; rfl
  | slice a l c => cases a with
   | none => obtain rfl := i; rfl
   | some a => obtain ⟨b, c', rfl, _⟩ := i; rfl
  | map r => cases r with
   | none => obtain rfl := i; rfl
   | some r => obtain ⟨b, c', rfl, _⟩ := i; rfl
  | chan r => cases r with
   | none => obtain rfl := i; rfl
   | some r => exact i.elim
  | func f x y => obtain ⟨x', y', rfl, _⟩ := i; rfl
  | iface t u => obtain ⟨x', rfl, _⟩ := i; rfl
  | bool b => obtain rfl := i; rfl
  | int k n => obtain rfl := i; rfl
  | float k n => obtain rfl := i; rfl
  | complex k n m => obtain rfl := i; rfl
  | string s => obtain rfl := i; rfl
  | nilFunc => obtain rfl := i; rfl
  | nilIface => obtain rfl := i; rfl
 have hheap : (w.setCell b v').heap[b.block]? = some (.cells (c'.setIfInBounds a.off v') e fr') := by
  have hbl : b.block < w.heap.size := (Array.getElem?_eq_some_iff.1 h2).1
  have hbe : w.heap[b.block] = .cells c' e fr' := by simpa [hbl] using h2
  simp [World.setCell, Array.getElem?_modify, h2, hbs, h.2.1]
 refine ⟨q, w.setCell b v', Le.refl _, ?_, (), ?_, trivial⟩
 ·refine hw.write h1 hg hG ((Below.refl _ w).setCell (hw.own _ _ _ hG h1) v') (by simp [World.setCell]) hheap (fun i hi => Below.heap_setCell w b v' i hi) ?_
  refine .inl ⟨_, _, rfl, by simpa using h4, ?_, by simpa using h6, by simpa using h7⟩
  intro i x y e1 e2
  rw [Array.getElem?_setIfInBounds] at e1 e2
  split at e1
  ·rename_i hi
   rw [if_pos hi] at e2
   first | rw [if_pos hlt] at e1 | skip
   first | rw [if_pos hlt'] at e2 | skip
   cases e1; cases e2
   exact hv.le l
  ·rename_i hi
   rw [if_neg hi] at e2
   exact h5 i x y e1 e2
 ·rw [run_store C.P w b v' _ h1c', hc]
  simp [hfz]
theorem Sim.new {o o' : Obj} (h : ∀ q, Le p q → OR q 0 o o') : Sim C p (fun q a b => q a = some (b, 0)) (newObj o) (newObj o') := by
 intro q l s w hw r s' hr
 simp only [newObj, arun] at hr
 split at hr <;> cases hr
 rename_i hok
 simp only [Bool.and_eq_true, decide_eq_true_eq] at hok
 have hle := hw.extend hok.2 w.heap.size 0
 refine ⟨ext q s.ctr w.heap.size 0, w.alloc o', hle, hw.fresh hok.2 (h _ (l.trans hle)), w.heap.size, rfl, ext_self _ _ _ _⟩
theorem Sim.shape {r r' k : Nat} (h : p r = some (r', k)) : Sim C p (fun _ a b => a = b) (Go.shape r) (Go.shape r') := by
 intro q l s w hw x s' hr
 simp only [Go.shape, arun] at hr
 split at hr <;> (try cases hr)
 rename_i c e fr hg
 split at hr <;> cases hr
 rename_i hfr
 obtain ⟨b, k', o', h1, h2, h3⟩ := hw.heap _ _ hg
 rw [l _ _ h] at h1; cases h1
 have hfr : fr = (0, 0) := by simpa using hfr
 subst hfr
 obtain ⟨c', fr', rfl, _, _, _, h7⟩ := h3.oc (by decide)
 rcases h7 with ⟨_, h7⟩ | ⟨h7, _⟩
 ·refine ⟨q, w, Le.refl _, hw.read _, _, rfl, ?_⟩
  simp [World.shape?, h2, h7]
 ·simp at h7
theorem Sim.frozen {a b : Addr} (h : AR p a b) : Sim C p (fun _ a b => a = b) (Go.frozen a) (Go.frozen b) := by
 intro q l s w hw x s' hr
 simp only [Go.frozen, arun] at hr
 split at hr <;> (try cases hr)
 rename_i c e fr hg
 split at hr <;> cases hr
 rename_i hlt
 obtain ⟨hlt, hne⟩ := hlt
 obtain ⟨k, c', fr', h1, h2, h3⟩ := cells_of hw (h.le l) hg hne
 obtain ⟨_, _, e3, h4, h5, h6, h7⟩ := h3
 cases e3
 refine ⟨q, w, Le.refl _, hw.read _, _, rfl, ?_⟩
 simp only [World.frozen?, h2]
 rw [h.2.1]
 have := h6 a.off (Nat.lt_of_lt_of_le hlt h4)
 simpa using this
theorem getObj_run {w : World} {r : Nat} {o : Obj} (h : w.heap[r]? = some o) (ho : ∀ c e fr, o ≠ .cells c e fr) : (Go.getObj r).run C.P w = .ok o w := by
 simp only [Go.getObj, Sem.run, h]
theorem OR.set {q : Rn} {k : Nat} {o o' : Obj} (h : OR q k o o') (ho : okSet o = true) : OR q 0 o o' ∧ (∀ c e fr, o' ≠ .cells c e fr) := by
 cases o with
 | map es cl => obtain ⟨es', rfl, h2⟩ := h; exact ⟨⟨es', rfl, h2⟩, by simp⟩
 | mapIter m a b c => cases m with
  | none => obtain rfl := h; exact ⟨rfl, by simp⟩
  | some r => obtain ⟨r', k', rfl, h2⟩ := h; exact ⟨⟨r', k', rfl, h2⟩, by simp⟩
 | stringIter s n => obtain rfl := h; exact ⟨rfl, by simp⟩
 | _ => cases ho
theorem Sim.getObj {r r' k : Nat} (h : p r = some (r', k)) : Sim C p (fun q a b => OR q 0 a b ∧ okSet a = true) (Go.getObj r) (Go.getObj r') := by
 intro q l s w hw x s' hr
 simp only [Go.getObj, arun] at hr
 split at hr <;> (try cases hr)
 rename_i o hg
 split at hr <;> cases hr
 rename_i hok
 obtain ⟨b, k', o', h1, h2, h3⟩ := hw.heap _ _ hg
 rw [l _ _ h] at h1; cases h1
 obtain ⟨h4, h5⟩ := h3.set hok
 exact ⟨q, w, Le.refl _, hw.read _, o', getObj_run h2 h5, h4, hok⟩
theorem OR.any {q : Rn} {o o' : Obj} (h : OR q 0 o o') (ho : okSet o = true) (k : Nat) : OR q k o o' := by
 cases o with
 | map es cl => exact h
 | mapIter m a b c => cases m <;> exact h
 | stringIter s n => exact h
 | _ => cases ho
theorem Sim.setObj {r r' k : Nat} {o o' : Obj} (h : p r = some (r', k)) (ho : ∀ q, Le p q → OR q 0 o o') : Sim C p (fun _ _ _ => True) (Go.setObj r o) (Go.setObj r' o') := by
 intro q l s w hw x s' hr
 simp only [Go.setObj, arun] at hr
 split at hr <;> (try cases hr)
 rename_i o0 hg
 split at hr <;> cases hr
 rename_i hok
 simp only [Bool.and_eq_true, decide_eq_true_eq] at hok
 obtain ⟨⟨hok0, hok⟩, hG⟩ := hok
 obtain ⟨b, k', o1, h1, h2, h3⟩ := hw.heap _ _ hg
 have h1' := h1
 rw [l _ _ h] at h1; cases h1
 obtain ⟨h4, h5⟩ := h3.set hok0
 have hlt : r' < w.heap.size := (Array.getElem?_eq_some_iff.1 h2).1
 refine ⟨q, { w with heap := w.heap.setIfInBounds r' o' }, Le.refl _, ?_, (), ?_, trivial⟩
 ·refine hw.write h1' hg hG ⟨rfl, rfl, rfl, by simp, fun i hi => ?_⟩ (by simp) (by simp [hlt]) (fun i hi => ?_) ((ho q l).any hok _)
  ·have := hw.own _ _ _ hG h1'
   simp only [Array.getElem?_setIfInBounds]
   rw [if_neg (by omega)]
  ·simp only [Array.getElem?_setIfInBounds]
   rw [if_neg (by omega)]
 ·simp only [Go.setObj, Sem.run, h2]
end
end Go.Ex
namespace Go.Ex
open Go.RowKit
section
variable {C : Cx} {α β : Type} {p : Rn} {A : Rn → α → α → Prop} {B : Rn → β → β → Prop}
abbrev EqA {α : Type} : Rn → α → α → Prop := fun _ a b => a = b
abbrev ArrA : Rn → Array Value → Array Value → Prop := fun q => Arr (VR q)
def Zok (P : Program) : Prop := ∀ t i v, P.info? t = some i → i.zero = some v → ∀ p, VR p v v
theorem Sim.same {e : Sem α} (h : ∀ s w, (∃ v, arun C.P C.G e s = some (.ok v, s) ∧ e.run C.P w = .ok v w) ∨ arun C.P C.G e s = none) : Sim C p EqA e e := by
 intro q l s w hw r s' hr
 rcases h s w with ⟨v, h1, h2⟩ | h1
 ·rw [h1] at hr; cases hr; exact ⟨q, w, Le.refl _, hw, v, h2, rfl⟩
 ·rw [h1] at hr; cases hr
theorem Sim.ite {c : Prop} [Decidable c] {x y x' y' : Sem α} (h : c → Sim C p A x x') (k : ¬ c → Sim C p A y y') : Sim C p A (if c then x else y) (if c then x' else y') := by
 by_cases hc : c
 ·rw [if_pos hc, if_pos hc]; exact h hc
 ·rw [if_neg hc, if_neg hc]; exact k hc
theorem Sim.unit {e e' : Sem Unit} {A : Rn → Unit → Unit → Prop} (h : Sim C p (fun _ _ _ => True) e e') (k : ∀ q, A q () ()) : Sim C p A e e' := h.mono fun q _ _ _ _ => k q
theorem Sim.bindE {γ : Type} {e : Sem γ} {f f' : γ → Sem β} (h : Sim C p EqA e e) (k : ∀ q, Le p q → ∀ v, Sim C q B (f v) (f' v)) : Sim C p B (e >>= f) (e >>= f') :=
 h.bind fun q l v v' e => by cases e; exact k q l v
theorem Sim.bindX {γ : Type} {e e' : Sem γ} {f f' : γ → Sem β} (h : Sim C p EqA e e') (k : ∀ q, Le p q → ∀ v, Sim C q B (f v) (f' v)) : Sim C p B (e >>= f) (e' >>= f') :=
 h.bind fun q l v v' e => by cases e; exact k q l v
theorem Sim.info (t : TypeId) : Sim C p (fun _ a b => a = b ∧ C.P.info? t = some a) (typeInfo t) (typeInfo t) := by
 unfold typeInfo
 refine Sim.askProgram.bind fun q l a b h => ?_
 obtain ⟨rfl, rfl⟩ := h
 cases h : C.P.info? t with
 | none => exact .stuck
 | some i => exact .pure fun _ _ => ⟨rfl, rfl⟩
theorem Sim.under (t : TypeId) : Sim C p (fun _ a b => a = b ∧ C.P.underlying t = some a) (underlying t) (underlying t) := by
 unfold underlying
 refine Sim.askProgram.bind fun q l a b h => ?_
 obtain ⟨rfl, rfl⟩ := h
 cases h : C.P.underlying t with
 | none => exact .stuck
 | some i => exact .pure fun _ _ => ⟨rfl, rfl⟩
theorem Sim.infoE (t : TypeId) : Sim C p EqA (typeInfo t) (typeInfo t) := (Sim.info t).mono fun _ _ _ _ h => h.1
theorem Sim.underE (t : TypeId) : Sim C p EqA (underlying t) (underlying t) := (Sim.under t).mono fun _ _ _ _ h => h.1
theorem Sim.sizeOf (t : TypeId) : Sim C p EqA (Go.sizeOf t) (Go.sizeOf t) := by
 unfold Go.sizeOf
 exact (Sim.infoE t).bindE fun q l i => .pure fun _ _ => rfl
theorem Sim.zero (hz : Zok C.P) (t : TypeId) : Sim C p VR (zeroValue t) (zeroValue t) := by
 unfold zeroValue
 refine (Sim.info t).bind fun q l a b h => ?_
 obtain ⟨rfl, h⟩ := h
 cases e : a.zero with
 | none => exact .unsupported
 | some v => exact .pure fun q _ => hz _ _ _ h e q
theorem Sim.isAgg (t : TypeId) : Sim C p EqA (isAgg t) (isAgg t) := by
 unfold Go.isAgg
 refine (Sim.underE t).bindE fun q l d => ?_
 cases d <;> exact .pure fun _ _ => rfl
theorem AR.add {a b : Addr} (h : AR p a b) (n : Nat) : AR p (a.add n) (b.add n) := by
 unfold Addr.add
 split
 ·exact h
 ·exact ⟨h.1, by simp [h.2.1], rfl⟩
theorem Sim.loadCellsFrom {a b : Addr} (h : AR p a b) : ∀ (n i : Nat) (x y : Array Value), Arr (VR p) x y → Sim C p ArrA (Go.loadCellsFrom a i n x) (Go.loadCellsFrom b i n y) := by
 intro n
 induction n generalizing p with
 | zero => intro i x y hx; exact .pure fun q l => hx.le l
 | succ n ih =>
  intro i x y hx
  unfold Go.loadCellsFrom
  exact (Sim.load (h.add i)).bind fun q l v v' hv => ih (h.le l) _ _ _ ((hx.le l).push hv)
theorem Sim.loadCells {a b : Addr} (h : AR p a b) (n : Nat) : Sim C p ArrA (Go.loadCells a n) (Go.loadCells b n) := Sim.loadCellsFrom h n 0 _ _ .nil
theorem Sim.loadVar {a b : Addr} (h : AR p a b) (t : TypeId) : Sim C p VR (loadVar t a) (loadVar t b) := by
 unfold Go.loadVar
 refine (Sim.isAgg t).bindE fun q l c => ?_
 refine .ite (fun _ => ?_) fun _ => Sim.load (h.le l)
 refine (Sim.sizeOf t).bindE fun q1 l1 n => ?_
 exact (Sim.loadCells (h.le (l.trans l1)) n).bind fun q2 l2 x y hx => .pure fun q3 l3 => (VR.cl _).agg _ _ (hx.le l3)
theorem Sim.storeCells : ∀ (vs us : List Value) {a b : Addr}, AR p a b → Arr (VR p) vs.toArray us.toArray → ∀ i, Sim C p (fun _ _ _ => True) (Go.storeCells a vs i) (Go.storeCells b us i) := by
 intro vs
 induction vs generalizing p with
 | nil =>
  intro us a b h hv i
  have : us = [] := List.eq_nil_of_length_eq_zero (by simpa using hv.1.symm)
  subst this
  exact .pure fun _ _ => trivial
 | cons v vs ih =>
  intro us a b h hv i
  cases us with
  | nil => simp [Arr] at hv
  | cons u us =>
   unfold Go.storeCells
   refine (Sim.store (h.add i) (hv.2 0 v u (by simp) (by simp))).bind fun q l _ _ _ => ih us (h.le l) ?_ _
   refine ⟨by simpa using hv.1, fun j x y e f => (hv.2 (j + 1) x y (by simpa using e) (by simpa using f)).le l⟩
theorem Arr.toList {x y : Array Value} (h : Arr (VR p) x y) : Arr (VR p) x.toList.toArray y.toList.toArray := by simpa using h
theorem Sim.storeVar {a b : Addr} {v v' : Value} (h : AR p a b) (hv : VR p v v') (t : TypeId) : Sim C p (fun _ _ _ => True) (storeVar t a v) (storeVar t b v') := by
 unfold Go.storeVar
 refine (Sim.sizeOf t).bindE fun q l n => ?_
 have hc := (hv.le l).cells
 rw [hc.1]
 split
 ·exact .no fun s => rfl
 ·exact Sim.storeCells _ _ (h.le l) ((hv.le l).cells.toList) 0
theorem Arr.cellsOR {x y : Array Value} (h : Arr (VR p) x y) (e : TypeId) : OR p 0 (.cells x e) (.cells y e) :=
 .inl ⟨y, _, rfl, by rw [h.1]; exact Nat.le_refl _, h.2, by simp, .inl ⟨rfl, h.1.symm⟩⟩
theorem Sim.newRow {x y : Array Value} (h : Arr (VR p) x y) (e : TypeId) : Sim C p (fun q a b => AR q a b) (newRow e x) (newRow e y) := by
 unfold Go.newRow
 exact (Sim.new (o := .cells x e) (o' := .cells y e) fun q l => (h.le l).cellsOR e).bind fun q l a b e => .pure fun q1 l1 => ⟨⟨0, l1 _ _ e⟩, rfl, rfl⟩
theorem Sim.newVar {v v' : Value} (h : VR p v v') (t : TypeId) : Sim C p (fun q a b => AR q a b) (newVar t v) (newVar t v') := Sim.newRow h.cells t
theorem VR.ptr {a b : Addr} (h : AR p a b) : VR p (.pointer (some a)) (.pointer (some b)) := (VR.cl p).ptr a b h
theorem Sim.sureAddr {v v' : Value} (h : VR p v v') : Sim C p (fun q a b => AR q a b) (Instr.sureAddr v) (Instr.sureAddr v') := by
 have i := h.inv
 cases v with
 | pointer a => cases a with
  | none => obtain rfl := i; exact .stuck
  | some a => obtain ⟨b, rfl, hab⟩ := i; exact .pure fun q l => hab.le l
 | _ => exact .stuck
theorem Sim.asIntOf {v v' : Value} (h : VR p v v') : Sim C p EqA (Go.asIntOf v) (Go.asIntOf v') := by
 have i := h.inv
 cases v with
 | int k n => obtain rfl := i; exact .pure fun _ _ => rfl
 | pointer a => cases a <;> first | exact .stuck | exact .unsupported
 | _ => exact .stuck
theorem Sim.asInt {v v' : Value} (h : VR p v v') : Sim C p EqA (Go.asInt v) (Go.asInt v') := by
 unfold Go.asInt
 exact (Sim.asIntOf h).bind fun q l a b e => by cases e; exact .pure fun _ _ => rfl
theorem Sim.asAgg {v v' : Value} (h : VR p v v') : Sim C p ArrA (Go.asAgg v) (Go.asAgg v') := by
 have i := h.inv
 cases v with
 | agg x => obtain ⟨y, rfl, hx⟩ := i; exact .pure fun q l => hx.le l
 | _ => exact .stuck
theorem Sim.asBool {v v' : Value} (h : VR p v v') : Sim C p EqA (Go.asBool v) (Go.asBool v') := by
 have i := h.inv
 cases v with
 | bool x => obtain rfl := i; exact .pure fun q l => rfl
 | _ => exact .stuck
theorem Sim.runtimePanic (e : RuntimeError) : Sim C p A (Go.runtimePanic e) (Go.runtimePanic e) := by
 unfold Go.runtimePanic
 refine Sim.askProgram.bind fun q l a b h => ?_
 obtain ⟨rfl, rfl⟩ := h
 cases e with
 | typeAssertion i c a m =>
  refine .no fun s => ?_
  dsimp only
  rw [arun_bind]
  unfold elemOf Go.underlying
  simp only [arun_bind]
  simp only [Go.program, arun]
  cases h : C.P.underlying C.P.rt.typeAssertionError with
  | none => rfl
  | some d =>
   simp only [arun, Pure.pure]
   cases d <;> first | rfl | skip
   rename_i e0
   have nv : ∀ (v : Value) (s : St), arun C.P C.G (Go.newVar e0 v) s = none ∨ ∃ a s1, arun C.P C.G (Go.newVar e0 v) s = some (.ok a, s1) := by
    intro v s
    unfold Go.newVar Go.newRow
    rw [arun_bind]
    simp only [Go.newObj, arun]
    by_cases hc : (okNew (Obj.cells v.cells e0) && decide (s.ctr < s.top)) = true
    ·rw [if_pos hc]; exact .inr ⟨_, _, rfl⟩
    ·rw [if_neg hc]; exact .inl rfl
   simp only [arun]
   generalize (Value.agg _ : Value) = vv
   rcases nv vv s with h | ⟨a, s1, h⟩
   ·rw [h]
   ·rw [h]; rfl
 | panicNil =>
  refine .no fun s => ?_
  dsimp only
  rw [arun_bind]
  unfold elemOf Go.underlying
  simp only [arun_bind]
  simp only [Go.program, arun]
  cases h : C.P.underlying C.P.rt.panicNilError with
  | none => rfl
  | some d =>
   simp only [arun, Pure.pure]
   cases d <;> first | rfl | skip
   rename_i e0
   have nv : ∀ (v : Value) (s : St), arun C.P C.G (Go.newVar e0 v) s = none ∨ ∃ a s1, arun C.P C.G (Go.newVar e0 v) s = some (.ok a, s1) := by
    intro v s
    unfold Go.newVar Go.newRow
    rw [arun_bind]
    simp only [Go.newObj, arun]
    by_cases hc : (okNew (Obj.cells v.cells e0) && decide (s.ctr < s.top)) = true
    ·rw [if_pos hc]; exact .inr ⟨_, _, rfl⟩
    ·rw [if_neg hc]; exact .inl rfl
   simp only [arun]
   generalize (Value.agg _ : Value) = vv
   rcases nv vv s with h | ⟨a, s1, h⟩
   ·rw [h]
   ·rw [h]; rfl
 | _ => exact .panic fun h q l => VR.of_flatP h
theorem Sim.boundsPanic (k : IntKind) (x y : Int) (c : BoundsCode) : Sim C p A (Go.boundsPanic k x y c) (Go.boundsPanic k x y c) := by
 unfold Go.boundsPanic
 split
 ·refine Sim.bind (A := EqA) ?_ fun q l a b e => by cases e; exact Sim.runtimePanic _
  exact (Sim.choose _).bind (B := EqA) fun q l a b e => by cases e; exact .pure fun _ _ => rfl
 ·exact Sim.runtimePanic (.bounds (IntKind.i64.wrap x) y (k != .u64) c)
theorem Sim.loadAt {v v' : Value} (h : VR p v v') (t : TypeId) : Sim C p VR (Instr.loadAt t v) (Instr.loadAt t v') := (Sim.sureAddr h).bind fun q l a b hab => Sim.loadVar hab t
theorem Sim.storeAt {a a' v v' : Value} (h : VR p a a') (hv : VR p v v') (t : TypeId) : Sim C p (fun _ _ _ => True) (Instr.storeAt t a v) (Instr.storeAt t a' v') := (Sim.sureAddr h).bind fun q l a b hab => Sim.storeVar hab (hv.le l) t
theorem Sim.alloc (hz : Zok C.P) (t : TypeId) : Sim C p VR (Instr.alloc t true (.tuple #[])) (Instr.alloc t true (.tuple #[])) := by
 unfold Instr.alloc
 exact (Sim.zero hz t).bind fun q l v v' hv => (Sim.newVar hv t).bind fun q1 l1 a b hab => .pure fun q2 l2 => VR.ptr (hab.le l2)
theorem Sim.box {v v' : Value} (h : VR p v v') (t : TypeId) : Sim C p VR (Instr.box t v) (Instr.box t v') := by
 unfold Instr.box
 exact (Sim.newVar h t).bind fun q1 l1 a b hab => .pure fun q2 l2 => VR.ptr (hab.le l2)
end
end Go.Ex
namespace Go.Ex
open Go.RowKit
theorem leaf_eq {p : Rn} {v v' : Value} (h : leaf v = true) (k : VR p v v') : v' = v := by
 have i := k.inv
 unfold leaf at h
 split at h <;> first | exact i | cases h
theorem leafs_eq {p : Rn} {x y : Array Value} (h : x.toList.all leaf = true) (k : Arr (VR p) x y) : y = x := by
 refine Array.ext k.1.symm fun i h1 h2 => ?_
 refine leaf_eq ?_ (k.2 i x[i] y[i] (by simp) (by simp))
 exact List.all_eq_true.1 h _ (by simp)
theorem flat_eq {p : Rn} {v v' : Value} (h : flat1 v = true) (k : VR p v v') : v' = v := by
 unfold flat1 at h
 rw [Bool.or_eq_true] at h
 rcases h with h | h
 ·exact leaf_eq h k
 ·have i := k.inv
  split at h
  ·obtain ⟨y, rfl, a⟩ := i; rw [leafs_eq h a]
  ·obtain ⟨y, rfl, a⟩ := i; rw [leafs_eq h a]
  ·obtain ⟨y, rfl, a⟩ := i; rw [leaf_eq h a]
  ·obtain ⟨x', y', rfl, _, a, b⟩ := i
   simp only [Bool.and_eq_true] at h
   rw [leafs_eq h.1.2 a, leafs_eq h.2 b]
  ·cases h
section
variable {C : Cx} {α β : Type} {p : Rn} {A : Rn → α → α → Prop} {B : Rn → β → β → Prop}
def StepA {σ : Type} (R : Rn → σ → σ → Prop) : Rn → ForInStep σ → ForInStep σ → Prop
 | q, .yield a, .yield b => R q a b
 | q, .done a, .done b => R q a b
 | _, _, _ => False
theorem Sim.loop {γ σ : Type} {R : Rn → σ → σ → Prop} (mono : ∀ p q a b, Le p q → R p a b → R q a b) {f f' : γ → σ → Sem (ForInStep σ)} : ∀ (l : List γ) (b b' : σ), R p b b' →
 (∀ q, Le p q → ∀ x ∈ l, ∀ b b', R q b b' → Sim C q (StepA R) (f x b) (f' x b')) → Sim C p R (forIn l b f) (forIn l b' f') := by
 intro l
 induction l generalizing p with
 | nil => intro b b' h _; exact .pure fun q l => mono _ _ _ _ l h
 | cons x l ih =>
  intro b b' h k
  rw [List.forIn_cons, List.forIn_cons]
  refine (k p (Le.refl _) x (by simp) b b' h).bind fun q lq v v' hv => ?_
  cases v <;> cases v'
  ·exact .pure fun q1 l1 => mono _ _ _ _ l1 hv
  ·exact hv.elim
  ·exact hv.elim
  ·exact ih _ _ hv fun q1 l1 y hy => k q1 (lq.trans l1) y (by simp [hy])
theorem Sim.loopE {γ σ : Type} {f f' : γ → σ → Sem (ForInStep σ)} (l : List γ) (b : σ) (h : ∀ q, Le p q → ∀ x ∈ l, ∀ b, Sim C q EqA (f x b) (f' x b)) : Sim C p EqA (forIn l b f) (forIn l b f') := by
 refine Sim.loop (R := EqA) (fun _ _ _ _ _ h => h) l b b rfl fun q l x hx b b' e => ?_
 cases e
 refine (h q l x hx b).mono fun q v v' _ e => ?_
 cases e; cases v <;> rfl
theorem Sim.part {x y : Array Value} (h : Arr (VR p) x y) (t : TypeId) (off : Nat) : Sim C p VR (Go.part t x off) (Go.part t y off) := by
 unfold Go.part
 refine (Sim.isAgg t).bindE fun q l c => ?_
 refine .ite (fun _ => ?_) fun _ => ?_
 ·exact (Sim.sizeOf t).bindE fun q1 l1 n => .pure fun q2 l2 => (VR.cl _).agg _ _ (((h.le l).le (l1.trans l2)).extract _ _)
 ·cases e : x[off]? with
  | none => exact .stuck
  | some v =>
   obtain ⟨u, e2, hv⟩ := h.get e
   rw [e2]
   exact .pure fun q1 l1 => hv.le (l.trans l1)
theorem Sim.partE {x : Array Value} (h : x.toList.all leaf = true) (t : TypeId) (off : Nat) : Sim C p (fun _ a b => a = b ∧ flat1 a = true) (Go.part t x off) (Go.part t x off) := by
 unfold Go.part
 refine (Sim.isAgg t).bindE fun q l c => ?_
 refine .ite (fun _ => ?_) fun _ => ?_
 ·refine (Sim.sizeOf t).bindE fun q1 l1 n => .pure fun q2 l2 => ⟨rfl, ?_⟩
  have : (x.extract off (off + n)).toList.all leaf = true := by
   refine List.all_eq_true.2 fun v hv => List.all_eq_true.1 h v ?_
   simp only [Array.toList_extract, List.extract] at hv
   exact List.mem_of_mem_drop (List.mem_of_mem_take hv)
  simp only [flat1, Bool.or_eq_true]
  exact .inr this
 ·cases e : x[off]? with
  | none => exact .stuck
  | some v =>
   refine .pure fun q1 l1 => ⟨rfl, ?_⟩
   have hv : leaf v = true := List.all_eq_true.1 h v (List.mem_of_getElem? (l := x.toList) (i := off) (by simpa using e))
   simp only [flat1, Bool.or_eq_true]
   exact .inl hv
theorem Sim.typeStr (t : TypeId) : Sim C p EqA (Go.typeStr t) (Go.typeStr t) := by
 unfold Go.typeStr
 refine (Sim.infoE t).bindE fun q l i => ?_
 dsimp only
 split
 ·exact .unsupported
 ·exact .pure fun _ _ => rfl
theorem frozen_cases (P : Program) (G : Nat) (s : St) (a : Addr) : arun P G (Go.frozen a) s = none ∨ ∃ c e fr, s.h.get a.block = some (.cells c e fr) ∧ a.off < c.size ∧ arun P G (Go.frozen a) s = some (.ok false, s.read a.block) := by
 simp only [Go.frozen, arun]
 split
 ·rename_i c e fr h
  split
  ·rename_i hl; exact .inr ⟨c, e, fr, h, hl.1, rfl⟩
  ·exact .inl rfl
 ·exact .inl rfl
theorem shape_cases (P : Program) (G : Nat) (s : St) (r : Nat) : arun P G (Go.shape r) s = none ∨ ∃ c e, s.h.get r = some (.cells c e (0, 0)) ∧ arun P G (Go.shape r) s = some (.ok (some (e, c.size)), s.read r) := by
 simp only [Go.shape, arun]
 split
 ·rename_i c e fr h
  split
  ·rename_i hl
   have hl : fr = (0, 0) := by simpa using hl
   subst hl
   exact .inr ⟨c, e, h, rfl⟩
  ·exact .inl rfl
 ·exact .inl rfl
theorem stringish_none {P : Program} {G : Nat} (s : St) (a : Addr) : arun P G (Go.stringish a) s = none := by
 unfold Go.stringish
 rw [arun_bind]
 rcases frozen_cases P G s a with h | ⟨c, e, fr, h1, h2, h⟩
 ·rw [h]
 ·rw [h]
  simp only [Bool.false_eq_true, if_false]
  rw [arun_bind]
  rcases shape_cases P G (s.read a.block) a.block with h | ⟨c', e', h3, h⟩
  ·rw [h]
  ·rw [h]
   dsimp only
   rcases frozen_cases P G ((s.read a.block).read a.block) { block := a.block, off := c'.size } with h | ⟨c2, e2, fr2, h4, h5, h⟩
   ·rw [h]
   ·simp only [St.read] at h3 h4
    rw [h3] at h4; cases h4
    simp at h5
theorem mayBeOne_none {P : Program} {G : Nat} (s : St) (a b : Addr) : arun P G (Go.mayBeOne a b) s = none := by
 unfold Go.mayBeOne
 simp only [arun_bind, stringish_none]
theorem noView_cases (P : Program) (G : Nat) (s : St) (a : Addr) : arun P G (noView a) s = none ∨ arun P G (noView a) s = some (.ok (), s.read a.block) := by
 unfold noView viewAt
 rw [arun_bind, arun_bind]
 rcases shape_cases P G s a.block with h | ⟨c', e', h3, h⟩
 ·rw [h]; exact .inl rfl
 ·rw [h]; exact .inr rfl
theorem sameAddr_none {P : Program} {G : Nat} {a b : Addr} (h : a.block ≠ b.block) (s : St) : arun P G (Go.sameAddr a b) s = none := by
 unfold Go.sameAddr
 have h' : (a.block == b.block) = false := by simpa using h
 simp only [h', Bool.false_eq_true, if_false]
 rw [arun_bind]
 rcases frozen_cases P G s a with h | ⟨c, e, fr, h1, h2, h⟩
 ·rw [h]
 ·rw [h]
  dsimp only
  rw [arun_bind]
  rcases frozen_cases P G (s.read a.block) b with h | ⟨c, e, fr, h1, h2, h⟩
  ·rw [h]
  ·rw [h]
   dsimp only
   simp only [Bool.false_and, Bool.false_eq_true, if_false]
   rw [arun_bind]
   rcases noView_cases P G ((s.read a.block).read b.block) a with h | h
   ·rw [h]
   ·rw [h]
    dsimp only
    rw [arun_bind]
    rcases noView_cases P G (((s.read a.block).read b.block).read a.block) b with h | h
    ·rw [h]
    ·rw [h]
     dsimp only
     rw [arun_bind, mayBeOne_none]
theorem Sim.sameAddr {a a' b b' : Addr} (h : AR p a a') (k : AR p b b') : Sim C p EqA (Go.sameAddr a b) (Go.sameAddr a' b') := by
 by_cases e : a.block = b.block
 ·unfold Go.sameAddr
  have e' : a'.block = b'.block := by
   obtain ⟨⟨k1, h1⟩, _⟩ := h
   obtain ⟨⟨k2, h2⟩, _⟩ := k
   rw [e, h2] at h1; injection h1 with h1; injection h1 with h1; exact h1.symm
  simp only [e, e', BEq.rfl, if_true]
  refine .pure fun _ _ => ?_
  show (a == b) = (a' == b')
  rw [Bool.eq_iff_iff, beq_iff_eq, beq_iff_eq]
  obtain ⟨_, h2, h3⟩ := h
  obtain ⟨_, k2, k3⟩ := k
  cases a; cases a'; cases b; cases b'
  simp only at *
  subst h2 h3 k2 k3
  simp [e, e']
 ·exact .no (sameAddr_none e)
def EqOk (P : Program) (t : TypeId) (x y : Value) : Prop := (flat1 x = true ∧ flat1 y = true) ∨ leaf x = true ∨ leaf y = true ∨ ∃ e, P.underlying t = some (.pointer e)
theorem Sim.equalIn : ∀ (d : Nat) (t : TypeId) {x x' y y' : Value}, EqOk C.P t x y → VR p x x' → VR p y y' → Sim C p EqA (Op.equalIn d t x y) (Op.equalIn d t x' y') := by
 intro d
 induction d generalizing p with
 | zero => intros; exact .unsupported
 | succ d ih =>
  intro t x x' y y' hok hx hy
  unfold Op.equalIn
  refine (Sim.under t).bind fun q l d d' hd => ?_
  obtain ⟨rfl, hd⟩ := hd
  replace hx := hx.le l
  replace hy := hy.le l
  have ix := hx.inv
  have iy := hy.inv
  split
  ·obtain rfl := ix; obtain rfl := iy; exact .pure fun _ _ => rfl
  ·obtain rfl := ix; obtain rfl := iy
   exact .ite (fun _ => .pure fun _ _ => rfl) fun _ => .stuck
  ·obtain ⟨b, rfl, _⟩ := ix; obtain rfl := iy; exact .pure fun _ _ => rfl
  ·obtain ⟨b, rfl, _⟩ := iy; obtain rfl := ix; exact .pure fun _ _ => rfl
  ·exfalso
   rcases hok with ⟨h, _⟩ | h | h | ⟨e, h⟩
   ·cases h
   ·cases h
   ·cases h
   ·rw [hd] at h; cases h
  ·exact .unsupported
  ·exact .unsupported
  ·obtain rfl := ix; obtain rfl := iy
   exact .ite (fun _ => .pure fun _ _ => rfl) fun _ => .stuck
  ·obtain rfl := ix; obtain rfl := iy
   exact .ite (fun _ => .pure fun _ _ => rfl) fun _ => .stuck
  ·obtain rfl := ix; obtain rfl := iy; exact .pure fun _ _ => rfl
  ·obtain rfl := ix
   rename_i b
   cases b with
   | none => obtain rfl := iy; exact .pure fun _ _ => rfl
   | some b => obtain ⟨b', rfl, _⟩ := iy; exact .pure fun _ _ => rfl
  ·obtain rfl := iy
   rename_i a hno
   cases a with
   | none => simp at hno
   | some b => obtain ⟨b', rfl, _⟩ := ix; exact .pure fun _ _ => rfl
  ·obtain ⟨b1, rfl, h1⟩ := ix
   obtain ⟨b2, rfl, h2⟩ := iy
   refine (Sim.sizeOf _).bindE fun q1 l1 n => ?_
   refine .ite (fun _ => Sim.sameAddr (h1.le l1) (h2.le l1)) fun _ => ?_
   rename_i elem a b hn
   by_cases hb : a.block = b.block
   ·have e1 : (a == b) = (b1 == b2) := by
     rw [Bool.eq_iff_iff, beq_iff_eq, beq_iff_eq]
     obtain ⟨⟨k1, g1⟩, h2', h3⟩ := h1
     obtain ⟨⟨k2, g2⟩, k2', k3⟩ := h2
     rw [hb, g2] at g1; injection g1 with g1; injection g1 with g1
     cases a; cases b; cases b1; cases b2
     simp only at *
     subst h2' h3 k2' k3 g1
     simp [hb]
    rw [e1]
    refine .ite (fun _ => .pure fun _ _ => rfl) fun _ => ?_
    exact (Sim.choose _).bind (B := EqA) fun q l a b e => by cases e; exact .pure fun _ _ => rfl
   ·refine .no fun s => ?_
    have : (a == b) = false := by
     rw [beq_eq_false_iff_ne]; intro e; exact hb (by rw [e])
    rw [this]
    rfl
  ·rename_i a b
   cases a with
   | none =>
    obtain rfl := ix
    cases b with
    | none => obtain rfl := iy; exact .pure fun _ _ => rfl
    | some b => obtain ⟨b', rfl, _⟩ := iy; exact .pure fun _ _ => rfl
   | some a =>
    obtain ⟨a', rfl, ha⟩ := ix
    cases b with
    | none => obtain rfl := iy; exact .pure fun _ _ => rfl
    | some b => obtain ⟨b', rfl, hb⟩ := iy; exact Sim.sameAddr ha hb
  ·rename_i a b
   cases a with
   | some a => exact ix.elim
   | none =>
    obtain rfl := ix
    cases b with
    | some b => exact iy.elim
    | none => obtain rfl := iy; exact .pure fun _ _ => rfl
  ·obtain rfl := ix; obtain rfl := iy; exact .pure fun _ _ => rfl
  ·obtain ⟨u, rfl, _⟩ := iy; obtain rfl := ix; exact .pure fun _ _ => rfl
  ·obtain ⟨u, rfl, _⟩ := ix; obtain rfl := iy; exact .pure fun _ _ => rfl
  ·obtain ⟨u, rfl, hu⟩ := ix
   obtain ⟨v, rfl, hv⟩ := iy
   refine .ite (fun _ => .pure fun _ _ => rfl) fun _ => ?_
   refine (Sim.infoE _).bindE fun q1 l1 i => ?_
   refine .ite (fun _ => ?_) fun _ => ?_
   ·refine Sim.askProgram.bind fun q2 l2 P1 P2 hP => ?_
    obtain ⟨rfl, rfl⟩ := hP
    refine Sim.askProgram.bind fun q3 l3 P1 P2 hP => ?_
    obtain ⟨rfl, rfl⟩ := hP
    dsimp only
    split
    ·exact .no fun s => rfl
    ·exact (Sim.typeStr _).bindE fun q4 l4 s => Sim.runtimePanic _
   ·refine ih _ ?_ (hu.le l1) (hv.le l1)
    rcases hok with ⟨h, k⟩ | h | h | ⟨e, h⟩
    ·simp only [flat1, leaf, Bool.false_or] at h k
     exact .inr (.inl h)
    ·cases h
    ·cases h
    ·rw [hd] at h; cases h
  ·obtain ⟨u, rfl, hu⟩ := ix
   obtain ⟨v, rfl, hv⟩ := iy
   rename_i fields xs ys
   have hfl : xs.toList.all leaf = true ∧ ys.toList.all leaf = true := by
    rcases hok with ⟨h, k⟩ | h | h | ⟨e, h⟩
    ·simpa only [flat1, leaf, Bool.false_or] using And.intro h k
    ·cases h
    ·cases h
    ·rw [hd] at h; cases h
   obtain rfl := leafs_eq hfl.1 hu
   obtain rfl := leafs_eq hfl.2 hv
   refine Sim.askProgram.bind fun q2 l2 P1 P2 hP => ?_
   obtain ⟨rfl, rfl⟩ := hP
   dsimp only
   split
   ·exact .no fun s => rfl
   ·refine Sim.bindE (e := forIn fields (none, ()) _) ?_ fun q3 l3 r => ?_
    ·rw [← Array.forIn_toList]
     refine Sim.loopE _ _ fun q3 l3 f _ b => ?_
     refine .ite (fun _ => ?_) fun _ => .pure fun _ _ => rfl
     refine (Sim.partE hfl.1 _ _).bind fun q4 l4 a a' h => ?_
     obtain ⟨rfl, ha⟩ := h
     refine (Sim.partE hfl.2 _ _).bind fun q4 l4 b b' h => ?_
     obtain ⟨rfl, hb⟩ := h
     exact (ih _ (.inl ⟨ha, hb⟩) (VR.of_flat ha) (VR.of_flat hb)).bindE fun q l r => .ite (fun _ => .pure fun _ _ => rfl) fun _ => .pure fun _ _ => rfl
    ·split <;> exact .pure fun _ _ => rfl
  ·obtain ⟨u, rfl, hu⟩ := ix
   obtain ⟨v, rfl, hv⟩ := iy
   rename_i len elem xs ys
   have hfl : xs.toList.all leaf = true ∧ ys.toList.all leaf = true := by
    rcases hok with ⟨h, k⟩ | h | h | ⟨e, h⟩
    ·simpa only [flat1, leaf, Bool.false_or] using And.intro h k
    ·cases h
    ·cases h
    ·rw [hd] at h; cases h
   obtain rfl := leafs_eq hfl.1 hu
   obtain rfl := leafs_eq hfl.2 hv
   refine (Sim.sizeOf _).bindE fun q2 l2 n => ?_
   refine Sim.bindE (e := forIn [:len] (none, ()) _) ?_ fun q3 l3 r => ?_
   ·rw [Std.Legacy.Range.forIn_eq_forIn_range']
    refine Sim.loopE _ _ fun q3 l3 f _ b => ?_
    refine (Sim.partE hfl.1 _ _).bind fun q4 l4 a a' h => ?_
    obtain ⟨rfl, ha⟩ := h
    refine (Sim.partE hfl.2 _ _).bind fun q4 l4 b b' h => ?_
    obtain ⟨rfl, hb⟩ := h
    exact (ih _ (.inl ⟨ha, hb⟩) (VR.of_flat ha) (VR.of_flat hb)).bindE fun q l r => .ite (fun _ => .pure fun _ _ => rfl) fun _ => .pure fun _ _ => rfl
   ·dsimp only
    split <;> exact .pure fun _ _ => rfl
  ·obtain rfl := ix
   rename_i b _ _
   cases b with
   | none => obtain rfl := iy; exact .pure fun _ _ => rfl
   | some b => obtain ⟨b', c', rfl, _⟩ := iy; exact .pure fun _ _ => rfl
  ·obtain rfl := iy
   rename_i a _ _ _ _ hno
   cases a with
   | none => simp at hno
   | some b => obtain ⟨b', c', rfl, _⟩ := ix; exact .pure fun _ _ => rfl
  ·obtain rfl := ix
   rename_i b
   cases b with
   | none => obtain rfl := iy; exact .pure fun _ _ => rfl
   | some b => obtain ⟨b', c', rfl, _⟩ := iy; exact .pure fun _ _ => rfl
  ·obtain rfl := iy
   rename_i a hno
   cases a with
   | none => simp at hno
   | some b => obtain ⟨b', c', rfl, _⟩ := ix; exact .pure fun _ _ => rfl
  ·obtain rfl := ix; obtain rfl := iy; exact .pure fun _ _ => rfl
  ·obtain ⟨_, _, rfl, _⟩ := iy; obtain rfl := ix; exact .pure fun _ _ => rfl
  ·obtain ⟨_, _, rfl, _⟩ := ix; obtain rfl := iy; exact .pure fun _ _ => rfl
  ·exact .stuck
theorem Sim.equal {t : TypeId} {x x' y y' : Value} (h : EqOk C.P t x y) (hx : VR p x x') (hy : VR p y y') : Sim C p EqA (Op.equal t x y) (Op.equal t x' y') := Sim.equalIn _ t h hx hy
theorem Sim.eqGuardIn : ∀ (d : Nat) (t : TypeId) {x y : Value}, flat1 x = true → flat1 y = true → Sim C p EqA (Op.eqGuardIn d t x y) (Op.eqGuardIn d t x y) := by
 intro d
 induction d generalizing p with
 | zero => intros; exact .unsupported
 | succ d ih =>
  intro t x y hx hy
  unfold Op.eqGuardIn
  refine (Sim.underE t).bindE fun q l d => ?_
  split
  ·exact .pure fun _ _ => rfl
  ·rename_i fields xs ys
   have hfl : xs.toList.all leaf = true ∧ ys.toList.all leaf = true := by simpa only [flat1, leaf, Bool.false_or] using And.intro hx hy
   refine Sim.bindE (e := forIn fields (none, ()) _) ?_ fun q3 l3 r => ?_
   ·rw [← Array.forIn_toList]
    refine Sim.loopE _ _ fun q3 l3 f _ b => ?_
    refine .ite (fun _ => ?_) fun _ => .pure fun _ _ => rfl
    refine (Sim.partE hfl.1 _ _).bind fun q4 l4 a a' h => ?_
    obtain ⟨rfl, ha⟩ := h
    refine (Sim.partE hfl.2 _ _).bind fun q4 l4 b b' h => ?_
    obtain ⟨rfl, hb⟩ := h
    exact (ih _ ha hb).bindE fun q l r => .ite (fun _ => .pure fun _ _ => rfl) fun _ => .pure fun _ _ => rfl
   ·dsimp only
    split <;> exact .pure fun _ _ => rfl
  ·rename_i len elem xs ys
   have hfl : xs.toList.all leaf = true ∧ ys.toList.all leaf = true := by simpa only [flat1, leaf, Bool.false_or] using And.intro hx hy
   refine (Sim.sizeOf _).bindE fun q2 l2 n => ?_
   refine Sim.bindE (e := forIn [:len] (none, ()) _) ?_ fun q3 l3 r => ?_
   ·rw [Std.Legacy.Range.forIn_eq_forIn_range']
    refine Sim.loopE _ _ fun q3 l3 f _ b => ?_
    refine (Sim.partE hfl.1 _ _).bind fun q4 l4 a a' h => ?_
    obtain ⟨rfl, ha⟩ := h
    refine (Sim.partE hfl.2 _ _).bind fun q4 l4 b b' h => ?_
    obtain ⟨rfl, hb⟩ := h
    exact (ih _ ha hb).bindE fun q l r => .ite (fun _ => .pure fun _ _ => rfl) fun _ => .pure fun _ _ => rfl
   ·dsimp only
    split <;> exact .pure fun _ _ => rfl
  ·exact .pure fun _ _ => rfl
end
end Go.Ex
namespace Go.Ex
open Go.RowKit
section
variable {C : Cx} {α β : Type} {p : Rn} {A : Rn → α → α → Prop} {B : Rn → β → β → Prop}
theorem Sim.mapL {γ δ : Type} {f f' : γ → Sem δ} : ∀ (l : List γ), (∀ q, Le p q → ∀ x ∈ l, Sim C q EqA (f x) (f' x)) → Sim C p EqA (l.mapM f) (l.mapM f') := by
 intro l
 induction l generalizing p with
 | nil => intro _; exact .pure fun _ _ => rfl
 | cons x l ih =>
  intro h
  rw [List.mapM_cons, List.mapM_cons]
  refine (h p (Le.refl _) x (by simp)).bind fun q lq v v' e => ?_
  cases e
  refine (ih fun q1 l1 y hy => h q1 (lq.trans l1) y (by simp [hy])).bind fun q1 l1 v v' e => ?_
  cases e
  exact .pure fun _ _ => rfl
theorem Sim.mapA {γ δ : Type} {f f' : γ → Sem δ} (l : Array γ) (h : ∀ q, Le p q → ∀ x ∈ l, Sim C q EqA (f x) (f' x)) : Sim C p EqA (l.mapM f) (l.mapM f') := by
 rw [Array.mapM_eq_mapM_toList, Array.mapM_eq_mapM_toList, ← bind_pure_comp, ← bind_pure_comp]
 exact (Sim.mapL _ fun q l x hx => h q l x (by simpa using hx)).bind fun q l v v' e => by cases e; exact .pure fun _ _ => rfl
def PL (p : Rn) (l l' : List (Nat × Value)) : Prop := l.length = l'.length ∧ ∀ (i : Nat) (u v : Nat × Value), l[i]? = some u → l'[i]? = some v → u.1 = v.1 ∧ VR p u.2 v.2
theorem PL.le {q : Rn} {l l' : List (Nat × Value)} (h : PL p l l') (k : Le p q) : PL q l l' := ⟨h.1, fun i u v a b => ⟨(h.2 i u v a b).1, (h.2 i u v a b).2.le k⟩⟩
theorem fold_rel (off : Nat) : ∀ (l l' : List Value) (k : Nat) (c c' : Array Value), Arr (VR p) l.toArray l'.toArray → Arr (VR p) c c' →
 Arr (VR p) ((l.zipIdx k).foldl (fun cs (x : Value × Nat) => cs.setIfInBounds (off + x.2) x.1) c) ((l'.zipIdx k).foldl (fun cs (x : Value × Nat) => cs.setIfInBounds (off + x.2) x.1) c') := by
 intro l
 induction l with
 | nil =>
  intro l' k c c' h hc
  have : l' = [] := List.eq_nil_of_length_eq_zero (by simpa using h.1.symm)
  subst this
  exact hc
 | cons x l ih =>
  intro l' k c c' h hc
  cases l' with
  | nil => simp [Arr] at h
  | cons y l' =>
   simp only [List.zipIdx_cons, List.foldl_cons]
   refine ih l' (k + 1) _ _ ⟨by simpa using h.1, fun j u v e f => h.2 (j + 1) u v (by simpa using e) (by simpa using f)⟩ (hc.set (h.2 0 x y (by simp) (by simp)) _)
theorem fill_rel {place : Nat → Option (Nat × Nat)} : ∀ (l l' : List (Nat × Value)) (c c' : Array Value), PL p l l' → Arr (VR p) c c' →
 (∃ r r', Instr.fill place c l = some r ∧ Instr.fill place c' l' = some r' ∧ Arr (VR p) r r') ∨ Instr.fill place c l = none := by
 intro l
 induction l with
 | nil =>
  intro l' c c' h hc
  have : l' = [] := List.eq_nil_of_length_eq_zero h.1.symm
  subst this
  exact .inl ⟨c, c', rfl, rfl, hc⟩
 | cons x l ih =>
  intro l' c c' h hc
  cases l' with
  | nil => simp [PL] at h
  | cons y l' =>
   obtain ⟨i, v⟩ := x
   obtain ⟨j, u⟩ := y
   obtain ⟨h1, h2⟩ := h.2 0 (i, v) (j, u) rfl rfl
   simp only at h1 h2
   subst h1
   unfold Instr.fill
   cases hp : place i with
   | none => exact .inr rfl
   | some os =>
    obtain ⟨off, size⟩ := os
    dsimp only
    have hcl := h2.cells
    rw [← hcl.1, ← hc.1]
    split
    ·exact .inr rfl
    ·refine ih l' _ _ ⟨by simpa using h.1, fun j u v e f => h.2 (j + 1) u v (by simpa using e) (by simpa using f)⟩ ?_
     have := fold_rel (p := p) off v.cells.toList u.cells.toList 0 c c' (by simpa using hcl) hc
     rw [← Array.foldl_toList, ← Array.foldl_toList, Array.toList_zipIdx, Array.toList_zipIdx]
     exact this
theorem Sim.build (hz : Zok C.P) (t : TypeId) {l l' : Array (Nat × Value)} (h : PL p l.toList l'.toList) : Sim C p VR (Instr.build t l) (Instr.build t l') := by
 unfold Instr.build
 refine (Sim.zero hz t).bind fun q lq z z' hzz => ?_
 refine (Sim.underE t).bindE fun q1 l1 d => ?_
 have hc := (hzz.le l1).cells
 have hl := (h.le lq).le l1
 split
 ·refine (Sim.mapA _ fun q2 l2 x _ => ?_).bindE fun q2 l2 places => ?_
  ·exact (Sim.sizeOf _).bindE fun _ _ n => .pure fun _ _ => rfl
  ·rcases fill_rel (place := (places[·]?)) l.toList l'.toList _ _ (hl.le l2) (hc.le l2) with ⟨r, r', e1, e2, e3⟩ | e1
   ·simp only [e1, e2]
    exact .pure fun q3 l3 => (VR.cl _).agg _ _ (e3.le l3)
   ·simp only [e1]
    exact .stuck
 ·refine (Sim.sizeOf _).bindE fun q2 l2 size => ?_
  rcases fill_rel (place := fun i => some (i * size, size)) l.toList l'.toList _ _ (hl.le l2) (hc.le l2) with ⟨r, r', e1, e2, e3⟩ | e1
  ·simp only [e1, e2]
   exact .pure fun q3 l3 => (VR.cl _).agg _ _ (e3.le l3)
  ·simp only [e1]
   exact .stuck
 ·exact .stuck
theorem VR.default (p : Rn) : VR p default default := VR.of_flat (by decide)
theorem zeroMap_rel {z z' : Array Value} (h : Arr (VR p) z z') (n : Nat) : Arr (VR p) ((Array.range n).map (z[· % z.size]!)) ((Array.range n).map (z'[· % z'.size]!)) := by
 refine Arr.map fun i _ => ?_
 rw [h.1]
 simp only [getElem!_def]
 cases e : z[i % z'.size]? with
 | none => rw [h.none e]; exact VR.default p
 | some v => obtain ⟨u, e2, hv⟩ := h.get e; rw [e2]; exact hv
theorem VR.sl {a b : Addr} (h : AR p a b) (n c : Nat) (hc : c < unk) : VR p (.slice (some a) n c) (.slice (some b) n c) := (VR.cl p).sl a b n c hc h
theorem Sim.zeroCells (hz : Zok C.P) (t : TypeId) (n : Nat) : Sim C p ArrA (if n = 0 then Pure.pure #[] else do Pure.pure (← zeroValue t).cells) (if n = 0 then Pure.pure #[] else do Pure.pure (← zeroValue t).cells) := by
 refine .ite (fun _ => .pure fun _ _ => .nil) fun _ => ?_
 exact (Sim.zero hz t).bind fun q l z z' h => .pure fun q1 l1 => h.cells.le l1
theorem Sim.buildSlice (hz : Zok C.P) (t : TypeId) (len : Nat) (hlen : len < unk) {l l' : Array (Nat × Value)} (h : PL p l.toList l'.toList) : Sim C p VR (Instr.buildSlice t len l) (Instr.buildSlice t len l') := by
 unfold Instr.buildSlice
 refine (Sim.underE t).bindE fun q lq d => ?_
 split
 ·rename_i elem
  refine (Sim.sizeOf _).bindE fun q1 l1 size => ?_
  dsimp only
  split
  ·exact .no fun s => rfl
  ·split
   ·rename_i hs
    have hh : Sim C q1 ArrA (Pure.pure #[]) (Pure.pure #[]) := .pure fun _ _ => .nil
    refine hh.bind fun q2 l2 z z' hzz => ?_
    rcases fill_rel (place := fun i => some (i * size, size)) l.toList l'.toList _ _ (((h.le lq).le l1).le l2) (zeroMap_rel hzz (len * size)) with ⟨r, r', e1, e2, e3⟩ | e1
    ·simp only [e1, e2]
     exact (Sim.newRow e3 _).bind fun q3 l3 a b hab => .pure fun q4 l4 => VR.sl (hab.le l4) _ _ hlen
    ·simp only [e1]
     exact .stuck
   ·refine (Sim.zero hz elem).bind fun q0 l0 z z' hz0 => ?_
    have hh : Sim C q0 ArrA (Pure.pure z.cells) (Pure.pure z'.cells) := .pure fun _ l => hz0.cells.le l
    refine hh.bind fun q2 l2 z z' hzz => ?_
    replace l2 := l0.trans l2
    rcases fill_rel (place := fun i => some (i * size, size)) l.toList l'.toList _ _ (((h.le lq).le l1).le l2) (zeroMap_rel hzz (len * size)) with ⟨r, r', e1, e2, e3⟩ | e1
    ·simp only [e1, e2]
     exact (Sim.newRow e3 _).bind fun q3 l3 a b hab => .pure fun q4 l4 => VR.sl (hab.le l4) _ _ hlen
    ·simp only [e1]
     exact .stuck
 ·exact .stuck
theorem Sim.field {x x' : Value} (h : VR p x x') (t : TypeId) (f : Nat) : Sim C p VR (Instr.field t x f) (Instr.field t x' f) := by
 unfold Instr.field
 refine (Sim.underE t).bindE fun q lq d => ?_
 split
 ·split
  ·exact (Sim.asAgg (h.le lq)).bind fun q1 l1 a b hab => Sim.part hab _ _
  ·exact .stuck
 ·exact .stuck
theorem Sim.index {x x' i i' : Value} (h : VR p x x') (hi : VR p i i') (t : TypeId) : Sim C p VR (Instr.index t x i) (Instr.index t x' i') := by
 unfold Instr.index
 refine (Sim.asIntOf hi).bind fun q lq k k' e => ?_
 cases e
 obtain ⟨k, n⟩ := k
 refine (Sim.underE t).bindE fun q1 l1 d => ?_
 have h := (h.le lq).le l1
 have ix := h.inv
 split
 ·obtain ⟨y, rfl, hy⟩ := ix
  refine .ite (fun _ => ?_) fun _ => Sim.boundsPanic _ _ _ _
  exact (Sim.sizeOf _).bindE fun q2 l2 m => Sim.part (hy.le l2) _ _
 ·obtain rfl := ix
  dsimp only
  split
  ·exact .pure fun q l => VR.int _ _ _
  ·exact Sim.boundsPanic _ _ _ _
 ·exact .stuck
theorem Sim.sliceBound {x x' : Value} (h : VR p x x') (y : Nat) (c : BoundsCode) : Sim C p (fun _ a b => a = b ∧ a ≤ y) (Instr.sliceBound x y c) (Instr.sliceBound x' y c) := by
 unfold Instr.sliceBound
 refine (Sim.asIntOf h).bind fun q lq k k' e => ?_
 cases e
 obtain ⟨k, n⟩ := k
 exact .ite (fun h => .pure fun _ _ => ⟨rfl, by omega⟩) fun _ => Sim.boundsPanic _ _ _ _
theorem Sim.bindB {x x' : Value} (h : VR p x x') (y : Nat) (c : BoundsCode) {f f' : Nat → Sem β} (k : ∀ q, Le p q → ∀ v, v ≤ y → Sim C q B (f v) (f' v)) : Sim C p B (Instr.sliceBound x y c >>= f) (Instr.sliceBound x' y c >>= f') :=
 (Sim.sliceBound h y c).bind fun q l a b h => by obtain ⟨rfl, h⟩ := h; exact k q l a h
theorem Sim.pureB (y : Nat) {f f' : Nat → Sem β} (k : ∀ q, Le p q → ∀ v, v ≤ y → Sim C q B (f v) (f' v)) : Sim C p B (Pure.pure y >>= f) (Pure.pure y >>= f') := k p (Le.refl _) y (Nat.le_refl _)
def OV (p : Rn) : Option Value → Option Value → Prop
 | none, none => True
 | some v, some u => VR p v u
 | _, _ => False
theorem OV.le {q : Rn} {x y : Option Value} (h : OV p x y) (l : Le p q) : OV q x y := by
 cases x <;> cases y <;> first | exact h | exact VR.le h l
theorem Sim.sliceBounds {lo lo' hi hi' mx mx' : Option Value} (h1 : OV p lo lo') (h2 : OV p hi hi') (h3 : OV p mx mx') (b : Bool) (n c : Nat) :
 Sim C p (fun _ x y => x = y ∧ x.2.2 ≤ c) (Instr.sliceBounds b n c lo hi mx) (Instr.sliceBounds b n c lo' hi' mx') := by
 unfold Instr.sliceBounds
 cases mx <;> cases mx' <;> (try exact h3.elim) <;> cases hi <;> cases hi' <;> (try exact h2.elim) <;> cases lo <;> cases lo' <;> (try exact h1.elim)
 all_goals first
  | refine Sim.bindB h3 _ _ fun q lq m hm => ?_
  | refine Sim.pureB c fun q lq m hm => ?_
 all_goals first
  | exact .no fun s => rfl
  | refine Sim.bindB (VR.le h2 lq) _ _ fun q1 l1 h _ => ?_
  | refine Sim.bindX (e := Pure.pure _) (e' := Pure.pure _) (.pure fun _ _ => rfl) fun q1 l1 m => ?_
 all_goals first
  | exact Sim.bindB (VR.le h1 (lq.trans l1)) _ _ fun q2 l2 h _ => .pure fun _ _ => ⟨rfl, by assumption⟩
  | exact .pure fun _ _ => ⟨rfl, by assumption⟩
theorem Sim.bindS {lo lo' hi hi' mx mx' : Option Value} (h1 : OV p lo lo') (h2 : OV p hi hi') (h3 : OV p mx mx') (b : Bool) (n c : Nat) {f f' : Nat × Nat × Nat → Sem β} (k : ∀ q, Le p q → ∀ v : Nat × Nat × Nat, v.2.2 ≤ c → Sim C q B (f v) (f' v)) :
 Sim C p B (Instr.sliceBounds b n c lo hi mx >>= f) (Instr.sliceBounds b n c lo' hi' mx' >>= f') :=
 (Sim.sliceBounds h1 h2 h3 b n c).bind fun q l a b h => by obtain ⟨rfl, h⟩ := h; exact k q l a h
def known : Value → Bool
 | .slice (some _) _ c => c != unk
 | _ => true
theorem Sim.slice {x x' : Value} {lo lo' hi hi' mx mx' : Option Value} (hk : known x = true) {t : TypeId} (hnp : ∀ e, C.P.underlying t ≠ some (.pointer e)) (h : VR p x x') (h1 : OV p lo lo') (h2 : OV p hi hi') (h3 : OV p mx mx') :
 Sim C p VR (Instr.slice t x lo hi mx) (Instr.slice t x' lo' hi' mx') := by
 unfold Instr.slice
 refine (Sim.under t).bind fun q lq d d' hd => ?_
 obtain ⟨rfl, hd⟩ := hd
 have h := h.le lq
 have ix := h.inv
 replace h1 := h1.le lq
 replace h2 := h2.le lq
 replace h3 := h3.le lq
 split
 ·obtain rfl := ix
  have : mx.isSome = mx'.isSome := by cases mx <;> cases mx' <;> first | rfl | exact h3.elim
  rw [this]
  dsimp only
  split
  ·exact .no fun s => rfl
  ·refine Sim.bindS h1 h2 (show OV q none none from trivial) _ _ _ fun q1 l1 r _ => ?_
   exact .pure fun _ _ => VR.str _ _
 ·rename_i elem a len cap _
  cases a with
  | none =>
   obtain rfl := ix
   refine Sim.bindS h1 h2 h3 _ _ _ fun q1 l1 r _ => ?_
   refine (Sim.sizeOf _).bindE fun q2 l2 n => .pure fun q l => ?_
   refine VR.of_leaf ?_
   split <;> rfl
  | some a =>
   obtain ⟨b, c', rfl, hab, hc⟩ := ix
   have hc : c' = cap ∧ cap < unk := by
    rcases hc with h | ⟨h, _⟩
    ·exact h
    ·subst h; simp [known] at hk
   obtain ⟨rfl, hcu⟩ := hc
   refine Sim.bindS h1 h2 h3 _ _ _ fun q1 l1 r hr => ?_
   refine (Sim.sizeOf _).bindE fun q2 l2 n => .pure fun q3 l3 => ?_
   have hab := ((hab.le l1).le l2).le l3
   obtain ⟨l, h, m⟩ := r
   (try dsimp only)
   simp only at hr
   split
   ·exact VR.sl hab _ _ (by omega)
   ·exact VR.sl (hab.add _) _ _ (by omega)
 ·exact (hnp _ hd).elim
 ·exact .stuck
theorem Sim.noView {a b : Addr} (h : AR p a b) : Sim C p (fun _ _ _ => True) (Go.noView a) (Go.noView b) := by
 unfold Go.noView Go.viewAt
 obtain ⟨⟨k, hk⟩, _⟩ := h
 refine Sim.bind (A := fun _ x y => x = none ∧ y = none) ?_ fun q l x y h => ?_
 ·refine (Sim.shape hk).bindX fun q l v => ?_
  (try dsimp only)
  split
  ·exact .pure fun _ _ => ⟨rfl, rfl⟩
  ·refine (Sim.getObj (l _ _ hk)).bind fun q1 l1 o o' h => ?_
   obtain ⟨h1, h2⟩ := h
   cases o with
   | map es cl => obtain ⟨es', rfl, _⟩ := h1; exact .pure fun _ _ => ⟨rfl, rfl⟩
   | mapIter m x y z => cases m with
    | none => obtain rfl := h1; exact .pure fun _ _ => ⟨rfl, rfl⟩
    | some r => obtain ⟨r', k', rfl, _⟩ := h1; exact .pure fun _ _ => ⟨rfl, rfl⟩
   | stringIter s n => obtain rfl := h1; exact .pure fun _ _ => ⟨rfl, rfl⟩
   | _ => cases h2
 ·obtain ⟨rfl, rfl⟩ := h
  exact .pure fun _ _ => trivial
theorem Sim.byteOf {a b : Addr} (h : AR p a b) : Sim C p EqA (Go.byteOf a) (Go.byteOf b) := by
 unfold Go.byteOf
 rw [h.2.2]
 split
 ·exact .pure fun _ _ => rfl
 ·refine Sim.askProgram.bind fun q2 l2 P1 P2 hP => ?_
  obtain ⟨rfl, rfl⟩ := hP
  refine (Sim.noView (h.le l2)).bind fun q3 l3 _ _ _ => ?_
  obtain ⟨⟨k, hk⟩, h2, _⟩ := (h.le l2).le l3
  refine (Sim.shape hk).bindX fun q l v => ?_
  split
  ·rw [h2]
   (try dsimp only)
   split
   ·exact .pure fun _ _ => rfl
   ·split
    ·exact .pure fun _ _ => rfl
    ·exact .stuck
  ·exact .stuck
theorem Sim.partAt {a b : Addr} (h : AR p a b) (m n : Nat) : Sim C p (fun q a b => AR q a b) (Go.partAt a m n) (Go.partAt b m n) := by
 unfold Go.partAt
 refine (Sim.byteOf h).bindX fun q l x => ?_
 have hp : AR q { block := a.block, off := a.off + m } { block := b.block, off := b.off + m } := ⟨(h.le l).1, by simp [h.2.1], rfl⟩
 refine (Sim.byteOf hp).bindX fun q1 l1 y => ?_
 refine .pure fun q2 l2 => ?_
 split
 ·exact (hp.le l1).le l2
 ·have := (hp.le l1).le l2
  exact ⟨this.1, this.2.1, rfl⟩
theorem Sim.fieldAt {x x' : Value} (h : VR p x x') (t : TypeId) (f : Nat) : Sim C p VR (Instr.fieldAt t x f) (Instr.fieldAt t x' f) := by
 unfold Instr.fieldAt
 refine (Sim.underE t).bindE fun q lq d => ?_
 split
 ·split
  ·refine (Sim.sureAddr (h.le lq)).bind fun q1 l1 a b hab => ?_
   unfold fieldPlace
   refine Sim.bind (A := fun q a b => AR q a b) ?_ fun q2 l2 a b h => .pure fun q3 l3 => VR.ptr (h.le l3)
   refine (Sim.sizeOf _).bindE fun q3 l3 n => ?_
   exact .ite (fun _ => Sim.partAt (hab.le l3) _ _) fun _ => .pure fun q l => (hab.add _).le (l3.trans l)
  ·exact .stuck
 ·exact .stuck
theorem Sim.indexAt {x x' i i' : Value} (h : VR p x x') (hi : VR p i i') (t : TypeId) : Sim C p VR (Instr.indexAt t x i) (Instr.indexAt t x' i') := by
 unfold Instr.indexAt
 refine (Sim.asIntOf hi).bindX fun q lq k => ?_
 obtain ⟨k, n⟩ := k
 refine (Sim.underE t).bindE fun q1 l1 d => ?_
 have h := (h.le lq).le l1
 have ix := h.inv
 split
 ·refine (Sim.sureAddr h).bind fun q2 l2 a b hab => ?_
  refine (Sim.underE t).bindE fun q3 l3 d => ?_
  dsimp only
  refine .ite (fun _ => ?_) fun _ => .ite (fun _ => .unsupported) fun _ => Sim.boundsPanic _ _ _ _
  exact (Sim.sizeOf _).bindE fun q4 l4 n => .pure fun q l => VR.ptr ((((hab.le l3).le l4).le l).add _)
 ·rename_i elem a len cap _
  cases a with
  | none =>
   obtain rfl := ix
   refine (Sim.underE t).bindE fun q3 l3 d => ?_
   exact Sim.boundsPanic _ _ _ _
  | some a =>
   obtain ⟨b, c', rfl, hab, _⟩ := ix
   refine (Sim.underE t).bindE fun q3 l3 d => ?_
   dsimp only
   refine .ite (fun _ => ?_) fun _ => .ite (fun _ => .unsupported) fun _ => Sim.boundsPanic _ _ _ _
   exact (Sim.sizeOf _).bindE fun q4 l4 n => .pure fun q l => VR.ptr ((((hab.le l3).le l4).le l).add _)
 ·exact .no fun s => rfl
theorem Sim.sliceAt {x x' : Value} {lo lo' hi hi' mx mx' : Option Value} (hk : known x = true) {t : TypeId} (hnp : ∀ e, C.P.underlying t ≠ some (.pointer e)) (hna : ∀ n e, C.P.underlying t = some (.array n e) → n < unk) (h : VR p x x') (h1 : OV p lo lo') (h2 : OV p hi hi') (h3 : OV p mx mx') :
 Sim C p VR (Instr.sliceAt t x lo hi mx) (Instr.sliceAt t x' lo' hi' mx') := by
 unfold Instr.sliceAt
 refine (Sim.under t).bind fun q lq d d' hd => ?_
 obtain ⟨rfl, hd⟩ := hd
 split
 ·have hn := hna _ _ hd
  refine (Sim.sureAddr (h.le lq)).bind fun q1 l1 a b hab => ?_
  refine Sim.bindS ((h1.le lq).le l1) ((h2.le lq).le l1) ((h3.le lq).le l1) _ _ _ fun q3 l3 r hr => ?_
  obtain ⟨l, h, m⟩ := r
  refine (Sim.sizeOf _).bindE fun q4 l4 n => .pure fun q5 l5 => ?_
  have hab := ((hab.le l3).le l4).le l5
  (try dsimp only)
  simp only at hr
  split
  ·exact VR.sl hab _ _ (by omega)
  ·exact VR.sl (hab.add _) _ _ (by omega)
 ·exact Sim.slice hk hnp (h.le lq) (h1.le lq) (h2.le lq) (h3.le lq)
theorem Sim.askRoom (n : Nat) : Sim C p (fun _ _ _ => True) (Go.askRoom n) (Go.askRoom n) := by
 unfold Go.askRoom
 exact .ite (fun _ => Sim.mark) fun _ => .pure fun _ _ => trivial
theorem wrap_unk (n : Int) : (IntKind.i64.wrap n).toNat < unk := by
 have : IntKind.i64.wrap n < 9223372036854775808 := by
  simp [IntKind.wrap, IntKind.bits, IntKind.signed]
  split <;> omega
 simp only [unk]; omega
theorem Sim.makeSlice (hz : Zok C.P) {x x' y y' : Value} (h : VR p x x') (k : VR p y y') (t : TypeId) : Sim C p VR (Instr.makeSlice t x y) (Instr.makeSlice t x' y') := by
 unfold Instr.makeSlice
 refine (Sim.underE t).bindE fun q lq d => ?_
 split
 ·rename_i elem
  refine (Sim.asInt (h.le lq)).bindX fun q1 l1 len => ?_
  refine (Sim.asInt ((k.le lq).le l1)).bindX fun q2 l2 cap => ?_
  refine (Sim.infoE _).bindE fun q3 l3 i => ?_
  dsimp only
  have pt : ∀ {γ : Type} (e : RuntimeError) (f f' : γ → Sem Value), Sim C q3 VR (Go.runtimePanic e >>= f) (Go.runtimePanic e >>= f') := fun e f f' => (Sim.runtimePanic (A := fun _ _ _ => False) e).bind fun _ _ _ _ h => h.elim
  split
  ·refine .ite (fun _ => pt _ _ _) fun _ => .ite (fun _ => pt _ _ _) fun _ => ?_
   exact (Sim.choose _).bindX fun q4 l4 v => (pt _ _ _).le l4
  ·refine (Sim.askRoom _).bind fun q4 l4 _ _ _ => ?_
   refine (Sim.sizeOf _).bindE fun q5 l5 size => ?_
   split
   ·have hh : Sim C q5 ArrA (Pure.pure #[]) (Pure.pure #[]) := .pure fun _ _ => .nil
    refine hh.bind fun q2 l2 z z' hzz => ?_
    exact (Sim.newRow (zeroMap_rel hzz _) _).bind fun q3 l3 a b hab => .pure fun q4 l4 => VR.sl (hab.le l4) _ _ (wrap_unk _)
   ·refine (Sim.zero hz elem).bind fun q0 l0 z z' hz0 => ?_
    have hh : Sim C q0 ArrA (Pure.pure z.cells) (Pure.pure z'.cells) := .pure fun _ l => hz0.cells.le l
    refine hh.bind fun q2 l2 z z' hzz => ?_
    exact (Sim.newRow (zeroMap_rel hzz _) _).bind fun q3 l3 a b hab => .pure fun q4 l4 => VR.sl (hab.le l4) _ _ (wrap_unk _)
 ·exact .stuck
end
end Go.Ex
namespace Go.Ex
open Go.RowKit
section
variable {C : Cx} {α β : Type} {p : Rn} {A : Rn → α → α → Prop} {B : Rn → β → β → Prop}
theorem Sim.checkKey (b : Bool) : ∀ (d : Nat) (t : TypeId) {x : Value}, flat1 x = true → Sim C p EqA (Instr.checkKey b d t x) (Instr.checkKey b d t x) := by
 intro d
 induction d generalizing p with
 | zero => intros; exact .unsupported
 | succ d ih =>
  intro t x hx
  unfold Instr.checkKey
  refine (Sim.underE t).bindE fun q l d => ?_
  split
  ·rename_i t2 u
   refine (Sim.infoE _).bindE fun q1 l1 i => ?_
   have hx' : leaf u = true := hx
   have hu : flat1 u = true := by simp only [flat1, hx', Bool.true_or]
   have pt : ∀ {q : Rn} (e : RuntimeError) (f f' : Unit → Sem Unit), Sim C q EqA (Go.runtimePanic e >>= f) (Go.runtimePanic e >>= f') := fun e f f' => (Sim.runtimePanic (A := fun _ _ _ => False) e).bind fun _ _ _ _ h => h.elim
   dsimp only
   split
   ·split
    ·exact pt _ _ _
    ·exact (Sim.typeStr _).bindE fun q2 l2 s => pt _ _ _
   ·exact ih _ hu
  ·rename_i len elem xs
   have hfl : xs.toList.all leaf = true := by simpa only [flat1, leaf, Bool.false_or] using hx
   rw [Std.Legacy.Range.forIn_eq_forIn_range']
   refine Sim.bindE ?_ fun q l _ => .pure fun _ _ => rfl
   refine Sim.loopE _ _ fun q3 l3 f _ b => ?_
   refine (Sim.sizeOf _).bindE fun q4 l4 n => ?_
   refine (Sim.partE hfl _ _).bind fun q5 l5 a a' h => ?_
   obtain ⟨rfl, ha⟩ := h
   exact (ih _ ha).bindE fun q l r => .pure fun _ _ => rfl
  ·rename_i fields xs
   have hfl : xs.toList.all leaf = true := by simpa only [flat1, leaf, Bool.false_or] using hx
   rw [← Array.forIn_toList]
   refine Sim.bindE ?_ fun q l _ => .pure fun _ _ => rfl
   refine Sim.loopE _ _ fun q3 l3 f _ b => ?_
   refine .ite (fun _ => ?_) fun _ => .pure fun _ _ => rfl
   refine (Sim.partE hfl _ _).bind fun q5 l5 a a' h => ?_
   obtain ⟨rfl, ha⟩ := h
   exact (ih _ ha).bindE fun q l r => .pure fun _ _ => rfl
  ·exact .pure fun _ _ => rfl
  ·exact .stuck
  ·exact .stuck
  ·exact .stuck
  ·exact .pure fun _ _ => rfl
def EL (p : Rn) (l l' : List MapEntry) : Prop := l.length = l'.length ∧ ∀ (i : Nat) (u v : MapEntry), l[i]? = some u → l'[i]? = some v → v.key = u.key ∧ flat1 u.key = true ∧ VR p u.val v.val ∧ v.born = u.born
theorem EL.le {q : Rn} {l l' : List MapEntry} (h : EL p l l') (k : Le p q) : EL q l l' := ⟨h.1, fun i u v a b => let ⟨x, y, z, t⟩ := h.2 i u v a b; ⟨x, y, z.le k, t⟩⟩
theorem EL.of {x y : Array MapEntry} (h : ER p x y) (k : x.toList.all (fun e => flat1 e.key) = true) : EL p x.toList y.toList := by
 refine ⟨by simpa using h.1, fun i u v a b => ?_⟩
 have h1 := h.2 i u v (by simpa using a) (by simpa using b)
 have hf : flat1 u.key = true := List.all_eq_true.1 k u (List.mem_of_getElem? a)
 exact ⟨flat_eq hf h1.1, hf, h1.2.1, h1.2.2⟩
theorem EL.tail {u v : MapEntry} {l l' : List MapEntry} (h : EL p (u :: l) (v :: l')) : EL p l l' := ⟨by simpa using h.1, fun i x y a b => h.2 (i + 1) x y (by simpa using a) (by simpa using b)⟩
def FV (p : Rn) : Option (Nat × Value) → Option (Nat × Value) → Prop
 | none, none => True
 | some x, some y => x.1 = y.1 ∧ VR p x.2 y.2
 | _, _ => False
theorem FV.le {q : Rn} {x y : Option (Nat × Value)} (h : FV p x y) (k : Le p q) : FV q x y := by
 cases x <;> cases y <;> first | exact h | exact ⟨h.1, VR.le h.2 k⟩
theorem Sim.findAsking (t : TypeId) {k : Value} (hk : flat1 k = true) : ∀ (l l' : List MapEntry) (i : Nat), EL p l l' → Sim C p FV (Instr.findAsking t k l i) (Instr.findAsking t k l' i) := by
 intro l
 induction l generalizing p with
 | nil =>
  intro l' i h
  have : l' = [] := List.eq_nil_of_length_eq_zero h.1.symm
  subst this
  exact .pure fun _ _ => trivial
 | cons u l ih =>
  intro l' i h
  cases l' with
  | nil => simp [EL] at h
  | cons v l' =>
   obtain ⟨h1, h2, h3, h4⟩ := h.2 0 u v rfl rfl
   unfold Instr.findAsking
   rw [h1]
   refine (Sim.equal (.inl ⟨hk, h2⟩) (VR.of_flat hk) (VR.of_flat h2)).bindX fun q l1 b => ?_
   exact .ite (fun _ => .pure fun q1 l2 => ⟨rfl, (h3.le l1).le l2⟩) fun _ => ih _ _ (h.tail.le l1)
theorem findNow_rel (d : TypeDesc) (k : Value) : ∀ (l l' : List MapEntry) (i : Nat), EL p l l' → (∃ r r', Instr.findNow d k l i = some r ∧ Instr.findNow d k l' i = some r' ∧ FV p r r') ∨ Instr.findNow d k l i = none ∧ Instr.findNow d k l' i = none := by
 intro l
 induction l with
 | nil =>
  intro l' i h
  have : l' = [] := List.eq_nil_of_length_eq_zero h.1.symm
  subst this
  exact .inl ⟨none, none, rfl, rfl, trivial⟩
 | cons u l ih =>
  intro l' i h
  cases l' with
  | nil => simp [EL] at h
  | cons v l' =>
   obtain ⟨h1, h2, h3, h4⟩ := h.2 0 u v rfl rfl
   unfold Instr.findNow
   rw [h1]
   split
   ·exact .inl ⟨_, _, rfl, rfl, rfl, h3⟩
   ·exact ih _ _ h.tail
   ·exact .inr ⟨rfl, rfl⟩
theorem Sim.findKey (t : TypeId) {k : Value} (hk : flat1 k = true) {l l' : List MapEntry} (h : EL p l l') : Sim C p FV (Instr.findKey t k l) (Instr.findKey t k l') := by
 unfold Instr.findKey
 refine (Sim.underE t).bindE fun q l1 d => ?_
 rcases findNow_rel d k l l' 0 (h.le l1) with ⟨r, r', e1, e2, e3⟩ | ⟨e1, e2⟩
 ·rw [e1, e2]; exact .pure fun _ l => e3.le l
 ·rw [e1, e2]; exact Sim.findAsking t hk _ _ _ (h.le l1)
theorem Sim.entries {r r' k : Nat} {γ : Type} {D : Rn → γ → γ → Prop} {f f' : Array MapEntry → Nat → Sem γ} {g g' : Sem γ} (h : p r = some (r', k)) (why : ∀ s, arun C.P C.G g s = none)
 (hf : ∀ q, Le p q → ∀ es es' cl, ER q es es' → es.toList.all (fun e => flat1 e.key) = true → Sim C q D (f es cl) (f' es' cl)) :
 Sim C p D (Go.getObj r >>= fun o => match o with | .map es cl => f es cl | _ => g) (Go.getObj r' >>= fun o => match o with | .map es cl => f' es cl | _ => g') := by
 refine (Sim.getObj h).bind fun q l o o' ho => ?_
 obtain ⟨h1, h2⟩ := ho
 cases o with
 | map es cl => obtain ⟨es', rfl, he⟩ := h1; exact hf q l es es' cl he h2
 | _ => exact .no why
theorem Sim.lookup (hz : Zok C.P) {x x' i i' : Value} (h : VR p x x') (hi : VR p i i') (hf : flat1 i = true) (t : TypeId) (ok : Bool) : Sim C p VR (Instr.lookup t x i ok) (Instr.lookup t x' i' ok) := by
 obtain rfl := flat_eq hf hi
 unfold Instr.lookup
 refine (Sim.underE t).bindE fun q lq d => ?_
 have h := h.le lq
 have ix := h.inv
 split
 ·rename_i key elem
  have tup : ∀ (q : Rn) (v v' : Value) (b : Bool), VR q v v' → VR q (if ok = true then Value.tuple #[v, Value.bool b] else v) (if ok = true then Value.tuple #[v', Value.bool b] else v') := by
   intro q v v' b hv
   split
   ·refine (VR.cl _).tup _ _ ?_
    exact Arr.append (x := #[v]) (x' := #[v']) (y := #[.bool b]) (y' := #[.bool b]) (.one hv) (.one (VR.bool _ _))
   ·exact hv
  have fin : ∀ (q1 : Rn), Le q q1 → ∀ es es' : Array MapEntry, EL q1 es.toList es'.toList → Sim C q1 VR (do
   Instr.checkKey es.isEmpty 10000 key i'
   let r ← Instr.findKey key i' es.toList
   match r with
   | some (_, v) => Pure.pure (if ok = true then Value.tuple #[v, Value.bool true] else v)
   | none => do
    let z ← zeroValue elem
    Pure.pure (if ok = true then Value.tuple #[z, Value.bool false] else z)) (do
   Instr.checkKey es'.isEmpty 10000 key i'
   let r ← Instr.findKey key i' es'.toList
   match r with
   | some (_, v) => Pure.pure (if ok = true then Value.tuple #[v, Value.bool true] else v)
   | none => do
    let z ← zeroValue elem
    Pure.pure (if ok = true then Value.tuple #[z, Value.bool false] else z)) := by
   intro q1 l1 es es' he
   have e0 : es'.isEmpty = es.isEmpty := by
    have := he.1
    simp only [Array.isEmpty]
    simp only [Array.length_toList] at this
    rw [this]
   rw [e0]
   refine (Sim.checkKey _ _ _ hf).bindE fun q2 l2 _ => ?_
   refine (Sim.findKey _ hf (he.le l2)).bind fun q3 l3 r r' hr => ?_
   cases r <;> cases r' <;> first | exact hr.elim | skip
   ·exact (Sim.zero hz _).bind fun q4 l4 z z' hzz => .pure fun q5 l5 => tup _ _ _ _ (hzz.le l5)
   ·exact .pure fun q4 l4 => tup _ _ _ _ (VR.le hr.2 l4)
  cases x with
  | map r =>
   cases r with
   | none =>
    obtain rfl := ix
    exact fin q (Le.refl _) #[] #[] ⟨rfl, by simp⟩
   | some r =>
    obtain ⟨r', k, rfl, hr⟩ := ix
    refine (Sim.getObj hr).bind fun q1 l1 o o' ho => ?_
    obtain ⟨h1, h2⟩ := ho
    cases o with
    | map es cl => obtain ⟨es', rfl, he⟩ := h1; exact fin q1 l1 es es' (EL.of he h2)
    | _ => exact .no fun s => rfl
  | _ => exact .no fun s => rfl
 ·exact .stuck
theorem Sim.keyThatStays {k : Value} (hk : flat1 k = true) (k' : Value) (hk' : flat1 k' = true) : Sim C p (fun _ a b => a = b ∧ flat1 a = true) (Instr.keyThatStays k k') (Instr.keyThatStays k k') := by
 unfold Instr.keyThatStays
 refine .ite (fun _ => .pure fun _ _ => ⟨rfl, hk'⟩) fun _ => ?_
 refine (Sim.choose _).bindX fun q l n => .pure fun _ _ => ?_
 split
 ·exact ⟨rfl, hk'⟩
 ·exact ⟨rfl, hk⟩
theorem ER.modify {x y : Array MapEntry} (h : ER p x y) (i : Nat) {f g : MapEntry → MapEntry} (k : ∀ u v : MapEntry, VR p u.key v.key → VR p u.val v.val → v.born = u.born → VR p (f u).key (g v).key ∧ VR p (f u).val (g v).val ∧ (g v).born = (f u).born) : ER p (x.modify i f) (y.modify i g) := by
 refine ⟨by simpa using h.1, fun j u v a b => ?_⟩
 rw [Array.getElem?_modify] at a b
 split at a
 ·rename_i hj
  rw [if_pos hj] at b
  simp only [Option.map_eq_some_iff] at a b
  obtain ⟨u0, hu, rfl⟩ := a
  obtain ⟨v0, hv, rfl⟩ := b
  obtain ⟨h1, h2, h3⟩ := h.2 j u0 v0 hu hv
  exact k u0 v0 h1 h2 h3
 ·rename_i hj
  rw [if_neg hj] at b
  exact h.2 j u v a b
theorem ER.push {x y : Array MapEntry} (h : ER p x y) {u v : MapEntry} (k : VR p u.key v.key ∧ VR p u.val v.val ∧ v.born = u.born) : ER p (x.push u) (y.push v) := by
 refine ⟨by simpa using h.1, fun j a b e f => ?_⟩
 rw [Array.getElem?_push] at e f
 rw [← h.1] at f
 split at e
 ·rename_i hj; rw [if_pos hj] at f; cases e; cases f; exact k
 ·rename_i hj; rw [if_neg hj] at f; exact h.2 j a b e f
theorem ER.erase {x y : Array MapEntry} (h : ER p x y) (i : Nat) : ER p (x.eraseIdxIfInBounds i) (y.eraseIdxIfInBounds i) := by
 have hs := h.1
 by_cases hi : i < x.size
 ·have hi' : i < y.size := by omega
  rw [Array.eraseIdxIfInBounds, Array.eraseIdxIfInBounds, dif_pos hi, dif_pos hi']
  refine ⟨by simp [hs], fun j a b e f => ?_⟩
  rw [Array.getElem?_eraseIdx] at e f
  split at e
  ·rename_i hj; rw [if_pos hj] at f; exact h.2 j a b e f
  ·rename_i hj; rw [if_neg hj] at f; exact h.2 _ a b e f
 ·have hi' : ¬ i < y.size := by omega
  rw [Array.eraseIdxIfInBounds, Array.eraseIdxIfInBounds, dif_neg hi, dif_neg hi']
  exact h
theorem Sim.mapUpdate {m m' k k' v v' : Value} (h : VR p m m') (hk : VR p k k') (hf : flat1 k = true) (hv : VR p v v') (t : TypeId) : Sim C p (fun _ _ _ => True) (Instr.mapUpdate t m k v) (Instr.mapUpdate t m' k' v') := by
 obtain rfl := flat_eq hf hk
 unfold Instr.mapUpdate
 refine (Sim.underE t).bindE fun q lq d => ?_
 have h := h.le lq
 have ix := h.inv
 split
 ·rename_i key elem
  split
  ·obtain rfl := ix
   exact Sim.runtimePanic _
  ·obtain ⟨r', kk, rfl, hr⟩ := ix
   refine (Sim.getObj hr).bind fun q1 l1 o o' ho => ?_
   obtain ⟨h1, h2⟩ := ho
   cases o with
   | map es cl =>
    obtain ⟨es', rfl, he⟩ := h1
    dsimp only
    refine (Sim.checkKey _ _ _ hf).bindE fun q2 l2 _ => ?_
    refine (Sim.findKey _ hf ((EL.of he h2).le l2)).bind fun q3 l3 r r' hr3 => ?_
    have hrr := l3 _ _ (l2 _ _ (l1 _ _ hr))
    have he3 := (he.le l2).le l3
    have hv3 := (((hv.le lq).le l1).le l2).le l3
    cases r <;> cases r' <;> first | exact hr3.elim | skip
    ·exact Sim.setObj hrr fun q l => ⟨_, rfl, (he3.le l).push ⟨VR.of_flat hf, hv3.le l, rfl⟩⟩
    ·rename_i a b
     obtain ⟨i, u⟩ := a
     obtain ⟨j, u'⟩ := b
     obtain ⟨e1, e2⟩ := hr3
     simp only at e1
     subst e1
     dsimp only
     have hkk : ((es'[i]?).map (·.key)).getD k' = ((es[i]?).map (·.key)).getD k' ∧ flat1 (((es[i]?).map (·.key)).getD k') = true := by
      cases e : es[i]? with
      | none => rw [show es'[i]? = none by rw [Array.getElem?_eq_none_iff] at *; have := he.1; omega]; exact ⟨rfl, hf⟩
      | some x =>
       have hi : i < es'.size := by have := (Array.getElem?_eq_some_iff.1 e).1; have := he.1; omega
       have e' : es'[i]? = some es'[i] := by simp
       rw [e']
       obtain ⟨g1, g2, _⟩ := (EL.of he h2).2 i x es'[i] (by simpa using e) (by simp)
       exact ⟨g1, g2⟩
     rw [hkk.1]
     refine (Sim.keyThatStays hkk.2 k' hf).bind fun q4 l4 a b hab => ?_
     obtain ⟨rfl, ha⟩ := hab
     refine Sim.setObj (l4 _ _ hrr) fun q l => ⟨_, rfl, (((he3.le l4).le l).modify _ fun u v h1 h2 h3 => ⟨VR.of_flat ha, (hv3.le l4).le l, h3⟩)⟩
   | _ => exact .stuck
  ·exact .stuck
 ·exact .stuck
theorem Sim.setMap {r r' k cl : Nat} {es es' : Array MapEntry} (h : p r = some (r', k)) (ho : ∀ q, Le p q → ER q es es') : Sim C p (fun _ _ _ => True) (Go.setObj r (.map es cl)) (Go.setObj r' (.map es' cl)) :=
 Sim.setObj h fun q l => ⟨es', rfl, ho q l⟩
theorem Sim.mapEntry (hz : Zok C.P) {m m' k k' : Value} (h : VR p m m') (hk : VR p k k') (hf : flat1 k = true) (t : TypeId) : Sim C p VR (Instr.mapEntry t m k) (Instr.mapEntry t m' k') := by
 obtain rfl := flat_eq hf hk
 unfold Instr.mapEntry
 refine (Sim.underE t).bindE fun q lq d => ?_
 have h := h.le lq
 have ix := h.inv
 have tup : ∀ (q : Rn) (v v' : Value) (n : Int), VR q v v' → VR q (Value.tuple #[v, goInt n]) (Value.tuple #[v', goInt n]) := by
  intro q v v' n hv
  refine (VR.cl _).tup _ _ ?_
  exact Arr.append (x := #[v]) (x' := #[v']) (y := #[goInt n]) (y' := #[goInt n]) (.one hv) (.one (VR.int _ _ _))
 split
 ·rename_i key elem
  split
  ·obtain rfl := ix
   exact Sim.runtimePanic _
  ·obtain ⟨r', kk, rfl, hr⟩ := ix
   refine (Sim.getObj hr).bind fun q1 l1 o o' ho => ?_
   obtain ⟨h1, h2⟩ := ho
   cases o with
   | map es cl =>
    obtain ⟨es', rfl, he⟩ := h1
    dsimp only
    refine (Sim.checkKey _ _ _ hf).bindE fun q2 l2 _ => ?_
    refine (Sim.findKey _ hf ((EL.of he h2).le l2)).bind fun q3 l3 r r' hr3 => ?_
    have hrr := l3 _ _ (l2 _ _ (l1 _ _ hr))
    have he3 := (he.le l2).le l3
    cases r <;> cases r' <;> first | exact hr3.elim | skip
    ·refine (Sim.zero hz _).bind fun q4 l4 z z' hzz => ?_
     refine (Sim.setMap (es := es.push ⟨k', z, cl⟩) (es' := es'.push ⟨k', z', cl⟩) (l4 _ _ hrr) fun q l => ((he3.le l4).le l).push ⟨VR.of_flat hf, hzz.le l, rfl⟩).bind fun q5 l5 _ _ _ => ?_
     exact .pure fun q6 l6 => tup _ _ _ _ ((hzz.le l5).le l6)
    ·rename_i a b
     obtain ⟨i, u⟩ := a
     obtain ⟨j, u'⟩ := b
     obtain ⟨e1, e2⟩ := hr3
     simp only at e1
     subst e1
     dsimp only
     have hkk : ((es'[i]?).map (·.key)).getD k' = ((es[i]?).map (·.key)).getD k' ∧ flat1 (((es[i]?).map (·.key)).getD k') = true ∧ ((es'[i]?).map (fun x => (x.born : Int))).getD 0 = ((es[i]?).map (fun x => (x.born : Int))).getD 0 := by
      cases e : es[i]? with
      | none => rw [show es'[i]? = none by rw [Array.getElem?_eq_none_iff] at *; have := he.1; omega]; exact ⟨rfl, hf, rfl⟩
      | some x =>
       have hi : i < es'.size := by have := (Array.getElem?_eq_some_iff.1 e).1; have := he.1; omega
       have e' : es'[i]? = some es'[i] := by simp
       rw [e']
       obtain ⟨g1, g2, _, g4⟩ := (EL.of he h2).2 i x es'[i] (by simpa using e) (by simp)
       exact ⟨g1, g2, by simp [g4]⟩
     rw [hkk.1, hkk.2.2]
     refine (Sim.keyThatStays hkk.2.1 k' hf).bind fun q4 l4 a b hab => ?_
     obtain ⟨rfl, ha⟩ := hab
     refine (Sim.setMap (es := es.modify i fun e => { e with key := a }) (es' := es'.modify i fun e => { e with key := a }) (l4 _ _ hrr) fun q l => (((he3.le l4).le l).modify _ fun u v h1 h2 h3 => ⟨VR.of_flat ha, h2, h3⟩)).bind fun q5 l5 _ _ _ => ?_
     exact .pure fun q6 l6 => tup _ _ _ _ (((VR.le e2 l4).le l5).le l6)
   | _ => exact .stuck
  ·exact .stuck
 ·exact .stuck
theorem ER.findIdx {x y : Array MapEntry} (h : ER p x y) (b : Int) : y.findIdx? (fun e => (e.born : Int) == b) = x.findIdx? (fun e => (e.born : Int) == b) := by
 obtain ⟨x⟩ := x
 obtain ⟨y⟩ := y
 simp only [List.findIdx?_toArray]
 obtain ⟨h1, h2⟩ := h
 simp only [List.size_toArray, List.getElem?_toArray] at h1 h2
 induction x generalizing y with
 | nil => obtain rfl := List.eq_nil_of_length_eq_zero (l := y) (by simpa using h1.symm); rfl
 | cons u x ih =>
  cases y with
  | nil => simp at h1
  | cons v y =>
   rw [List.findIdx?_cons, List.findIdx?_cons, (h2 0 u v rfl rfl).2.2, ih y (by simpa using h1) fun i a b e f => h2 (i + 1) a b (by simpa using e) (by simpa using f)]
theorem Sim.entryStore {m m' k k' v v' : Value} (h : VR p m m') (hk : VR p k k') (hv : VR p v v') (t : TypeId) : Sim C p (fun _ _ _ => True) (Instr.entryStore t m k v) (Instr.entryStore t m' k' v') := by
 unfold Instr.entryStore
 have ix := h.inv
 split
 ·obtain ⟨r', kk, rfl, hr⟩ := ix
  refine (Sim.getObj hr).bind fun q1 l1 o o' ho => ?_
  obtain ⟨h1, h2⟩ := ho
  cases o with
  | map es cl =>
   obtain ⟨es', rfl, he⟩ := h1
   dsimp only
   refine (Sim.asInt (hk.le l1)).bindX fun q2 l2 b => ?_
   rw [he.findIdx]
   split
   ·exact Sim.setObj (l2 _ _ (l1 _ _ hr)) fun q l => ⟨_, rfl, ((he.le l2).le l).modify _ fun u v a b c => ⟨a, ((hv.le l1).le l2).le l, c⟩⟩
   ·exact .unsupported
  | _ => exact .stuck
 ·exact .stuck
theorem VR.tup0 : VR p (.tuple #[]) (.tuple #[]) := VR.undef p
theorem Sim.delete {args args' : Array Value} (h : Arr (VR p) args args') (hf : ∀ k, args[1]? = some k → flat1 k = true) (ts : Array TypeId) (t : TypeId) : Sim C p VR (Builtin.delete_ ts t args) (Builtin.delete_ ts t args') := by
 unfold Builtin.delete_
 cases e0 : args[0]? with
 | none => exact .no fun s => by cases ts[0]? <;> rfl
 | some m =>
  cases e1 : args[1]? with
  | none => exact .no fun s => by cases ts[0]? <;> rfl
  | some k =>
   obtain ⟨m', e0', hm⟩ := h.get e0
   obtain ⟨k', e1', hk⟩ := h.get e1
   have hf := hf k e1
   obtain rfl := flat_eq hf hk
   rw [e0', e1']
   cases ts[0]? with
   | none => exact .stuck
   | some mt =>
    dsimp only
    refine (Sim.underE _).bindE fun q lq d => ?_
    have hm := hm.le lq
    have ix := hm.inv
    split
    ·rename_i key elem
     split
     ·obtain rfl := ix
      exact (Sim.checkKey _ _ _ hf).bindE fun q2 l2 _ => .pure fun _ _ => VR.tup0
     ·obtain ⟨r', kk, rfl, hr⟩ := ix
      refine (Sim.getObj hr).bind fun q1 l1 o o' ho => ?_
      obtain ⟨h1, h2⟩ := ho
      cases o with
      | map es cl =>
       obtain ⟨es', rfl, he⟩ := h1
       dsimp only
       have e0 : es'.isEmpty = es.isEmpty := by simp only [Array.isEmpty, he.1]
       rw [e0]
       refine (Sim.checkKey _ _ _ hf).bindE fun q2 l2 _ => ?_
       refine (Sim.findKey _ hf ((EL.of he h2).le l2)).bind fun q3 l3 r r' hr3 => ?_
       have hrr := l3 _ _ (l2 _ _ (l1 _ _ hr))
       have he3 := (he.le l2).le l3
       cases r <;> cases r' <;> first | exact hr3.elim | skip
       ·exact (Sim.setMap hrr fun q l => he3.le l).bind fun q5 l5 _ _ _ => .pure fun _ _ => VR.tup0
       ·rename_i a b
        obtain ⟨i, u⟩ := a
        obtain ⟨j, u'⟩ := b
        obtain ⟨e1, e2⟩ := hr3
        simp only at e1
        subst e1
        exact (Sim.setMap hrr fun q l => (he3.le l).erase i).bind fun q5 l5 _ _ _ => .pure fun _ _ => VR.tup0
      | _ => exact .no fun s => rfl
     ·exact .no fun s => rfl
    ·exact .stuck
theorem VR.map {r r' k : Nat} (h : p r = some (r', k)) : VR p (.map (some r)) (.map (some r')) := (VR.cl p).mp r r' k h
theorem Sim.makeMap (t : TypeId) {x x' : Option Value} (h : OV p x x') : Sim C p VR (Instr.makeMap t x) (Instr.makeMap t x') := by
 unfold Instr.makeMap
 have fin : ∀ q, Sim C q VR (do Pure.pure (Value.map (some (← newObj (.map #[] 0))))) (do Pure.pure (Value.map (some (← newObj (.map #[] 0))))) := fun q =>
  (Sim.new (o := .map #[] 0) (o' := .map #[] 0) fun q l => ⟨#[], rfl, rfl, by simp⟩).bind fun q l a b e => .pure fun q1 l1 => VR.map (l1 _ _ e)
 cases x with
 | none => cases x' with
  | none => exact fin _
  | some _ => exact h.elim
 | some v => cases x' with
  | none => exact h.elim
  | some v' =>
   refine (Sim.underE t).bindE fun q lq d => ?_
   split
   ·exact (Sim.asInt (VR.le h lq)).bindX fun q1 l1 _ => fin _
   ·exact .no fun s => rfl
theorem Sim.range {x x' : Value} (h : VR p x x') (t : TypeId) : Sim C p VR (Instr.range t x) (Instr.range t x') := by
 unfold Instr.range
 refine (Sim.underE t).bindE fun q lq d => ?_
 have h := h.le lq
 have ix := h.inv
 have fin : ∀ (q1 : Rn) (o o' : Obj), (∀ q2, Le q1 q2 → OR q2 0 o o') → Sim C q1 VR (do Pure.pure (Value.pointer (some ⟨← newObj o, 0, none⟩))) (do Pure.pure (Value.pointer (some ⟨← newObj o', 0, none⟩))) := fun q1 o o' h =>
  (Sim.new h).bind fun q l a b e => .pure fun q1 l1 => VR.ptr ⟨⟨0, l1 _ _ e⟩, rfl, rfl⟩
 split
 ·obtain rfl := ix
  exact fin _ _ _ fun _ _ => rfl
 ·obtain rfl := ix
  exact fin _ _ _ fun _ _ => rfl
 ·obtain ⟨r', kk, rfl, hr⟩ := ix
  refine (Sim.getObj hr).bind fun q1 l1 o o' ho => ?_
  obtain ⟨h1, h2⟩ := ho
  cases o with
  | map es cl =>
   obtain ⟨es', rfl, he⟩ := h1
   exact fin _ _ _ fun q l => ⟨r', kk, rfl, l _ _ (l1 _ _ hr)⟩
  | _ => exact .stuck
 ·exact .stuck
theorem ER.filter {x y : Array MapEntry} (h : ER p x y) (f : Nat → Bool) : ER p (x.filter fun e => f e.born) (y.filter fun e => f e.born) := by
 obtain ⟨x⟩ := x
 obtain ⟨y⟩ := y
 obtain ⟨h1, h2⟩ := h
 simp only [List.size_toArray, List.getElem?_toArray] at h1 h2
 simp only [ER, List.filter_toArray', List.size_toArray, List.getElem?_toArray]
 induction x generalizing y with
 | nil => obtain rfl := List.eq_nil_of_length_eq_zero (l := y) (by simpa using h1.symm); simp
 | cons u x ih =>
  cases y with
  | nil => simp at h1
  | cons v y =>
   have hb := (h2 0 u v rfl rfl)
   have := ih y (by simpa using h1) fun i a b e f => h2 (i + 1) a b (by simpa using e) (by simpa using f)
   rw [List.filter_cons, List.filter_cons, hb.2.2]
   split
   ·refine ⟨by simp [this.1], fun i a b e f => ?_⟩
    cases i with
    | zero => simp at e f; subst e; subst f; exact hb
    | succ i => exact this.2 i a b (by simpa using e) (by simpa using f)
   ·exact this
theorem ER.all {x y : Array MapEntry} (h : ER p x y) (f : Nat → Bool) : (y.all fun e => f e.born) = (x.all fun e => f e.born) := by
 obtain ⟨x⟩ := x
 obtain ⟨y⟩ := y
 obtain ⟨h1, h2⟩ := h
 simp only [List.size_toArray, List.getElem?_toArray] at h1 h2
 simp only [List.all_toArray']
 induction x generalizing y with
 | nil => obtain rfl := List.eq_nil_of_length_eq_zero (l := y) (by simpa using h1.symm); rfl
 | cons u x ih =>
  cases y with
  | nil => simp at h1
  | cons v y => simp only [List.all_cons, (h2 0 u v rfl rfl).2.2, ih y (by simpa using h1) fun i a b e f => h2 (i + 1) a b (by simpa using e) (by simpa using f)]
theorem ER.append {x y x' y' : Array MapEntry} (h : ER p x x') (k : ER p y y') : ER p (x ++ y) (x' ++ y') := by
 refine ⟨by simp [h.1, k.1], fun i u v a b => ?_⟩
 rw [Array.getElem?_append] at a b
 rw [← h.1] at b
 split at a
 ·rename_i hi; rw [if_pos hi] at b; exact h.2 i u v a b
 ·rename_i hi; rw [if_neg hi] at b; exact k.2 _ u v a b
theorem ER.find {x y : Array MapEntry} (h : ER p x y) (n : Nat) : (x.find? (fun e => e.born == n) = none ∧ y.find? (fun e => e.born == n) = none) ∨ ∃ e e', x.find? (fun e => e.born == n) = some e ∧ y.find? (fun e => e.born == n) = some e' ∧ VR p e.key e'.key ∧ VR p e.val e'.val := by
 obtain ⟨x⟩ := x
 obtain ⟨y⟩ := y
 obtain ⟨h1, h2⟩ := h
 simp only [List.size_toArray, List.getElem?_toArray] at h1 h2
 simp only [List.find?_toArray]
 induction x generalizing y with
 | nil => obtain rfl := List.eq_nil_of_length_eq_zero (l := y) (by simpa using h1.symm); exact .inl ⟨rfl, rfl⟩
 | cons u x ih =>
  cases y with
  | nil => simp at h1
  | cons v y =>
   have hb := h2 0 u v rfl rfl
   rw [List.find?_cons, List.find?_cons, hb.2.2]
   cases e : (u.born == n)
   ·exact ih y (by simpa using h1) fun i a b e f => h2 (i + 1) a b (by simpa using e) (by simpa using f)
   ·exact .inr ⟨u, v, rfl, rfl, hb.1, hb.2.1⟩
theorem VR.tupOf {l l' : List Value} (h : Arr (VR p) l.toArray l'.toArray) : VR p (.tuple l.toArray) (.tuple l'.toArray) := (VR.cl p).tup _ _ h
theorem Arr.three {b : Bool} {k k' v v' : Value} (h : VR p k k') (hv : VR p v v') : Arr (VR p) #[.bool b, k, v] #[.bool b, k', v'] :=
 (Arr.append (x := #[.bool b]) (x' := #[.bool b]) (y := #[k]) (y' := #[k']) (.one (VR.bool _ _)) (.one h)).append (y := #[v]) (y' := #[v']) (.one hv)
theorem Arr.two {k k' v v' : Value} (h : VR p k k') (hv : VR p v v') : Arr (VR p) #[k, v] #[k', v'] :=
 (Arr.append (x := #[k]) (x' := #[k']) (y := #[v]) (y' := #[v']) (.one h) (.one hv))
theorem Sim.next {x x' : Value} (h : VR p x x') (b : Bool) (t : TypeId) : Sim C p VR (Instr.next x b t) (Instr.next x' b t) := by
 unfold Instr.next
 have ix := h.inv
 have over : ∀ q, Sim C q VR (Pure.pure (Value.tuple #[Value.bool false])) (Pure.pure (Value.tuple #[Value.bool false])) := fun q => .pure fun q l => VR.of_flat (by decide)
 dsimp only
 split
 ·rename_i r sp
  obtain ⟨b', rfl, ⟨kk, hr⟩, h2, h3⟩ := ix
  obtain ⟨r', o', s'⟩ := b'
  simp only at hr h2 h3
  subst h2 h3
  (try dsimp only)
  refine (Sim.getObj hr).bind fun q1 l1 o o' ho => ?_
  obtain ⟨h1, h2⟩ := ho
  cases o with
  | stringIter s n =>
   obtain rfl := h1
   cases b
   ·exact .stuck
   ·dsimp only
    split
    ·refine (Sim.setObj (o := .stringIter s _) (l1 _ _ hr) fun q l => rfl).bind fun q2 l2 _ _ _ => ?_
     refine .pure fun q l => VR.of_flat ?_
     rfl
    ·exact over _
  | mapIter m since seen last =>
   cases m with
   | none => obtain rfl := h1; cases b <;> first | exact over _ | exact .stuck
   | some m =>
    obtain ⟨m', km, rfl, hm⟩ := h1
    cases b
    ·dsimp only
     refine (Sim.getObj hm).bind fun q2 l2 o o' ho => ?_
     obtain ⟨h1, h2⟩ := ho
     cases o with
     | map es cl =>
      obtain ⟨es', rfl, he⟩ := h1
      dsimp only
      have e0 : es'.isEmpty = es.isEmpty := by simp only [Array.isEmpty, he.1]
      have e1 : (es'.all fun e => decide (e.born ≥ last)) = (es.all fun e => decide (e.born ≥ last)) := he.all fun n => decide (n ≥ last)
      have he1 := he.filter fun n => !seen.contains n
      have he2 := he1.filter fun n => decide (n < since)
      have he3 := he1.filter fun n => decide (n ≥ since)
      have e2 := he2.1
      have he4 := he2.append he3
      rw [e0, e1]
      split
      ·exact .no fun s => rfl
      ·generalize Array.filter (fun e => decide (e.born < since)) (Array.filter (fun e => !seen.contains e.born) es) = old at *
       generalize Array.filter (fun e => decide (e.born < since)) (Array.filter (fun e => !seen.contains e.born) es') = old' at *
       generalize Array.filter (fun e => decide (e.born ≥ since)) (Array.filter (fun e => !seen.contains e.born) es) = new at *
       generalize Array.filter (fun e => decide (e.born ≥ since)) (Array.filter (fun e => !seen.contains e.born) es') = new' at *
       have e3 : old'.isEmpty = old.isEmpty := by simp only [Array.isEmpty, e2]
       rw [e3]
       have fin : ∀ (q3 : Rn), Le q2 q3 → ∀ o o' : Option MapEntry, (o = none ∧ o' = none ∨ ∃ (e e' : MapEntry), o = some e ∧ o' = some e' ∧ VR q3 e.key e'.key ∧ VR q3 e.val e'.val ∧ e'.born = e.born) →
        Sim C q3 VR (match some o with
         | some (some e) => do Go.setObj r (.mapIter (some m) since (seen.push e.born) cl); Pure.pure (Value.tuple #[.bool true, e.key, e.val])
         | some none => Pure.pure (Value.tuple #[.bool false])
         | none => Go.stuck "Next: no such candidate") (match some o' with
         | some (some e) => do Go.setObj r' (.mapIter (some m') since (seen.push e.born) cl); Pure.pure (Value.tuple #[.bool true, e.key, e.val])
         | some none => Pure.pure (Value.tuple #[.bool false])
         | none => Go.stuck "Next: no such candidate") := by
        intro q3 l3 o o' h
        rcases h with ⟨rfl, rfl⟩ | ⟨e, e', rfl, rfl, g1, g2, g3⟩
        ·exact over _
        ·dsimp only
         rw [g3]
         refine (Sim.setObj (o := .mapIter (some m) since (seen.push e.born) cl) (o' := .mapIter (some m') since (seen.push e.born) cl) (l3 _ _ (l2 _ _ (l1 _ _ hr))) fun q l => ⟨m', km, rfl, l _ _ (l3 _ _ (l2 _ _ hm))⟩).bind fun q4 l4 _ _ _ => ?_
         exact .pure fun q5 l5 => (VR.cl _).tup _ _ (.three ((g1.le l4).le l5) ((g2.le l4).le l5))
       have hsz : (((if old.isEmpty = true then #[none] else #[]) ++ Array.map some (old' ++ new')).size : Nat) = ((if old.isEmpty = true then #[none] else #[]) ++ Array.map some (old ++ new)).size := by
        have := he4.1
        simp only [Array.size_append, Array.size_map] at *
        omega
       rw [hsz]
       refine (Sim.choose _).bindX fun q3 l3 n => ?_
       have hent : ∀ i : Nat, (((old ++ new)[i]? = none ∧ (old' ++ new')[i]? = none) ∨ ∃ (e e' : MapEntry), (old ++ new)[i]? = some e ∧ (old' ++ new')[i]? = some e' ∧ VR q3 e.key e'.key ∧ VR q3 e.val e'.val ∧ e'.born = e.born) := by
        intro i
        cases e : (old ++ new)[i]? with
        | none => exact .inl ⟨rfl, by rw [Array.getElem?_eq_none_iff] at *; have := he4.1; omega⟩
        | some u =>
         have hi : i < (old' ++ new').size := by have := (Array.getElem?_eq_some_iff.1 e).1; have := he4.1; omega
         have e' : (old' ++ new')[i]? = some (old' ++ new')[i] := by simp
         obtain ⟨g1, g2, g3⟩ := he4.2 i u _ e e'
         exact .inr ⟨u, _, rfl, e', g1.le l3, g2.le l3, g3⟩
       by_cases hob : old.isEmpty = true
       ·simp only [hob, if_true]
        rw [Array.getElem?_append, Array.getElem?_append, Array.getElem?_map, Array.getElem?_map]
        by_cases hn : n < (#[none] : Array (Option MapEntry)).size
        ·rw [if_pos hn, if_pos hn]
         have hn : n = 0 := by simpa using hn
         subst hn
         exact fin q3 l3 none none (.inl ⟨rfl, rfl⟩)
        ·rw [if_neg hn, if_neg hn]
         rcases hent (n - (#[none] : Array (Option MapEntry)).size) with ⟨f1, f2⟩ | ⟨e, e', f1, f2, f3⟩
         ·rw [f1, f2]; exact .stuck
         ·rw [f1, f2]; exact fin q3 l3 (some e) (some e') (.inr ⟨e, e', rfl, rfl, f3⟩)
       ·simp only [hob, Bool.false_eq_true, if_false]
        rw [Array.getElem?_append, Array.getElem?_append, Array.getElem?_map, Array.getElem?_map]
        by_cases hn : n < (#[] : Array (Option MapEntry)).size
        ·simp at hn
        ·rw [if_neg hn, if_neg hn]
         rcases hent (n - (#[] : Array (Option MapEntry)).size) with ⟨f1, f2⟩ | ⟨e, e', f1, f2, f3⟩
         ·rw [f1, f2]; exact .stuck
         ·rw [f1, f2]; exact fin q3 l3 (some e) (some e') (.inr ⟨e, e', rfl, rfl, f3⟩)
     | _ => exact .stuck
    ·exact .stuck
  | _ => first | (cases h2; done) | (cases b <;> exact .stuck)
 ·exact .stuck
theorem Sim.entry {x x' : Value} (h : VR p x x') : Sim C p VR (Instr.entry x) (Instr.entry x') := by
 unfold Instr.entry
 have ix := h.inv
 split
 ·rename_i r sp
  obtain ⟨b', rfl, ⟨kk, hr⟩, h2, h3⟩ := ix
  obtain ⟨r', o', s'⟩ := b'
  simp only at hr h2 h3
  subst h2 h3
  dsimp only
  refine (Sim.getObj hr).bind fun q1 l1 o o' ho => ?_
  obtain ⟨h1, h2⟩ := ho
  cases o with
  | mapIter m since seen last =>
   cases m with
   | none => obtain rfl := h1; exact .stuck
   | some m =>
    obtain ⟨m', km, rfl, hm⟩ := h1
    dsimp only
    split
    ·refine (Sim.getObj hm).bind fun q2 l2 o o' ho => ?_
     obtain ⟨h1, h2⟩ := ho
     cases o with
     | map es cl =>
      obtain ⟨es', rfl, he⟩ := h1
      dsimp only
      split
      ·exact .no fun s => rfl
      ·rename_i stamp _ _
       rcases he.find stamp with ⟨f1, f2⟩ | ⟨e, e', f1, f2, f3, f4⟩
       ·rw [f1, f2]; exact .unsupported
       ·rw [f1, f2]; exact .pure fun q l => (VR.cl _).tup _ _ (.two (f3.le l) (f4.le l))
     | _ => exact .stuck
    ·exact .stuck
  | _ => exact .stuck
 ·exact .stuck
end
end Go.Ex
namespace Go.Ex
open Go.RowKit
section
variable {C : Cx} {α β : Type} {p : Rn} {A : Rn → α → α → Prop} {B : Rn → β → β → Prop}
theorem Sim.makeInterface {x x' : Value} (h : VR p x x') (t : TypeId) : Sim C p VR (Instr.makeInterface t x) (Instr.makeInterface t x') := by
 unfold Instr.makeInterface
 refine (Sim.underE t).bindE fun q lq d => ?_
 split
 ·exact .stuck
 ·exact .pure fun q1 l1 => (VR.cl _).ifc _ _ _ ((h.le lq).le l1)
theorem Sim.makeFunc {x x' y y' : Array Value} (f : Fn) (hf : noYield f = true) (h : Arr (VR p) x x') (k : Arr (VR p) y y') : Sim C p VR (Instr.makeFunc f x y) (Instr.makeFunc f x' y') :=
 .pure fun q l => (VR.cl _).fn _ _ _ _ _ hf (h.le l) (k.le l)
theorem Sim.extract {x x' : Value} (h : VR p x x') (i : Nat) : Sim C p VR (Instr.extract x i) (Instr.extract x' i) := by
 unfold Instr.extract
 have ix := h.inv
 split
 ·obtain ⟨y, rfl, hy⟩ := ix
  dsimp only
  rename_i vs
  cases e : vs[i]? with
  | none => exact .stuck
  | some v => obtain ⟨u, e2, hv⟩ := hy.get e; rw [e2]; exact .pure fun q l => hv.le l
 ·exact .stuck
theorem Sim.typeAssert (hz : Zok C.P) {x x' : Value} (h : VR p x x') (t u : TypeId) (ok : Bool) : Sim C p VR (Instr.typeAssert x t u ok) (Instr.typeAssert x' t u ok) := by
 unfold Instr.typeAssert
 have holds : ∀ (q : Rn) (v v' : Value), VR q v v' → Sim C q VR (Pure.pure (if ok = true then Value.tuple #[v, Value.bool true] else v)) (Pure.pure (if ok = true then Value.tuple #[v', Value.bool true] else v')) := by
  intro q v v' hv
  refine .pure fun q1 l1 => ?_
  split
  ·exact (VR.cl _).tup _ _ (.two (hv.le l1) (VR.bool _ _))
  ·exact hv.le l1
 have fails : ∀ (q : Rn) (a b : Option TypeId) (m : String), Sim C q VR (if ok = true then do let z ← zeroValue u; Pure.pure (Value.tuple #[z, Value.bool false]) else Go.runtimePanic (.typeAssertion a b u m)) (if ok = true then do let z ← zeroValue u; Pure.pure (Value.tuple #[z, Value.bool false]) else Go.runtimePanic (.typeAssertion a b u m)) := by
  intro q a b m
  refine .ite (fun _ => ?_) fun _ => Sim.runtimePanic _
  exact (Sim.zero hz _).bind fun q1 l1 z z' hzz => .pure fun q2 l2 => (VR.cl _).tup _ _ (.two (hzz.le l2) (VR.bool _ _))
 refine (Sim.underE _).bindE fun q lq d => ?_
 have h := h.le lq
 have ix := h.inv
 dsimp only
 split
 ·obtain rfl := ix
  exact fails _ _ _ _
 ·obtain ⟨v, rfl, hv⟩ := ix
  refine (Sim.infoE _).bindE fun q1 l1 i => ?_
  split
  ·exact holds _ _ _ (h.le l1)
  ·exact fails _ _ _ _
 ·obtain rfl := ix
  cases d with
  | interface ms => simp at *
  | _ => exact fails _ _ _ _
 ·obtain ⟨v, rfl, hv⟩ := ix
  cases d with
  | interface ms => simp at *
  | _ => exact .ite (fun _ => holds _ _ _ hv) fun _ => fails _ _ _ _
 ·exact .stuck
theorem Sim.intBits (op : BinOp) (k : IntKind) (a b : Int) : Sim C p VR (Op.intBits op k a b) (Op.intBits op k a b) := by
 unfold Op.intBits
 cases op <;> first | exact .stuck | exact .pure fun _ _ => VR.int _ _ _
theorem Sim.intArith (op : BinOp) (k : IntKind) (a b : Int) : Sim C p VR (Op.intArith op k a b) (Op.intArith op k a b) := by
 unfold Op.intArith
 cases op <;> first | exact .stuck | exact .pure fun _ _ => VR.int _ _ _
theorem Sim.intDiv (op : BinOp) (k : IntKind) (a b : Int) : Sim C p VR (Op.intDiv op k a b) (Op.intDiv op k a b) := by
 unfold Op.intDiv
 refine .ite (fun _ => Sim.runtimePanic _) fun _ => ?_
 cases op <;> first | exact .stuck | exact .pure fun _ _ => VR.int _ _ _
theorem Sim.intCmp (op : BinOp) (a b : Int) : Sim C p VR (Op.intCmp op a b) (Op.intCmp op a b) := by
 unfold Op.intCmp
 cases op <;> first | exact .stuck | exact .pure fun _ _ => VR.bool _ _
theorem Sim.shift (op : BinOp) (k j : IntKind) (a b : Int) : Sim C p VR (Op.shift op k a j b) (Op.shift op k a j b) := by
 unfold Op.shift
 refine .ite (fun _ => Sim.runtimePanic _) fun _ => ?_
 cases op <;> first | exact .stuck | exact .pure fun _ _ => VR.int _ _ _
theorem Sim.stringOp (op : BinOp) (a b : ByteArray) : Sim C p VR (Op.stringOp op a b) (Op.stringOp op a b) := by
 unfold Op.stringOp
 cases op <;> first | exact .stuck | exact .pure fun _ _ => VR.bool _ _ | exact .ite (fun _ => .unsupported) fun _ => .pure fun _ _ => VR.str _ _
theorem Sim.unary (op : UnOp) {x x' : Value} (h : VR p x x') : Sim C p VR (Op.unary op x) (Op.unary op x') := by
 unfold Op.unary
 have ix := h.inv
 split
 ·obtain rfl := ix; exact Sim.intArith _ _ _ _
 ·obtain rfl := ix; exact Sim.intBits _ _ _ _
 ·obtain rfl := ix; exact .pure fun _ _ => VR.of_leaf rfl
 ·obtain rfl := ix; exact .pure fun _ _ => VR.of_leaf rfl
 ·obtain rfl := ix; exact .pure fun _ _ => VR.bool _ _
 ·exact .unsupported
 ·exact .unsupported
 ·exact .stuck
def kindOf : Value → Nat
 | .int _ _ => 1
 | .string _ => 2
 | .float _ _ => 3
 | .complex _ _ _ => 4
 | _ => 0
theorem kindOf_eq {v v' : Value} (h : VR p v v') : kindOf v' = kindOf v := by
 have i := h.inv
 cases v with
 | agg x => obtain ⟨x', rfl, a⟩ := i; rfl
 | pointer a => cases a with
  | none => obtain rfl := i; rfl
  | some a => obtain ⟨b, rfl, _⟩ := i; rfl
 | slice a l c => cases a with
  | none => obtain rfl := i; rfl
  | some a => obtain ⟨b, c', rfl, _⟩ := i; rfl
 | map r => cases r with
  | none => obtain rfl := i; rfl
  | some r => obtain ⟨b, c', rfl, _⟩ := i; rfl
 | chan r => cases r with
  | none => obtain rfl := i; rfl
  | some r => exact i.elim
 | func f x y => obtain ⟨x', y', rfl, _⟩ := i; rfl
 | iface t u => obtain ⟨x', rfl, _⟩ := i; rfl
 | tuple x => obtain ⟨x', rfl, _⟩ := i; rfl
 | bool b => obtain rfl := i; rfl
 | int k n => obtain rfl := i; rfl
 | float k n => obtain rfl := i; rfl
 | complex k n m => obtain rfl := i; rfl
 | string s => obtain rfl := i; rfl
 | nilFunc => obtain rfl := i; rfl
 | nilIface => obtain rfl := i; rfl
theorem binOp_eql {t : TypeId} {x y : Value} (h1 : ¬ (kindOf x = 1 ∧ kindOf y = 1)) (h2 : ¬ (kindOf x = 2 ∧ kindOf y = 2)) (h3 : kindOf x < 3) (h4 : kindOf y < 3) :
 Go.binOp .eql t x y = (do Pure.pure (.bool (← Op.equal t x y))) ∧ Go.binOp .neq t x y = (do Pure.pure (.bool (!(← Op.equal t x y)))) := by
 cases x <;> cases y <;> first
  | exact ⟨rfl, rfl⟩
  | exact (h1 ⟨rfl, rfl⟩).elim
  | exact (h2 ⟨rfl, rfl⟩).elim
  | (simp [kindOf] at h3; done)
  | (simp [kindOf] at h4; done)
def nilOf : Value → Nat
 | .nilIface => 1
 | .agg _ => 2
 | _ => 0
theorem nilOf_eq {v v' : Value} (h : VR p v v') : nilOf v' = nilOf v := by
 have i := h.inv
 cases v with
 | agg x => obtain ⟨x', rfl, a⟩ := i; rfl
 | pointer a => cases a with
  | none => obtain rfl := i; rfl
  | some a => obtain ⟨b, rfl, _⟩ := i; rfl
 | slice a l c => cases a with
  | none => obtain rfl := i; rfl
  | some a => obtain ⟨b, c', rfl, _⟩ := i; rfl
 | map r => cases r with
  | none => obtain rfl := i; rfl
  | some r => obtain ⟨b, c', rfl, _⟩ := i; rfl
 | chan r => cases r with
  | none => obtain rfl := i; rfl
  | some r => exact i.elim
 | func f x y => obtain ⟨x', y', rfl, _⟩ := i; rfl
 | iface t u => obtain ⟨x', rfl, _⟩ := i; rfl
 | tuple x => obtain ⟨x', rfl, _⟩ := i; rfl
 | bool b => obtain rfl := i; rfl
 | int k n => obtain rfl := i; rfl
 | float k n => obtain rfl := i; rfl
 | complex k n m => obtain rfl := i; rfl
 | string s => obtain rfl := i; rfl
 | nilFunc => obtain rfl := i; rfl
 | nilIface => obtain rfl := i; rfl
def binOk (P : Program) (op : BinOp) (t : TypeId) (x y : Value) : Bool :=
 if kindOf x == 1 && kindOf y == 1 then true
 else if kindOf x == 2 && kindOf y == 2 then true
 else decide (kindOf x < 3) && decide (kindOf y < 3) && ((match op with | .eql | .neq => true | _ => false) && ((flat1 x && flat1 y) || leaf x || leaf y || (match P.underlying t with | some (.pointer _) => true | _ => false)))
theorem Sim.binOp {op : BinOp} {t : TypeId} {x x' y y' : Value} (hok : binOk C.P op t x y = true) (h : VR p x x') (k : VR p y y') : Sim C p VR (Go.binOp op t x y) (Go.binOp op t x' y') := by
 have ix := h.inv
 have iy := k.inv
 unfold binOk at hok
 split at hok
 ·rename_i hk
  simp only [Bool.and_eq_true, beq_iff_eq] at hk
  cases x <;> first | (simp [kindOf] at hk; done) | skip
  cases y <;> first | (simp [kindOf] at hk; done) | skip
  obtain rfl := ix; obtain rfl := iy
  cases op <;> simp only [Go.binOp] <;> first
   | exact Sim.shift _ _ _ _ _
   | exact .ite (fun _ => .stuck) fun _ => Sim.intArith _ _ _ _
   | exact .ite (fun _ => .stuck) fun _ => Sim.intDiv _ _ _ _
   | exact .ite (fun _ => .stuck) fun _ => Sim.intBits _ _ _ _
   | exact .ite (fun _ => .stuck) fun _ => Sim.intCmp _ _ _
 ·split at hok
  ·rename_i _ hk
   simp only [Bool.and_eq_true, beq_iff_eq] at hk
   cases x <;> first | (simp [kindOf] at hk; done) | skip
   cases y <;> first | (simp [kindOf] at hk; done) | skip
   obtain rfl := ix; obtain rfl := iy
   cases op <;> simp only [Go.binOp] <;> exact Sim.stringOp _ _ _
  ·rename_i f1 f2
   simp only [Bool.and_eq_true, Bool.or_eq_true, beq_iff_eq, decide_eq_true_eq] at hok f1 f2
   obtain ⟨⟨f3, f4⟩, hop, hok⟩ := hok
   have he : EqOk C.P t x y := by
    rcases hok with ((⟨h1, h2⟩ | h1) | h1) | h1
    ·exact .inl ⟨h1, h2⟩
    ·exact .inr (.inl h1)
    ·exact .inr (.inr (.inl h1))
    ·refine .inr (.inr (.inr ?_))
     split at h1
     ·rename_i e he; exact ⟨e, he⟩
     ·cases h1
   have kx := kindOf_eq h
   have ky := kindOf_eq k
   obtain ⟨g1, g2⟩ := binOp_eql (t := t) f1 f2 f3 f4
   obtain ⟨g3, g4⟩ := binOp_eql (t := t) (x := x') (y := y') (by rw [kx, ky]; exact f1) (by rw [kx, ky]; exact f2) (by rw [kx]; exact f3) (by rw [ky]; exact f4)
   cases op <;> first | cases hop | skip
   ·rw [g1, g3]; exact (Sim.equal he h k).bindX fun q l b => .pure fun _ _ => VR.bool _ _
   ·rw [g2, g4]; exact (Sim.equal he h k).bindX fun q l b => .pure fun _ _ => VR.bool _ _
def guardOk (x y : Value) : Bool :=
 match x, y with
 | .agg _, .agg _ => flat1 x && flat1 y
 | _, _ => true
theorem eqGuard_none {op : BinOp} {t : TypeId} {a b : Operand} {x y : Value} (h1 : ¬ (nilOf x = 1 ∧ nilOf y = 1)) (h2 : ¬ (nilOf x = 2 ∧ nilOf y = 2)) : Go.eqGuard op t a b x y = Pure.pure () := by
 unfold Go.eqGuard
 cases x <;> cases y <;> first | exact (h1 ⟨rfl, rfl⟩).elim | exact (h2 ⟨rfl, rfl⟩).elim | exact ite_self _
theorem Sim.eqGuard {op : BinOp} {t : TypeId} {a b : Operand} {x x' y y' : Value} (hok : guardOk x y = true) (h : VR p x x') (k : VR p y y') : Sim C p EqA (Go.eqGuard op t a b x y) (Go.eqGuard op t a b x' y') := by
 by_cases h1 : nilOf x = 1 ∧ nilOf y = 1
 ·have ix := h.inv
  have iy := k.inv
  cases x <;> first | (simp [nilOf] at h1; done) | skip
  cases y <;> first | (simp [nilOf] at h1; done) | skip
  obtain rfl := ix; obtain rfl := iy
  unfold Go.eqGuard
  refine .ite (fun _ => .pure fun _ _ => rfl) fun _ => ?_
  refine .ite (fun _ => .pure fun _ _ => rfl) fun _ => ?_
  refine (Sim.eqGuardIn _ _ rfl rfl).bindE fun q l b => ?_
  exact .ite (fun _ => .unsupported) fun _ => .pure fun _ _ => rfl
 ·by_cases h2 : nilOf x = 2 ∧ nilOf y = 2
  ·cases x <;> first | (simp [nilOf] at h2; done) | skip
   cases y <;> first | (simp [nilOf] at h2; done) | skip
   rename_i u v
   have hh : flat1 (.agg u) = true ∧ flat1 (.agg v) = true := by simpa only [guardOk, Bool.and_eq_true] using hok
   obtain rfl := flat_eq hh.1 h
   obtain rfl := flat_eq hh.2 k
   unfold Go.eqGuard
   refine .ite (fun _ => .pure fun _ _ => rfl) fun _ => ?_
   refine Sim.askProgram.bind fun q2 l2 P1 P2 hP => ?_
   obtain ⟨rfl, rfl⟩ := hP
   refine Sim.askProgram.bind fun q2 l2 P1 P2 hP => ?_
   obtain ⟨rfl, rfl⟩ := hP
   refine .ite (fun _ => .pure fun _ _ => rfl) fun _ => ?_
   refine (Sim.eqGuardIn _ _ hh.1 hh.2).bindE fun q l b => ?_
   exact .ite (fun _ => .unsupported) fun _ => .pure fun _ _ => rfl
  ·rw [eqGuard_none h1 h2, eqGuard_none (by rw [nilOf_eq h, nilOf_eq k]; exact h1) (by rw [nilOf_eq h, nilOf_eq k]; exact h2)]
   exact .pure fun _ _ => rfl
theorem Sim.loopV {σ : Type} {f f' : Value → σ → Sem (ForInStep σ)} : ∀ (l l' : List Value) (s : σ), Arr (VR p) l.toArray l'.toArray →
 (∀ q, Le p q → ∀ u v r, VR q u v → Sim C q EqA (f u r) (f' v r)) → Sim C p EqA (forIn l s f) (forIn l' s f') := by
 intro l
 induction l generalizing p with
 | nil =>
  intro l' s h _
  obtain rfl := List.eq_nil_of_length_eq_zero (l := l') (by simpa using h.1.symm)
  exact .pure fun _ _ => rfl
 | cons x l ih =>
  intro l' s h k
  cases l' with
  | nil => simp [Arr] at h
  | cons y l' =>
   rw [List.forIn_cons, List.forIn_cons]
   refine (k p (Le.refl _) x y s (h.2 0 x y (by simp) (by simp))).bindX fun q l1 v => ?_
   cases v with
   | done b => exact .pure fun _ _ => rfl
   | yield b =>
    refine ih l' b ⟨by simpa using h.1, fun j u v e f => (h.2 (j + 1) u v (by simpa using e) (by simpa using f)).le l1⟩ fun q1 l2 => k q1 (l1.trans l2)
theorem Sim.bytesToString {x x' : Value} (h : VR p x x') : Sim C p VR (Conv.bytesToString x) (Conv.bytesToString x') := by
 unfold Conv.bytesToString
 have ix := h.inv
 split
 ·obtain rfl := ix
  exact .pure fun _ _ => VR.str _ _
 ·obtain ⟨b, c', rfl, hab, _⟩ := ix
  dsimp only
  refine (Sim.loadCells hab _).bind fun q l x y hx => ?_
  refine Sim.bindX (e := forIn x ByteArray.empty _) (e' := forIn y ByteArray.empty _) ?_ fun q1 l1 s => .pure fun _ _ => VR.str _ _
  rw [← Array.forIn_toList, ← Array.forIn_toList]
  refine Sim.loopV _ _ _ (by simpa using hx) fun q1 l1 u v r huv => ?_
  have i := huv.inv
  split
  ·obtain rfl := i; exact .pure fun _ _ => rfl
  ·exact .no fun s => rfl
 ·exact .stuck
def convOk (P : Program) (s d : TypeId) (x : Value) : Bool :=
 match P.underlying s, P.underlying d, x with
 | _, some (.int _), .int _ _ => true
 | _, some .string, .int _ _ => true
 | _, some .string, .string _ => true
 | some (.slice e), some .string, .slice _ _ _ => (match P.underlying e with | some (.int .u8) => true | _ => false)
 | _, _, _ => false
theorem Sim.convert {s d : TypeId} {x x' : Value} (hok : convOk C.P s d x = true) (h : VR p x x') : Sim C p VR (Go.convert s d x) (Go.convert s d x') := by
 unfold Go.convert
 have ix := h.inv
 refine (Sim.under _).bind fun q l a b hab => ?_
 obtain ⟨rfl, ha⟩ := hab
 refine (Sim.under _).bind fun q1 l1 b b' hb => ?_
 obtain ⟨rfl, hb⟩ := hb
 unfold convOk at hok
 rw [ha, hb] at hok
 split at hok
 ·rename_i h2
  cases h2
  obtain rfl := ix
  cases a <;> exact .pure fun _ _ => VR.int _ _ _
 ·rename_i h2
  cases h2
  obtain rfl := ix
  cases a <;> exact .pure fun _ _ => VR.str _ _
 ·rename_i h2
  cases h2
  obtain rfl := ix
  cases a <;> exact .pure fun _ _ => VR.str _ _
 ·rename_i h1 h2
  cases h1; cases h2
  rename_i e a n m
  have fin : Sim C q1 VR (do match ← underlying e with | .int .u8 => Conv.bytesToString (.slice a n m) | .int .i32 => Conv.runesToString (.slice a n m) | _ => Go.stuck "Convert: a slice of what to string?") (do match ← underlying e with | .int .u8 => Conv.bytesToString x' | .int .i32 => Conv.runesToString x' | _ => Go.stuck "Convert: a slice of what to string?") := by
   refine (Sim.under _).bind fun q2 l2 b b' hb => ?_
   obtain ⟨rfl, hb⟩ := hb
   rw [hb] at hok
   split at hok
   ·rename_i h1; cases h1; exact Sim.bytesToString (((h.le l).le l1).le l2)
   ·cases hok
  cases a with
  | none => obtain rfl := ix; exact fin
  | some a => obtain ⟨b, c', rfl, _⟩ := ix; exact fin
 ·cases hok
theorem Sim.lenOf {x x' : Value} (h : VR p x x') : Sim C p EqA (Builtin.lenOf x) (Builtin.lenOf x') := by
 unfold Builtin.lenOf
 have ix := h.inv
 split
 ·rename_i a n c
  cases a with
  | none => obtain rfl := ix; exact .pure fun _ _ => rfl
  | some a => obtain ⟨b, c', rfl, _⟩ := ix; exact .pure fun _ _ => rfl
 ·obtain rfl := ix; exact .pure fun _ _ => rfl
 ·exact .stuck
theorem Arr.same {x : Array Value} (h : ∀ v ∈ x, leaf v = true) : Arr (VR p) x x := Arr.flat (List.all_eq_true.2 fun v hv => h v (by simpa using hv))
theorem Sim.firstCells {x x' : Value} (h : VR p x x') (size n : Nat) : Sim C p ArrA (Builtin.firstCells size n x) (Builtin.firstCells size n x') := by
 unfold Builtin.firstCells
 have ix := h.inv
 split
 ·obtain ⟨b, c', rfl, hab, _⟩ := ix; exact Sim.loadCells hab _
 ·obtain rfl := ix; exact .pure fun _ _ => .nil
 ·obtain rfl := ix
  refine .pure fun q l => Arr.same fun v hv => ?_
  simp only [Array.mem_map] at hv
  obtain ⟨b, _, rfl⟩ := hv
  rfl
 ·exact .stuck
theorem Sim.len {args args' : Array Value} (h : Arr (VR p) args args') (ts : Array TypeId) (t : TypeId) : Sim C p VR (Builtin.len_ ts t args) (Builtin.len_ ts t args') := by
 unfold Builtin.len_
 cases e0 : args[0]? with
 | none => exact .no fun s => by cases ts[0]? <;> rfl
 | some m =>
  obtain ⟨m', e0', hm⟩ := h.get e0
  rw [e0']
  cases ts[0]? with
  | none => exact .stuck
  | some mt =>
   dsimp only
   refine (Sim.underE _).bindE fun q lq d => ?_
   have hm := hm.le lq
   have ix := hm.inv
   split
   ·obtain rfl := ix; exact .pure fun _ _ => VR.int _ _ _
   ·exact .pure fun _ _ => VR.int _ _ _
   ·refine (Sim.underE _).bindE fun q1 l1 d => ?_
    split
    ·exact .pure fun _ _ => VR.int _ _ _
    ·exact .stuck
   ·rename_i a n c _
    cases a with
    | none => obtain rfl := ix; exact .pure fun _ _ => VR.int _ _ _
    | some a => obtain ⟨b, c', rfl, _⟩ := ix; exact .pure fun _ _ => VR.int _ _ _
   ·obtain rfl := ix; exact .pure fun _ _ => VR.int _ _ _
   ·obtain rfl := ix; exact .pure fun _ _ => VR.int _ _ _
   ·obtain ⟨r', kk, rfl, hr⟩ := ix
    refine (Sim.getObj hr).bind fun q1 l1 o o' ho => ?_
    obtain ⟨h1, h2⟩ := ho
    cases o with
    | map es cl =>
     obtain ⟨es', rfl, he⟩ := h1
     dsimp only
     rw [he.1]
     exact .pure fun _ _ => VR.int _ _ _
    | _ => exact .stuck
   ·exact ix.elim
   ·exact .stuck
theorem Sim.copy {args args' : Array Value} (h : Arr (VR p) args args') (ts : Array TypeId) (t : TypeId) : Sim C p VR (Builtin.copy_ ts t args) (Builtin.copy_ ts t args') := by
 unfold Builtin.copy_
 cases e0 : args[0]? with
 | none => exact .no fun s => by cases ts[0]? <;> rfl
 | some m =>
  cases e1 : args[1]? with
  | none => exact .no fun s => by cases ts[0]? <;> rfl
  | some k =>
   obtain ⟨m', e0', hm⟩ := h.get e0
   obtain ⟨k', e1', hk⟩ := h.get e1
   rw [e0', e1']
   cases ts[0]? with
   | none => exact .stuck
   | some mt =>
    dsimp only
    refine (Sim.underE _).bindE fun q lq d => ?_
    have hm := hm.le lq
    have hk := hk.le lq
    have ix := hm.inv
    split
    ·split
     ·rename_i a n c _
      cases a with
      | none =>
       obtain rfl := ix
       refine (Sim.lenOf hk).bindX fun q1 l1 n1 => ?_
       refine (Sim.sizeOf _).bindE fun q2 l2 n2 => ?_
       exact (Sim.firstCells ((hk.le l1).le l2) _ _).bind fun q3 l3 x y hx => .pure fun _ _ => VR.int _ _ _
      | some a =>
       obtain ⟨b, c', rfl, hab, _⟩ := ix
       refine (Sim.lenOf hk).bindX fun q1 l1 n1 => ?_
       refine (Sim.sizeOf _).bindE fun q2 l2 n2 => ?_
       refine (Sim.firstCells ((hk.le l1).le l2) _ _).bind fun q3 l3 x y hx => ?_
       exact (Sim.storeCells _ _ (((hab.le l1).le l2).le l3) (by simpa using hx) 0).bind fun q4 l4 _ _ _ => .pure fun _ _ => VR.int _ _ _
     ·exact .stuck
    ·exact .stuck
def allInts (args : Array Value) : Bool := args.toList.all fun v => match v with | .int _ _ => true | _ => false
theorem Sim.intsFold {f : Value → Value → Sem Value} (hf : ∀ k x j y, ∃ k' z, f (.int k x) (.int j y) = Pure.pure (.int k' z)) : ∀ (l : List Value) (v : Value), (∃ k x, v = .int k x) → (∀ u ∈ l, ∃ k x, u = .int k x) → ∃ k x, l.foldlM f v = (Pure.pure (.int k x) : Sem Value) := by
 intro l
 induction l with
 | nil => rintro v ⟨k, x, rfl⟩ _; exact ⟨k, x, rfl⟩
 | cons u l ih =>
  rintro v ⟨k, x, rfl⟩ h
  obtain ⟨j, y, rfl⟩ := h u (by simp)
  obtain ⟨k', z, e⟩ := hf k x j y
  rw [List.foldlM_cons, e, pure_bind]
  exact ih _ ⟨k', z, rfl⟩ fun u hu => h u (by simp [hu])
theorem ints_eq {args args' : Array Value} (hk : allInts args = true) (h : Arr (VR p) args args') : args' = args := by
 refine leafs_eq ?_ h
 refine List.all_eq_true.2 fun v hv => ?_
 have := List.all_eq_true.1 hk v hv
 cases v <;> first | rfl | cases this
theorem Sim.max {args args' : Array Value} (hk : allInts args = true) (h : Arr (VR p) args args') (ts : Array TypeId) (t : TypeId) : Sim C p VR (Builtin.max_ ts t args) (Builtin.max_ ts t args') := by
 obtain rfl := ints_eq hk h
 unfold Builtin.max_
 have hi : ∀ u ∈ args'.toList, ∃ k x, u = .int k x := by
  intro u hu
  have := List.all_eq_true.1 hk u hu
  cases u <;> first | exact ⟨_, _, rfl⟩ | cases this
 cases e : args'.toList with
 | nil => exact .stuck
 | cons x rest =>
  rw [e] at hi
  obtain ⟨k, n, e2⟩ := Sim.intsFold (f := Builtin.max2) (fun k x j y => ⟨k, _, rfl⟩) rest x (hi x (by simp)) fun u hu => hi u (by simp [hu])
  dsimp only
  rw [e2]
  exact .pure fun _ _ => VR.int _ _ _
theorem Sim.min {args args' : Array Value} (hk : allInts args = true) (h : Arr (VR p) args args') (ts : Array TypeId) (t : TypeId) : Sim C p VR (Builtin.min_ ts t args) (Builtin.min_ ts t args') := by
 obtain rfl := ints_eq hk h
 unfold Builtin.min_
 have hi : ∀ u ∈ args'.toList, ∃ k x, u = .int k x := by
  intro u hu
  have := List.all_eq_true.1 hk u hu
  cases u <;> first | exact ⟨_, _, rfl⟩ | cases this
 cases e : args'.toList with
 | nil => exact .stuck
 | cons x rest =>
  rw [e] at hi
  obtain ⟨k, n, e2⟩ := Sim.intsFold (f := Builtin.min2) (fun k x j y => ⟨k, _, rfl⟩) rest x (hi x (by simp)) fun u hu => hi u (by simp [hu])
  dsimp only
  rw [e2]
  exact .pure fun _ _ => VR.int _ _ _
theorem Sim.clear (hz : Zok C.P) {args args' : Array Value} (h : Arr (VR p) args args') (ts : Array TypeId) (t : TypeId) : Sim C p VR (Builtin.clear_ ts t args) (Builtin.clear_ ts t args') := by
 unfold Builtin.clear_
 cases e0 : args[0]? with
 | none => exact .no fun s => by cases ts[0]? <;> rfl
 | some x =>
  obtain ⟨x', e1, hx⟩ := h.get e0
  rw [e1]
  cases ts[0]? with
  | none => exact .stuck
  | some t0 =>
   dsimp only
   refine (Sim.underE t0).bindE fun q l d => ?_
   have hx := hx.le l
   have i := hx.inv
   cases x with
   | map r =>
    cases r with
    | none => obtain rfl := i; exact .pure fun _ _ => VR.undef _
    | some r =>
     obtain ⟨r', k, rfl, hr⟩ := i
     refine Sim.entries (f := fun es cl => do Go.setObj r (.map #[] cl); Pure.pure (Value.tuple #[])) (f' := fun es cl => do Go.setObj r' (.map #[] cl); Pure.pure (Value.tuple #[])) (g := do Go.stuck "clear: map expected"; Pure.pure (Value.tuple #[])) (g' := do Go.stuck "clear: map expected"; Pure.pure (Value.tuple #[])) hr (fun _ => rfl) fun q2 l2 es es' cl he _ => ?_
     exact (Sim.setMap (l2 _ _ hr) fun _ _ => ⟨rfl, by simp⟩).bind fun q3 l3 _ _ _ => .pure fun _ _ => VR.undef _
   | slice a n c =>
    cases a with
    | none => obtain rfl := i; exact .pure fun _ _ => VR.undef _
    | some a =>
     obtain ⟨b, c', rfl, hab, _⟩ := i
     cases n with
     | zero => exact .pure fun _ _ => VR.undef _
     | succ n =>
      cases d with
      | slice e =>
       refine (Sim.zero hz e).bind fun q2 l2 z z' hzz => ?_
       refine Sim.bind (Sim.storeCells _ _ (hab.le l2) ?_ 0) fun q3 l3 _ _ _ => .pure fun _ _ => VR.undef _
       have := zeroMap_rel hzz.cells ((n + 1) * z.cells.size)
       simp only [Array.toArray_toList]
       unfold Builtin.zeroCells
       have e := hzz.cells.1
       rw [show (n + 1) * z'.cells.size = (n + 1) * z.cells.size by rw [e]]
       exact this
      | _ => exact .no fun _ => rfl
   | _ => exact .no fun _ => rfl
def DR (p : Rn) (d e : Deferred) : Prop := ∃ f x x', d.target = .fn f x ∧ e.target = .fn f x' ∧ noYield f = true ∧ Arr (VR p) x x' ∧ Arr (VR p) d.args e.args
theorem DR.le {q : Rn} {d e : Deferred} (h : DR p d e) (l : Le p q) : DR q d e := by
 obtain ⟨f, x, x', h1, h2, h3, h4, h5⟩ := h
 exact ⟨f, x, x', h1, h2, h3, h4.le l, h5.le l⟩
def NA : Rn → Next → Next → Prop
 | q, .value v, .value v' => VR q v v'
 | _, .skip, .skip => True
 | q, .enter f x, .enter g y => f = g ∧ Arr (VR q) x y
 | q, .defer d, .defer e => DR q d e
 | _, .recover, .recover => True
 | _, _, _ => False
theorem NA.le {q : Rn} {d e : Next} (h : NA p d e) (l : Le p q) : NA q d e := by
 cases d <;> cases e <;> first | exact h.elim | exact VR.le h l | exact ⟨h.1, Arr.le h.2 l⟩ | exact DR.le h l | exact h
theorem Sim.val {e e' : Sem Value} (h : Sim C p VR e e') : Sim C p NA (do Pure.pure (.value (← e))) (do Pure.pure (.value (← e'))) := h.bind fun q l v v' hv => .pure fun q1 l1 => hv.le l1
theorem Sim.unitN {e e' : Sem Unit} (h : Sim C p (fun _ _ _ => True) e e') : Sim C p NA (do e; Pure.pure .skip) (do e'; Pure.pure .skip) := h.bind fun q l v v' hv => .pure fun q1 l1 => trivial
def builtinOk (b : Builtin) (args : Array Value) : Bool :=
 match b with
 | .len | .copy | .recover | .clear => true
 | .delete => (match args[1]? with | some k => flat1 k | none => true)
 | .max | .min => allInts args
 | _ => false
theorem Sim.builtin (hz : Zok C.P) {b : Builtin} {args args' : Array Value} (hok : builtinOk b args = true) (h : Arr (VR p) args args') (ts : Array TypeId) (t : TypeId) (cs : Array Bool) : Sim C p NA (Go.builtin b ts t cs args) (Go.builtin b ts t cs args') := by
 unfold Go.builtin
 unfold builtinOk at hok
 cases b <;> first | (cases hok; done) | skip
 ·exact (Sim.clear hz h ts t).val
 ·exact (Sim.copy h ts t).val
 ·refine (Sim.delete h (fun k hk => ?_) ts t).val
  simp only [hk] at hok
  exact hok
 ·exact (Sim.len h ts t).val
 ·exact (Sim.max hok h ts t).val
 ·exact (Sim.min hok h ts t).val
 ·exact .pure fun _ _ => trivial
def opOk (P : Program) (v : Operand → Value) (o : Oper) : Bool :=
 match o.op with
 | .buildSlice _ n _ => decide (n < unk)
 | .move _ | .assign _ | .pick _ _ _ | .alloc _ | .box _ _ | .build _ _ | .load _ _ | .store _ _ _ | .unOp _ _ _ | .makeInterface _ _ | .makeMap _ _ | .makeSlice _ _ _ | .fieldAddr _ _ _ | .field _ _ _ | .indexAddr _ _ _ | .index _ _ _
 | .entryStore _ _ _ _ | .range _ _ | .next _ _ | .entry _ | .typeAssert _ _ _ _ | .extract _ _ => true
 | .nilCheck x => (match v x with | .func (.method _) _ _ => false | _ => true)
 | .binOp op t x y _ => guardOk (v x) (v y) && binOk P op t (v x) (v y)
 | .convert s d x => convOk P s d (v x)
 | .makeFunc f _ _ => noYield f
 | .slice t x _ _ _ => known (v x) && (match P.underlying t with | some (.pointer _) => false | some (.array n _) => decide (n < unk) | _ => true)
 | .lookup _ _ k _ | .mapUpdate _ _ k _ | .insert _ _ k _ | .mapEntry _ _ k => flat1 (v k)
 | .panic x => (match v x with | .iface _ _ => true | _ => false)
 | .call { callee := .builtin b, args, .. } => builtinOk b (args.map v)
 | _ => false
theorem Sim.exec (hz : Zok C.P) {v v' : Operand → Value} {o : Oper} (hok : opOk C.P v o = true) (h : ∀ x ∈ o.op.operands, VR p (v x) (v' x)) : Sim C p NA (execOp v o) (execOp v' o) := by
 unfold execOp
 unfold opOk at hok
 have OVm : ∀ (x : Option Operand), (∀ y, x = some y → VR p (v y) (v' y)) → OV p (x.map v) (x.map v') := by
  intro x hx
  cases x with
  | none => trivial
  | some y => exact hx y rfl
 have PLm : ∀ (ps : Array (Nat × Operand)), (∀ x ∈ ps, VR p (v x.2) (v' x.2)) → PL p (ps.map fun (i, x) => (i, v x)).toList (ps.map fun (i, x) => (i, v' x)).toList := by
  intro ps hp
  refine ⟨by simp, fun i a b ea eb => ?_⟩
  simp only [Array.toList_map, List.getElem?_map, Option.map_eq_some_iff] at ea eb
  obtain ⟨x, hx, rfl⟩ := ea
  obtain ⟨y, hy, rfl⟩ := eb
  rw [hx] at hy; cases hy
  exact ⟨rfl, hp x (by simpa using List.mem_of_getElem? hx)⟩
 cases e : o.op with
 | move x => rw [e] at h; exact .pure fun q l => (h x (by simp [Op.operands])).le l
 | assign x => rw [e] at h; exact .pure fun q l => (h x (by simp [Op.operands])).le l
 | pick c a b =>
  rw [e] at h
  refine (Sim.asBool (h c (by simp [Op.operands]))).bindX fun q l t => .pure fun q1 l1 => ?_
  have ha := ((h a (by simp [Op.operands])).le l).le l1
  have hb := ((h b (by simp [Op.operands])).le l).le l1
  cases t
  ·exact hb
  ·exact ha
 | alloc t => exact (Sim.alloc hz t).val
 | box t x => rw [e] at h; exact (Sim.box (h x (by simp [Op.operands])) t).val
 | build t ps =>
  rw [e] at h
  refine (Sim.build hz t (PLm ps fun x hx => h x.2 ?_)).val
  simp only [Op.operands, List.mem_toArray, List.mem_map]
  exact ⟨x, by simpa using hx, rfl⟩
 | buildSlice t n ps =>
  rw [e] at h hok
  refine (Sim.buildSlice hz t n (by simpa using hok) (PLm ps fun x hx => h x.2 ?_)).val
  simp only [Op.operands, List.mem_toArray, List.mem_map]
  exact ⟨x, by simpa using hx, rfl⟩
 | insert t m k x =>
  rw [e] at h hok
  exact (Sim.mapUpdate (h m (by simp [Op.operands])) (h k (by simp [Op.operands])) hok (h x (by simp [Op.operands])) t).unitN
 | load t a => rw [e] at h; exact (Sim.loadAt (h a (by simp [Op.operands])) t).val
 | store t a x => rw [e] at h; exact (Sim.storeAt (h a (by simp [Op.operands])) (h x (by simp [Op.operands])) t).unitN
 | nilCheck x =>
  rw [e] at h hok
  have hx := h x (by simp [Op.operands])
  have ix := hx.inv
  dsimp only at hok ⊢
  generalize v x = u at *
  generalize v' x = u' at *
  cases u with
  | pointer a => cases a with
   | none => obtain rfl := ix; exact (Sim.runtimePanic _)
   | some a => obtain ⟨b, rfl, _⟩ := ix; exact .pure fun q l => hx.le l
  | nilIface => obtain rfl := ix; exact (Sim.runtimePanic _)
  | nilFunc => obtain rfl := ix; exact (Sim.runtimePanic _)
  | func f x y =>
   obtain ⟨x', y', rfl, _⟩ := ix
   cases f <;> first | (cases hok; done) | exact .pure fun q l => hx.le l
  | agg x => obtain ⟨x', rfl, a⟩ := ix; exact .pure fun q l => hx.le l
  | slice a l c => cases a with
   | none => obtain rfl := ix; exact .pure fun q l => hx.le l
   | some a => obtain ⟨b, c', rfl, _⟩ := ix; exact .pure fun q l => hx.le l
  | map r => cases r with
   | none => obtain rfl := ix; exact .pure fun q l => hx.le l
   | some r => obtain ⟨b, c', rfl, _⟩ := ix; exact .pure fun q l => hx.le l
  | chan r => cases r with
   | none => obtain rfl := ix; exact .pure fun q l => hx.le l
   | some r => exact ix.elim
  | iface t u => obtain ⟨x', rfl, _⟩ := ix; exact .pure fun q l => hx.le l
  | tuple x => obtain ⟨x', rfl, _⟩ := ix; exact .pure fun q l => hx.le l
  | bool b => obtain rfl := ix; exact .pure fun q l => hx.le l
  | int k n => obtain rfl := ix; exact .pure fun q l => hx.le l
  | float k n => obtain rfl := ix; exact .pure fun q l => hx.le l
  | complex k n m => obtain rfl := ix; exact .pure fun q l => hx.le l
  | string s => obtain rfl := ix; exact .pure fun q l => hx.le l
 | binOp op t x y u =>
  rw [e] at h hok
  simp only [Bool.and_eq_true] at hok
  have hx := h x (by simp [Op.operands])
  have hy := h y (by simp [Op.operands])
  exact ((Sim.eqGuard hok.1 hx hy).bindX fun q l _ => Sim.binOp hok.2 (hx.le l) (hy.le l)).val
 | unOp op t x => rw [e] at h; exact (Sim.unary op (h x (by simp [Op.operands]))).val
 | convert s d x => rw [e] at h hok; exact (Sim.convert hok (h x (by simp [Op.operands]))).val
 | makeInterface t x => rw [e] at h; exact (Sim.makeInterface (h x (by simp [Op.operands])) t).val
 | makeFunc f x y =>
  rw [e] at h hok
  exact (Sim.makeFunc f hok (Arr.map fun z hz => h z (by simp [Op.operands, hz])) (Arr.map fun z hz => h z (by simp [Op.operands, hz]))).val
 | makeMap t r =>
  rw [e] at h
  refine (Sim.makeMap t (OVm r fun y hy => h y ?_)).val
  simp [Op.operands, hy]
 | makeSlice t a b => rw [e] at h; exact (Sim.makeSlice hz (h a (by simp [Op.operands])) (h b (by simp [Op.operands])) t).val
 | slice t x lo hi mx =>
  rw [e] at h hok
  simp only [Bool.and_eq_true] at hok
  refine (Sim.sliceAt hok.1 (fun e he => ?_) (fun n e he => ?_) (h x (by simp [Op.operands])) (OVm lo fun y hy => h y ?_) (OVm hi fun y hy => h y ?_) (OVm mx fun y hy => h y ?_)).val
  ·have := hok.2; rw [he] at this; cases this
  ·have := hok.2; rw [he] at this; simpa using this
  all_goals simp [Op.operands, hy]
 | fieldAddr t x f => rw [e] at h; exact (Sim.fieldAt (h x (by simp [Op.operands])) t f).val
 | field t x f => rw [e] at h; exact (Sim.field (h x (by simp [Op.operands])) t f).val
 | indexAddr t x i => rw [e] at h; exact (Sim.indexAt (h x (by simp [Op.operands])) (h i (by simp [Op.operands])) t).val
 | index t x i => rw [e] at h; exact (Sim.index (h x (by simp [Op.operands])) (h i (by simp [Op.operands])) t).val
 | lookup t x i ok => rw [e] at h hok; exact (Sim.lookup hz (h x (by simp [Op.operands])) (h i (by simp [Op.operands])) hok t ok).val
 | mapUpdate t m k x =>
  rw [e] at h hok
  exact (Sim.mapUpdate (h m (by simp [Op.operands])) (h k (by simp [Op.operands])) hok (h x (by simp [Op.operands])) t).unitN
 | mapEntry t m k => rw [e] at h hok; exact (Sim.mapEntry hz (h m (by simp [Op.operands])) (h k (by simp [Op.operands])) hok t).val
 | entryStore t m k x =>
  rw [e] at h
  exact (Sim.entryStore (h m (by simp [Op.operands])) (h k (by simp [Op.operands])) (h x (by simp [Op.operands])) t).unitN
 | range t x => rw [e] at h; exact (Sim.range (h x (by simp [Op.operands])) t).val
 | next x b => rw [e] at h; exact (Sim.next (h x (by simp [Op.operands])) b _).val
 | entry x => rw [e] at h; exact (Sim.entry (h x (by simp [Op.operands]))).val
 | typeAssert x t u ok => rw [e] at h; exact (Sim.typeAssert hz (h x (by simp [Op.operands])) t u ok).val
 | extract x i => rw [e] at h; exact (Sim.extract (h x (by simp [Op.operands])) i).val
 | panic x =>
  rw [e] at h hok
  have hx := h x (by simp [Op.operands])
  have ix := hx.inv
  dsimp only at hok ⊢
  generalize v x = u at *
  generalize v' x = u' at *
  cases u <;> first | (cases hok; done) | skip
  obtain ⟨y, rfl, hy⟩ := ix
  exact (Sim.panic (A := VR) fun _ q l => hx.le l).val
 | call c =>
  rw [e] at h hok
  obtain ⟨cal, args, ts⟩ := c
  cases cal <;> first | (cases hok; done) | skip
  refine Sim.builtin hz hok (Arr.map fun z hz => h z ?_) _ _ _
  simp [Op.operands, Call.operands, hz]
 | _ => rw [e] at hok; cases hok
end
end Go.Ex
