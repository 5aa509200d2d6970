/-
  The relation between a plain run and the run in memory: names of blocks in place of blocks.
  Conditions: none. (No program is named here.)
-/
import Derived.KernelRfl
import Derived.Below
import Derived.Defers
import Derived.Recover
import Derived.Orders
import Derived.WalkKit
namespace Go.Ex
set_option linter.unusedVariables false
open Go.RowKit

/-- Where a name's block lies, and what room it has. -/
abbrev Rn := Nat → Option (Nat × Nat)
def Le (p q : Rn) : Prop := ∀ n b, p n = some b → q n = some b
theorem Le.refl (p : Rn) : Le p p := fun _ _ h => h
theorem Le.trans {p q r : Rn} (h : Le p q) (k : Le q r) : Le p r := fun n b e => k n b (h n b e)

def unk : Nat := 18446744073709551616

def AR (p : Rn) (a b : Addr) : Prop := (∃ k, p a.block = some (b.block, k)) ∧ b.off = a.off ∧ b.spot = a.spot
theorem AR.le {p q : Rn} {a b : Addr} (h : AR p a b) (l : Le p q) : AR q a b := ⟨h.1.imp fun _ e => l _ _ e, h.2⟩

def Arr (R : Value → Value → Prop) (x y : Array Value) : Prop := x.size = y.size ∧ ∀ (i : Nat) (u v : Value), x[i]? = some u → y[i]? = some v → R u v
theorem Arr.mono {R R' : Value → Value → Prop} {x y : Array Value} (h : Arr R x y) (k : ∀ u v, R u v → R' u v) : Arr R' x y := ⟨h.1, fun i u v a b => k _ _ (h.2 i u v a b)⟩

def leaf : Value → Bool
  | .bool _ | .int _ _ | .float _ _ | .complex _ _ _ | .string _ | .pointer none | .slice none _ _ | .map none | .chan none | .nilFunc | .nilIface => true
  | _ => false
def noYield : Fn → Bool
  | .yield _ => false
  | _ => true

structure VCl (p : Rn) (R : Value → Value → Prop) : Prop where
  leaf : ∀ v, leaf v = true → R v v
  ptr : ∀ a b, AR p a b → R (.pointer (some a)) (.pointer (some b))
  sl : ∀ a b l c, c < unk → AR p a b → R (.slice (some a) l c) (.slice (some b) l c)
  slU : ∀ a b l c k, p a.block = some (b.block, k) → b.off = a.off → b.spot = a.spot → l ≤ c → c ≤ k → R (.slice (some a) l unk) (.slice (some b) l c)
  mp : ∀ r r' k, p r = some (r', k) → R (.map (some r)) (.map (some r'))
  fn : ∀ f x y x' y', noYield f = true → Arr R x x' → Arr R y y' → R (.func f x y) (.func f x' y')
  ifc : ∀ t v v', R v v' → R (.iface t v) (.iface t v')
  agg : ∀ x x', Arr R x x' → R (.agg x) (.agg x')
  tup : ∀ x x', Arr R x x' → R (.tuple x) (.tuple x')

def VR (p : Rn) (v v' : Value) : Prop := ∀ R, VCl p R → R v v'

theorem VR.cl (p : Rn) : VCl p (VR p) where
  leaf v h := fun R c => c.leaf v h
  ptr a b h := fun R c => c.ptr a b h
  sl a b l k h0 h := fun R c => c.sl a b l k h0 h
  slU a b l c k h1 h2 h3 h4 h5 := fun R d => d.slU a b l c k h1 h2 h3 h4 h5
  mp r r' k h := fun R c => c.mp r r' k h
  fn f x y x' y' h1 h2 h3 := fun R c => c.fn f x y x' y' h1 (h2.mono fun _ _ h => h R c) (h3.mono fun _ _ h => h R c)
  ifc t v v' h := fun R c => c.ifc t v v' (h R c)
  agg x x' h := fun R c => c.agg x x' (h.mono fun _ _ h => h R c)
  tup x x' h := fun R c => c.tup x x' (h.mono fun _ _ h => h R c)

theorem VR.le {p q : Rn} {v v' : Value} (h : VR p v v') (l : Le p q) : VR q v v' := by
  refine h _ ?_
  have c := VR.cl q
  exact ⟨c.leaf, fun a b e => c.ptr a b (e.le l), fun a b n k h0 e => c.sl a b n k h0 (e.le l), fun a b n k K h1 => c.slU a b n k K (l _ _ h1), fun r r' k e => c.mp r r' k (l _ _ e), c.fn, c.ifc, c.agg, c.tup⟩

def VI (p : Rn) : Value → Value → Prop
  | .pointer (some a), v' => ∃ b, v' = .pointer (some b) ∧ AR p a b
  | .slice (some a) l c, v' => ∃ b c', v' = .slice (some b) l c' ∧ AR p a b ∧ (c' = c ∧ c < unk ∨ c = unk ∧ l ≤ c' ∧ ∃ k, p a.block = some (b.block, k) ∧ c' ≤ k)
  | .map (some r), v' => ∃ r' k, v' = .map (some r') ∧ p r = some (r', k)
  | .func f x y, v' => ∃ x' y', v' = .func f x' y' ∧ noYield f = true ∧ Arr (VR p) x x' ∧ Arr (VR p) y y'
  | .iface t v, v' => ∃ u, v' = .iface t u ∧ VR p v u
  | .agg x, v' => ∃ x', v' = .agg x' ∧ Arr (VR p) x x'
  | .tuple x, v' => ∃ x', v' = .tuple x' ∧ Arr (VR p) x x'
  | .chan (some _), _ => False
  | v, v' => v' = v

theorem VR.inv {p : Rn} {v v' : Value} (h : VR p v v') : VI p v v' := by
  have key : VCl p (fun u u' => VR p u u' ∧ VI p u u') := by
    have c := VR.cl p
    have pr : ∀ {x x' : Array Value}, Arr (fun u u' => VR p u u' ∧ VI p u u') x x' → Arr (VR p) x x' := fun h => h.mono fun _ _ h => h.1
    refine ⟨fun v hv => ⟨c.leaf v hv, ?_⟩, fun a b e => ⟨c.ptr a b e, b, rfl, e⟩, fun a b n k h0 e => ⟨c.sl a b n k h0 e, b, k, rfl, e, .inl ⟨rfl, h0⟩⟩, fun a b n k K h1 h2 h3 h4 h5 => ⟨c.slU a b n k K h1 h2 h3 h4 h5, b, k, rfl, ⟨⟨K, h1⟩, h2, h3⟩, .inr ⟨rfl, h4, K, h1, h5⟩⟩,
      fun r r' k e => ⟨c.mp r r' k e, r', k, rfl, e⟩, fun f x y x' y' h1 h2 h3 => ⟨c.fn f x y x' y' h1 (pr h2) (pr h3), x', y', rfl, h1, pr h2, pr h3⟩, fun t v v' e => ⟨c.ifc t v v' e.1, v', rfl, e.1⟩, fun x x' e => ⟨c.agg x x' (pr e), x', rfl, pr e⟩, fun x x' e => ⟨c.tup x x' (pr e), x', rfl, pr e⟩⟩
    unfold Ex.leaf at hv
    split at hv <;> first | rfl | cases hv
  exact (h _ key).2

theorem VR.of_leaf {p : Rn} {v : Value} (h : leaf v = true) : VR p v v := (VR.cl p).leaf v h
theorem VR.bool (p : Rn) (b : Bool) : VR p (.bool b) (.bool b) := VR.of_leaf rfl
theorem VR.int (p : Rn) (k : IntKind) (n : Int) : VR p (.int k n) (.int k n) := VR.of_leaf rfl
theorem VR.str (p : Rn) (s : ByteArray) : VR p (.string s) (.string s) := VR.of_leaf rfl
theorem VR.undef (p : Rn) : VR p undef undef := (VR.cl p).tup _ _ ⟨rfl, by simp⟩

/-- A value that names no block. -/
def flat1 (v : Value) : Bool := leaf v || (match v with | .agg cs => cs.toList.all leaf | .tuple cs => cs.toList.all leaf | .iface _ u => leaf u | .func f x y => noYield f && x.toList.all leaf && y.toList.all leaf | _ => false)
theorem Arr.flat {p : Rn} {cs : Array Value} (h : cs.toList.all leaf = true) : Arr (VR p) cs cs := by
  refine ⟨rfl, fun i u v a b => ?_⟩
  rw [a] at b
  cases b
  refine VR.of_leaf (List.all_eq_true.1 h u ?_)
  exact List.mem_of_getElem? (l := cs.toList) (i := i) (by simpa using a)
theorem VR.of_flat {p : Rn} {v : Value} (h : flat1 v = true) : VR p v v := by
  unfold flat1 at h
  rw [Bool.or_eq_true] at h
  rcases h with h | h
  · exact VR.of_leaf h
  · split at h
    · exact (VR.cl p).agg _ _ (Arr.flat h)
    · exact (VR.cl p).tup _ _ (Arr.flat h)
    · exact (VR.cl p).ifc _ _ _ (VR.of_leaf h)
    · simp only [Bool.and_eq_true] at h
      exact (VR.cl p).fn _ _ _ _ _ h.1.1 (Arr.flat h.1.2) (Arr.flat h.2)
    · cases h

theorem Arr.le {p q : Rn} {x y : Array Value} (h : Arr (VR p) x y) (l : Le p q) : Arr (VR q) x y := h.mono fun _ _ h => h.le l
theorem Arr.get {R : Value → Value → Prop} {x y : Array Value} (h : Arr R x y) {i : Nat} {u : Value} (e : x[i]? = some u) : ∃ v, y[i]? = some v ∧ R u v := by
  have hi : i < x.size := (Array.getElem?_eq_some_iff.1 e).1
  exact ⟨y[i]'(h.1 ▸ hi), by simp, h.2 i _ _ e (by simp)⟩
theorem Arr.none {R : Value → Value → Prop} {x y : Array Value} (h : Arr R x y) {i : Nat} (e : x[i]? = none) : y[i]? = none := by
  rw [Array.getElem?_eq_none_iff] at *; have := h.1; omega
theorem Arr.nil {R : Value → Value → Prop} : Arr R #[] #[] := ⟨rfl, by simp⟩
theorem Arr.one {R : Value → Value → Prop} {u v : Value} (h : R u v) : Arr R #[u] #[v] := by
  refine ⟨rfl, fun i a b e f => ?_⟩
  have hi : i < 1 := (Array.getElem?_eq_some_iff.1 e).1
  obtain rfl : i = 0 := by omega
  simp at e f; subst e; subst f; exact h
theorem Arr.append {R : Value → Value → Prop} {x y x' y' : Array Value} (h : Arr R x x') (k : Arr R y y') : Arr R (x ++ y) (x' ++ y') := by
  refine ⟨by simp [h.1, k.1], fun i u v a b => ?_⟩
  rw [Array.getElem?_append] at a b
  rw [← h.1] at b
  split at a
  · rename_i hi; rw [if_pos hi] at b; exact h.2 i u v a b
  · rename_i hi; rw [if_neg hi] at b; exact k.2 _ u v a b
theorem Arr.push {R : Value → Value → Prop} {x x' : Array Value} {u v : Value} (h : Arr R x x') (k : R u v) : Arr R (x.push u) (x'.push v) := by
  have := h.append (Arr.one k)
  simpa using this
theorem Arr.extract {R : Value → Value → Prop} {x y : Array Value} (h : Arr R x y) (a b : Nat) : Arr R (x.extract a b) (y.extract a b) := by
  refine ⟨by simp [h.1], fun i u v e f => ?_⟩
  rw [Array.getElem?_extract] at e f
  rw [← h.1] at f
  split at e
  · rename_i hi; rw [if_pos hi] at f; exact h.2 _ u v e f
  · cases e
theorem Arr.set {R : Value → Value → Prop} {x y : Array Value} {u v : Value} (h : Arr R x y) (k : R u v) (i : Nat) : Arr R (x.setIfInBounds i u) (y.setIfInBounds i v) := by
  refine ⟨by simp [h.1], fun j a b e f => ?_⟩
  rw [Array.getElem?_setIfInBounds] at e f
  rw [← h.1] at f
  split at e
  · rename_i hi; rw [if_pos hi] at f
    split at e
    · rename_i hj; rw [if_pos hj] at f; cases e; cases f; exact k
    · cases e
  · rename_i hi; rw [if_neg hi] at f; exact h.2 j a b e f

theorem VR.cells {p : Rn} {v v' : Value} (h : VR p v v') : Arr (VR p) v.cells v'.cells := by
  have i := h.inv
  cases v with
  | agg x => obtain ⟨x', rfl, a⟩ := i; exact a
  | pointer a => cases a with
    | none => obtain rfl := i; exact .one h
    | some a => obtain ⟨b, rfl, _⟩ := i; exact .one h
  | slice a l c => cases a with
    | none => obtain rfl := i; exact .one h
    | some a => obtain ⟨b, c', rfl, _⟩ := i; exact .one h
  | map r => cases r with
    | none => obtain rfl := i; exact .one h
    | some r => obtain ⟨b, c', rfl, _⟩ := i; exact .one h
  | chan r => cases r with
    | none => obtain rfl := i; exact .one h
    | some r => exact i.elim
  | func f x y => obtain ⟨x', y', rfl, _⟩ := i; exact .one h
  | iface t u => obtain ⟨x', rfl, _⟩ := i; exact .one h
  | tuple x => obtain ⟨x', rfl, _⟩ := i; exact .one h
  | bool b => obtain rfl := i; exact .one h
  | int k n => obtain rfl := i; exact .one h
  | float k n => obtain rfl := i; exact .one h
  | complex k n m => obtain rfl := i; exact .one h
  | string s => obtain rfl := i; exact .one h
  | nilFunc => obtain rfl := i; exact .one h
  | nilIface => obtain rfl := i; exact .one h

theorem Arr.map {R : Value → Value → Prop} {α : Type} {l : Array α} {f g : α → Value} (h : ∀ x ∈ l, R (f x) (g x)) : Arr R (l.map f) (l.map g) := by
  refine ⟨by simp, fun i u v a b => ?_⟩
  simp only [Array.getElem?_map, Option.map_eq_some_iff] at a b
  obtain ⟨x, hx, rfl⟩ := a
  obtain ⟨y, hy, rfl⟩ := b
  rw [hx] at hy; cases hy
  exact h x (Array.mem_of_getElem? hx)

/-- Rows of named things by numbers. -/
def lput {α : Type} (d : α) : List α → Nat → α → List α
  | [], 0, x => [x]
  | [], n + 1, x => d :: lput d [] n x
  | _ :: l, 0, x => x :: l
  | y :: l, n + 1, x => y :: lput d l n x
def lget {α : Type} (d : α) : List α → Nat → α
  | [], _ => d
  | x :: _, 0 => x
  | _ :: l, n + 1 => lget d l n
theorem lget_nil {α : Type} (d : α) (n : Nat) : lget d [] n = d := by cases n <;> rfl
theorem lget_lput {α : Type} (d : α) : ∀ (l : List α) (n : Nat) (x : α) (m : Nat), lget d (lput d l n x) m = if m = n then x else lget d l m
  | [], 0, x, m => by cases m <;> simp [lput, lget]
  | [], n + 1, x, m => by
    cases m with
    | zero => simp [lput, lget]
    | succ m => simp [lput, lget, lget_lput d [] n x m]
  | y :: l, 0, x, m => by cases m <;> simp [lput, lget]
  | y :: l, n + 1, x, m => by
    cases m with
    | zero => simp [lput, lget]
    | succ m => simp [lput, lget, lget_lput d l n x m]

abbrev Tr (α : Type) := List (List (List (Option α)))
def Tr.get {α : Type} (t : Tr α) (n : Nat) : Option α := lget none (lget [] (lget [] t (n / 1024)) (n / 32 % 32)) (n % 32)
def Tr.put {α : Type} (t : Tr α) (n : Nat) (x : Option α) : Tr α :=
  lput [] t (n / 1024) (lput [] (lget [] t (n / 1024)) (n / 32 % 32) (lput none (lget [] (lget [] t (n / 1024)) (n / 32 % 32)) (n % 32) x))
theorem Tr.get_put {α : Type} (t : Tr α) (n : Nat) (x : Option α) (m : Nat) : (t.put n x).get m = if m = n then x else t.get m := by
  simp only [Tr.get, Tr.put, lget_lput]
  by_cases h1 : m / 1024 = n / 1024
  · rw [if_pos h1, lget_lput]
    by_cases h2 : m / 32 % 32 = n / 32 % 32
    · rw [if_pos h2, lget_lput]
      by_cases h3 : m % 32 = n % 32
      · rw [if_pos h3, if_pos (by omega)]
      · rw [if_neg h3, if_neg (by omega), h1, h2]
    · rw [if_neg h2, if_neg (by omega), h1]
  · rw [if_neg h1, if_neg (by omega)]

end Go.Ex
