/-
 Values of package value as plain data: what such a value reads as when it is a map's key, and back; a map from values to values as a plain list.
 Conditions: as each theorem says.
-/
import Derived.Test.YtpboencfnjmmbaaGreatDoorZBase
import Derived.Maps.Range
set_option maxRecDepth 100000
set_option linter.unusedVariables false
namespace Go.Proofs.YtpboencfnjmmbaaGreatDoor
open Go.ChangeShapes Go.WideShapes Go.ChangeAt Go.RowKit Go.Maps
structure Vl where
 k : Int
 n : Int
 s : ByteArray
 deriving DecidableEq
def Vl.val (v : Vl) : Value := .agg #[.int .u8 v.k, .int .i64 v.n, .string v.s]
def Vl.list (v : Vl) : List Value := [.int .u8 v.k, .int .i64 v.n, .string v.s]
structure Vl.wf (v : Vl) : Prop where
 k : (Lit.int .u8 v.k).wf = true
 n : (Lit.int .i64 v.n).wf = true
 s : v.s.size ≤ maxLen
def keyV (v : Vl) : Lit := .string (keyBytes [.int .u8 v.k, .int .i64 v.n, .string v.s.data.toList])
theorem laidOut : laidOutB Tryz.prog = true := by kernel_rfl
theorem rowV : (208 : TypeId) < Tryz.prog.types.size := of_decide_eq_true (by kernel_rfl)
theorem wideV : (match Tryz.prog.underlying 208 with | some (.array _ _) | some (.struct _) => true | _ => false) = true := by kernel_rfl
theorem lawV : Go.WideMaps.KeyLaw Tryz.prog 208 := deep_law_laid laidOut (m := 3) (by omega) rowV (by kernel_rfl) wideV
theorem keyedV : Keyed Tryz.prog 208 := Keyed.of_law lawV
theorem cellsV : Tryz.prog.cellsOf 208 = 3 := by kernel_rfl
theorem cellsKind : Tryz.prog.cellsOf 206 = 1 := by kernel_rfl
theorem cellsN : Tryz.prog.cellsOf 2 = 1 := by kernel_rfl
theorem cellsS : Tryz.prog.cellsOf 9 = 1 := by kernel_rfl
theorem keyTypeV : Tryz.prog.keyType 208 = true := by kernel_rfl
theorem two_of {n : Nat} (h : 20 < n) : ∃ d, n = d + 2 := ⟨n - 2, by omega⟩
theorem key3 {P : Program} {k a b c : TypeId} {n0 n1 n2 g0 g1 g2 p0 p1 p2 : String} {e0 e1 e2 : Bool} {y0 y1 y2 : Nat} {q0 q1 : IntKind} (x y : Int) (t : ByteArray)
 (hu : P.underlying k = some (.struct #[⟨n0, a, 0, e0, g0, p0, y0⟩, ⟨n1, b, 1, e1, g1, p1, y1⟩, ⟨n2, c, 2, e2, g2, p2, y2⟩])) (hk : P.keyType k = true) (hck : P.cellsOf k = 3) (ha : P.cellsOf a = 1) (hb : P.cellsOf b = 1) (hc : P.cellsOf c = 1)
 (ua : P.underlying a = some (.int q0)) (ub : P.underlying b = some (.int q1)) (uc : P.underlying c = some .string) (m0 : n0 ≠ "_") (m1 : n1 ≠ "_") (m2 : n2 ≠ "_") (hs : 20 < P.types.size)
 (wx : (Lit.int q0 x).wf = true) (wy : (Lit.int q1 y).wf = true) (ht : t.size ≤ maxLen) :
 keyOf P k (.agg #[.int q0 x, .int q1 y, .string t]) = some (.string (keyBytes [.int q0 x, .int q1 y, .string t.data.toList])) := by
 obtain ⟨d, hd⟩ := two_of hs
 simp [keyOf, hu, hk, Value.formed, hck, Program.keyLits, Value.cells, ha, hb, hc, hd, ua, ub, uc, wx, wy, ht, m0, m1, m2]
theorem keyInt {P : Program} {t : TypeId} {q : IntKind} {d : Nat} {v : Value} {ls : List Lit} (h : P.underlying t = some (.int q)) (e : P.keyLits (d + 1) t [v] = some ls) : ∃ x, v = .int q x ∧ (Lit.int q x).wf = true := by
 cases v <;> simp [Program.keyLits, h] at e
 obtain ⟨⟨rfl, w⟩, _⟩ := e
 exact ⟨_, rfl, w⟩
theorem keyStr {P : Program} {t : TypeId} {d : Nat} {v : Value} {ls : List Lit} (h : P.underlying t = some .string) (e : P.keyLits (d + 1) t [v] = some ls) : ∃ s, v = .string s ∧ s.size ≤ maxLen := by
 cases v <;> simp [Program.keyLits, h] at e
 exact ⟨_, rfl, e.1⟩
theorem key3_inv {P : Program} {k a b c : TypeId} {n0 n1 n2 g0 g1 g2 p0 p1 p2 : String} {e0 e1 e2 : Bool} {y0 y1 y2 : Nat} {q0 q1 : IntKind}
 (hu : P.underlying k = some (.struct #[⟨n0, a, 0, e0, g0, p0, y0⟩, ⟨n1, b, 1, e1, g1, p1, y1⟩, ⟨n2, c, 2, e2, g2, p2, y2⟩])) (hck : P.cellsOf k = 3) (ha : P.cellsOf a = 1) (hb : P.cellsOf b = 1) (hc : P.cellsOf c = 1)
 (ua : P.underlying a = some (.int q0)) (ub : P.underlying b = some (.int q1)) (uc : P.underlying c = some .string) (hs : 20 < P.types.size) {key : Value} {kl : Lit} (h : keyOf P k key = some kl) :
 ∃ x y t, key = .agg #[.int q0 x, .int q1 y, .string t] ∧ (Lit.int q0 x).wf = true ∧ (Lit.int q1 y).wf = true ∧ t.size ≤ maxLen := by
 obtain ⟨d, hd⟩ := two_of hs
 cases key <;> simp [keyOf, hu, Value.formed] at h
 rename_i cs
 obtain ⟨⟨_, hsz⟩, ls, hl, _⟩ := h
 rw [hck] at hsz
 obtain ⟨l⟩ := cs
 match l, hsz with
 | [v0, v1, v2], _ =>
  rw [hd] at hl
  unfold Program.keyLits at hl
  simp [hu, hck, Value.cells, ha, hb, hc] at hl
  cases h0 : P.keyLits (d + 2) a [v0] with
  | none => simp [h0] at hl
  | some l0 =>
   cases h1 : P.keyLits (d + 2) b [v1] with
   | none => simp [h0, h1] at hl
   | some l1 =>
    cases h2 : P.keyLits (d + 2) c [v2] with
    | none => simp [h0, h1, h2] at hl
    | some l2 =>
     obtain ⟨xa, rfl, w0⟩ := keyInt ua h0
     obtain ⟨xb, rfl, w1⟩ := keyInt ub h1
     obtain ⟨t, rfl, w2⟩ := keyStr uc h2
     exact ⟨xa, xb, t, rfl, w0, w1, w2⟩
theorem keyOf_val {v : Vl} (h : v.wf) : keyOf Tryz.prog 208 v.val = some (keyV v) :=
 key3 v.k v.n v.s Tryz.underlying208 keyTypeV cellsV cellsKind cellsN cellsS Tryz.underlying206 Tryz.underlying2 Tryz.underlying9 (by decide) (by decide) (by decide) (of_decide_eq_true (by kernel_rfl)) h.k h.n h.s
theorem keyOf_inv {key : Value} {kl : Lit} (h : keyOf Tryz.prog 208 key = some kl) : ∃ v : Vl, key = v.val ∧ kl = keyV v ∧ v.wf := by
 obtain ⟨x, y, t, rfl, h0, h1, h2⟩ := key3_inv Tryz.underlying208 cellsV cellsKind cellsN cellsS Tryz.underlying206 Tryz.underlying2 Tryz.underlying9 (of_decide_eq_true (by kernel_rfl)) h
 have hw : Vl.wf ⟨x, y, t⟩ := ⟨h0, h1, h2⟩
 have := keyOf_val hw
 simp only [Vl.val] at this
 rw [this] at h
 exact ⟨⟨x, y, t⟩, rfl, by simpa using h.symm, hw⟩
theorem val_inj {v u : Vl} (h : v.val = u.val) : v = u := by
 obtain ⟨a, b, c⟩ := v
 obtain ⟨d, e, f⟩ := u
 simp [Vl.val] at h
 obtain ⟨rfl, rfl, rfl⟩ := h
 rfl
theorem keyV_inj {v u : Vl} (hv : v.wf) (hu : u.wf) (h : keyV v = keyV u) : v = u := by
 have h1 := keyOf_val hv
 have h2 := keyOf_val hu
 rw [← h] at h2
 exact val_inj (lawV.inj h1 h2)
def asIs (v : Value) : Option (DataW Value × List MemPlace) := some (.held v, [])
structure FldsD (w : World) (b : Nat) (m : List (Vl × Vl)) (D : DataW Value) : Prop where
 nodup : (m.map Prod.fst).Nodup
 wf : ∀ p ∈ m, p.1.wf
 own : w.ownsMap Tryz.prog 208 asIs b m.length D
 size : Maps.size D = m.length
 hit : ∀ p ∈ m, ∀ zd, D.atKey (keyV p.1) zd = .held p.2.val
 miss : ∀ x : Vl, x.wf → x ∉ m.map Prod.fst → ∀ zd, D.atKey (keyV x) zd = zd
def Flds (w : World) (b : Nat) (m : List (Vl × Vl)) : Prop := ∃ D, FldsD w b m D
def lookV : List (Vl × Vl) → Vl → Vl
 | [], _ => ⟨0, 0, ⟨#[]⟩⟩
 | p :: m, x => if p.1 = x then p.2 else lookV m x
theorem lookV_hit : ∀ {m : List (Vl × Vl)} {x : Vl}, x ∈ m.map Prod.fst → (x, lookV m x) ∈ m
 | [], x, h => by simp at h
 | p :: m, x, h => by
  unfold lookV
  split
  ·rename_i e; subst e; simp
  ·rename_i e
   simp only [List.map_cons, List.mem_cons] at h
   rcases h with h | h
   ·exact absurd h.symm e
   ·exact List.mem_cons_of_mem _ (lookV_hit h)
theorem FldsD.has {w : World} {b : Nat} {m : List (Vl × Vl)} {D : DataW Value} (h : FldsD w b m D) {x : Vl} (hx : x.wf) : Maps.has D (keyV x) = decide (x ∈ m.map Prod.fst) := by
 by_cases e : x ∈ m.map Prod.fst
 ·rw [decide_eq_true e]
  exact has_true_of_atKey (h.hit _ (lookV_hit e))
 ·rw [decide_eq_false e]
  exact has_false_of_atKey (h.miss x hx e)
theorem FldsD.kept {w w' : World} {b : Nat} {m : List (Vl × Vl)} {D : DataW Value} (h : FldsD w b m D) (hk : w'.heap[b]? = w.heap[b]?) : FldsD w' b m D := by
 refine ⟨h.nodup, h.wf, ?_, h.size, h.hit, h.miss⟩
 obtain ⟨es, clock, hb, F, hs, hD⟩ := h.own
 exact ⟨es, clock, hk.trans hb, F, hs, hD⟩
end Go.Proofs.YtpboencfnjmmbaaGreatDoor
