/-
  SweepCollects: what stays as it is behind Collect; the range over the cache's copy; a look into the cache.
  Conditions: as each theorem says.
-/
import Derived.Test.YtebcojkeblpbjaaScBase
namespace Go.Proofs.Ytebcojkeblpbjaa
open Go.ChangeShapes Go.WideShapes Go.ChangeAt Go.RowKit Go.Maps Go.Sort Go.Lib
set_option linter.unusedVariables false
theorem row_not_map {w : World} {base : Nat} {e : TypeId} {size n cb : Nat} {v : Value} {xs : List Value} {es : Array MapEntry} {clock : Nat} (h : w.ownsRow base e size v n xs) (hm : w.heap[cb]? = some (.map es clock)) : v.ownBlock = none ∨ v.ownBlock ≠ some cb := by
  rcases h.2 with ⟨rfl, _⟩ | ⟨g, cap, cur, rfl, hb, hg, _⟩
  · exact .inl rfl
  · refine .inr fun e => ?_
    have : g = cb := by simpa [Value.ownBlock] using e
    subst this
    rw [hm] at hg; cases hg
structure Cs (w w0 W : World) (bd rg : Nat) (d : Int) (ab cb ob gm n : Nat) (L : List OO) (s' : St) (f f' : Int → Int → Option Int) (D D' : DataW Unit) (F : Nat → Bool) : Prop where
  below : Below w.heap.size w W
  boxd : W.heap[bd]? = some (.cells #[.int .u8 d] 5 (0, 0))
  refs : RefsAt W rg L.length
  arn : Arn w0.heap.size ab W s'
  old : ChD W ob n f D
  cache : ChD W cb n f' D'
  inr : InR W gm L.length F
theorem Cs.later {w w0 W W' : World} {bd rg : Nat} {d : Int} {ab cb ob gm n : Nat} {L : List OO} {s' : St} {f f' : Int → Int → Option Int} {D D' : DataW Unit} {F : Nat → Bool} (h : Cs w w0 W bd rg d ab cb ob gm n L s' f f' D D' F) (hb : Below W.heap.size W W') : Cs w w0 W' bd rg d ab cb ob gm n L s' f f' D D' F :=
  ⟨h.below.trans (hb.mono h.below.size), (hb.block _ (lt_of_block h.boxd)).trans h.boxd, h.refs.below hb, h.arn.below hb, h.old.kept (hb.block _ h.old.own.lt), h.cache.kept (hb.block _ h.cache.own.lt), (hb.block _ h.inr.lt).trans h.inr⟩
theorem has_of_at {D : DataW Unit} {kl : Lit} {y : DataW Unit} (hat : ∀ zd, D.atKey kl zd = y) : Maps.has D kl = true := by
  cases e : Maps.has D kl
  · have h1 := (hat .nil).symm.trans (atKey_of_not_has e .nil)
    have h2 := (hat (.agg [])).symm.trans (atKey_of_not_has e (.agg []))
    rw [h1] at h2
    cases h2
  · rfl
theorem ChD.found {w : World} {c n : Nat} {f : Int → Int → Option Int} {D : DataW Unit} {key v : Value} {kl : Lit} {y : DataW Unit × List MemPlace} (h : ChD w c n f D) (hkey : keyOf Try.prog 70 key = some kl) (hv : plainElem Try.prog 28 v = some y) (hat : ∀ zd, D.atKey kl zd = y.1) :
    ∃ m t p, f m t = some p ∧ kl = kE m t ∧ key = .agg #[.int .i64 m, .int .u64 t] ∧ v = .int .u64 p :=
  (Fg.start (s := ⟨[], [], []⟩) (dd := fun _ => false) h).found (fun m t p h1 => (h.rng m t p h1).1) hkey hv hat (has_of_at hat)
/-- 'q, ok := c[k]'. -/
theorem ChD.look {w : World} {c n : Nat} {f : Int → Int → Option Int} {D : DataW Unit} (h : ChD w c n f D) {m t : Int} (hw : Ew m t) (o : Option Int) (hf : f m t = o) :
    (Instr.lookup 55 (.map (some c)) (.agg #[.int .i64 m, .int .u64 t]) true).run Try.prog w = .ok (.tuple #[.int .u64 (o.getD 0), .bool o.isSome]) w := by
  have hkey := keyE m t hw.1 (by have := hw.2.1; omega) hw.2.2.1 hw.2.2.2
  obtain ⟨v, ps, hrun, hv⟩ := h.own.look_ok keyedE Try.underlying55 (zeroRef w) (plainElem_int Try.underlying28 (by decide)) hkey
  obtain ⟨a, rfl, hy, _⟩ := plainElem_int_inv Try.underlying28 hv
  rw [hrun]
  cases o with
  | some p =>
    obtain ⟨h1, h2⟩ := h.hit m t p hf
    have h3 := h2 (.lit (.int .u64 0))
    unfold kE at h1 h3
    rw [h1]
    have h4 := congrArg Prod.fst hy
    simp only [h3] at h4
    simp at h4
    subst h4
    rfl
  | none =>
    have h1 : Maps.has D (kE m t) = false := by
      cases e : Maps.has D (kE m t)
      · rfl
      · obtain ⟨m', t', p, e2, h2⟩ := h.all _ e
        obtain ⟨rfl, rfl⟩ := kE_inj hw (h.rng _ _ _ h2).1 e2
        rw [hf] at h2; cases h2
    have h3 := atKey_of_not_has h1 (.lit (.int .u64 0))
    unfold kE at h1 h3
    rw [h1]
    have h4 := congrArg Prod.fst hy
    simp only [h3] at h4
    simp at h4
    subst h4
    rfl
theorem stay_gone {s : St} {dd : Int → Bool} {f : Int → Int → Option Int} {m t p : Int} (hf : f m t = some p) (hlo : Go.Proofs.Ytebcojkeblpbjaa.look s.slots p = none) : stayF s dd f m t = none := by
  unfold stayF
  rw [hf]
  simp [Option.filter, kp, hlo]
theorem stay_dead {s : St} {dd : Int → Bool} {f : Int → Int → Option Int} {m t p : Int} (hf : f m t = some p) (hd : dd m = true) : stayF s dd f m t = none := by
  unfold stayF
  rw [hf]
  simp [Option.filter, kp, hd]
theorem stay_ok {s : St} {dd : Int → Bool} {f : Int → Int → Option Int} {m t p : Int} {o : Nat × Ob} (hf : f m t = some p) (hlo : Go.Proofs.Ytebcojkeblpbjaa.look s.slots p = some o) (hd : dd m = false) : stayF s dd f m t = some p := by
  unfold stayF
  rw [hf]
  simp [Option.filter, kp, hlo, hd]
/-- The world has drawn, no more. -/
def JD (w : World) (l : Nat → Bool) (a : Act) (W : World) : Prop := ∃ q, W = w.drewN q
theorem JD.pure {w W : World} {l : Nat → Bool} {a : Act} {i d : Nat} {v : Value} (h : JD w l a W) : JD w (more l i) (a.put (some d) v) W := h
theorem drewN_add (w : World) (p q : Nat) : (w.drewN p).drewN q = w.drewN (p + q) := by simp [World.drewN, Nat.add_assoc]
/-- What the slots of the second loop's region hold. -/
def valG (ab gm n k : Nat) (pv : Value) (c : Bool) : Nat → Option Value
  | 0 => some (.pointer (some ⟨ab, 0, none⟩))
  | 1 => some (.int .u64 (refI k))
  | 2 => some pv
  | 3 => some (.bool c)
  | 4 => some (.slice (some ⟨gm, 0, none⟩) n n)
  | 5 => some (.int .i64 (k : Int))
  | 6 => some (.pointer (some ⟨gm, k, none⟩))
  | 7 => some (.int .i64 (b01 c))
  | 8 => some (.bool c)
  | 9 => some (.bool false)
  | _ => none
end Go.Proofs.Ytebcojkeblpbjaa
