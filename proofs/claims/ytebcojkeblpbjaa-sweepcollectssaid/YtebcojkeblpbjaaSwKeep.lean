/-
  What stays as it is from the call of Make on, for the laws of layer 4 that gather their roots in a loop; the numbers that bytes name.
  Conditions: as each theorem says.
-/
import Derived.Test.YtebcojkeblpbjaaSwReached
import Derived.Test.YtebcojkeblpbjaaSwRows
import Derived.Test.YtebcojkeblpbjaaTwo
import Derived.Test.YtebcojkeblpbjaaAwake4
namespace Go.Proofs.Ytebcojkeblpbjaa
open Go.ChangeShapes Go.WideShapes Go.ChangeAt Go.RowKit Go.Maps Go.Sort Go.Lib
set_option linter.unusedVariables false
structure Jr (w w0 W : World) (bd rg cr : Nat) (d : Int) (ov : Value) (rv : Value) (lr : List Int) (ab : Nat) (L : List OO) (done : Nat → List Int) (B M : Nat → Nat) (s : St) : Prop where
  below : Below w.heap.size w W
  boxd : W.heap[bd]? = some (.cells #[.int .u8 d] 5 (0, 0))
  refs : RefsAt W rg L.length
  row : BRow W rv lr
  objs : ORow W ov L
  made : Mk w0 W ab L done B M s L.length
  hd : ∀ (j : Nat) (oo : OO), L[j]? = some oo → done j = oo.names
  hn : ∀ (j : Nat) (oo : OO), L[j]? = some oo → oo.names.length ≤ 10 ∧ 0 ≤ oo.mem
  l1 : L.length ≤ 30
  l0 : 0 < L.length
  hcr : cr ≤ maxLen
  d0 : 0 ≤ d
  d1 : d ≤ 255
  sz : w.heap.size ≤ W.heap.size
theorem ORow.below {w w' : World} {v : Value} {L : List OO} (h : ORow w v L) (hb : Below w.heap.size w w') : ORow w' v L := by
  obtain ⟨b, off, cap, h1, h2, h3, h4⟩ := h
  exact ⟨b, off, cap, h1, h2, h3, fun i oo hi => ⟨(h4 i oo hi).1.below hb, (h4 i oo hi).2⟩⟩
section
variable {w w0 W : World} {bd rg cr : Nat} {d : Int} {ov rv : Value} {lr : List Int} {ab : Nat} {L : List OO} {done : Nat → List Int} {B M : Nat → Nat} {s : St}
theorem Jr.later {W' : World} (h : Jr w w0 W bd rg cr d ov rv lr ab L done B M s) (hb : Below W.heap.size W W') : Jr w w0 W' bd rg cr d ov rv lr ab L done B M s :=
  ⟨h.below.trans (hb.mono h.sz), (hb.block _ (lt_of_block h.boxd)).trans h.boxd, h.refs.below hb, h.row.below hb, h.objs.below hb, h.made.later hb, h.hd, h.hn, h.l1, h.l0, h.hcr, h.d0, h.d1, Nat.le_trans h.sz hb.size⟩
/-- What Reach answers from a row of roots. -/
theorem Jr.reach {dg : Nat} {lb : Array Value} (h : Jr w w0 W bd rg cr d ov rv lr ab L done B M s) (hD : DeadF W dg lb (ddOf d)) {fv : Value} {roots : List Int} (hr : RootsAt W fv roots) (hb : ∀ x ∈ roots, 0 ≤ x ∧ x ≤ 18446744073709551615) :
    Calls Try.prog 20 #[.pointer (some ⟨ab, 0, none⟩), fv, .func (.func dg) #[] lb] W fun e W' => ∃ sb S, e = .returned (.map (some sb)) ∧ RSet W' sb S ∧ (∀ x, x ∈ S ↔ Rch (lives s) (nmOf s (flM L done) (ddOf d)) roots x) ∧ Below W.heap.size W W' := by
  have hl : L.length ≤ 1000 := Nat.le_trans h.l1 (by decide)
  refine (reach_any h.made.arn (h.made.objs h.hd hl (fun j oo hj => ⟨Nat.le_trans (h.hn j oo hj).1 (by decide), (h.hn j oo hj).2⟩)) (by rw [h.made.len]; exact Nat.le_trans hl (by decide)) (fun n sl hs => Nat.le_trans (h.made.uses n sl hs) (by decide)) hr hb hD).mono ?_
  rintro e w' ⟨sb, he, S, hS, hin, _, hb⟩
  exact ⟨sb, S, he, hS, hin, hb⟩
end
/-- The numbers that bytes name. -/
def nums (n : Nat) (l : List Int) : List Nat := l.map (atN n)
def numRow (l : List Nat) : List Value := l.map fun (j : Nat) => Value.int .i64 (j : Int)
theorem nums_snoc {n : Nat} {l : List Int} {k : Nat} {x : Int} (h : l[k]? = some x) : nums n (l.take (k + 1)) = nums n (l.take k) ++ [atN n x] := by
  unfold nums
  rw [List.take_add_one, h]; simp
theorem numRow_one (l : List Nat) (j : Nat) : numRow l ++ [Value.int .i64 (j : Int)] = numRow (l ++ [j]) := by simp [numRow]
theorem num_row {W : World} {base : Nat} {v : Value} {l : List Nat} {n : Nat} (h : W.ownsRow base 3 1 v n (numRow l)) (hn : n = l.length) : IRow W v l := by
  subst hn
  rcases h.2 with ⟨rfl, h2⟩ | ⟨g, cap, cur, rfl, hb, hg, h3, h4, h5, h6⟩
  · have : l = [] := by simpa [numRow] using h2
    subst this
    exact ⟨none, 0, rfl, Nat.le_refl _, by simp [maxLen], fun h => absurd rfl h⟩
  · refine ⟨some ⟨g, 0, none⟩, cap, rfl, h3, h4, fun _ => ⟨g, 0, rfl, lt_of_block hg, fun j x hj => ?_⟩⟩
    have hjl : j < l.length := by obtain ⟨hh, _⟩ := List.getElem?_eq_some_iff.1 hj; exact hh
    rw [Nat.zero_add, h.cellAt j (by omega)]
    simp [numRow, hj]
theorem nums_lt {n : Nat} {l : List Int} (hn : 0 < n) : ∀ j ∈ nums n l, j < n := by
  intro j hj
  obtain ⟨b, _, rfl⟩ := List.mem_map.1 hj
  exact atN_lt n b hn
/-- What the slots of the loop's region hold. -/
def valP (vf va : Value) (a : Option Addr) (rg cr n cap t : Nat) : Nat → Option Value
  | 0 => some vf
  | 1 => some (.slice (some ⟨rg, 0, none⟩) n cr)
  | 2 => some (.int .u8 (t : Int))
  | 3 => some (.int .i64 (t : Int))
  | 4 => some (.slice a n cap)
  | 5 => some (.int .i64 (n : Int))
  | 6 => some (.int .i64 ((t : Int) % (n : Int)))
  | 7 => some (.pointer (some ⟨rg, t % n, none⟩))
  | 8 => some (.int .u64 (refI (t % n)))
  | 11 => some va
  | 12 => some (.int .u8 (t : Int))
  | 13 => some (.int .i64 (t : Int))
  | 14 => some (.slice a n cap)
  | 15 => some (.int .i64 (n : Int))
  | 16 => some (.int .i64 ((t : Int) % (n : Int)))
  | _ => none
theorem info3 : (Try.prog.info? 3).map (fun i => (i.zero, i.size, i.bytes)) = some (some (.int .i64 0), 1, 8) := by kernel_rfl
theorem apart_of {W : World} {b1 b2 : Nat} {e1 e2 : TypeId} {s1 s2 n1 n2 : Nat} {v u : Value} {xs ys : List Value} (h : W.ownsRow b1 e1 s1 v n1 xs) (k : W.ownsRow b2 e2 s2 u n2 ys) (hn : e1 ≠ e2) : ∀ b, v.ownBlock = some b → u.ownBlock ≠ some b := by
  intro b hb hu
  rcases own_own h k hn with h0 | h0
  · rw [h0] at hb; cases hb
  · exact h0 (hb.trans hu.symm)
/-- A row that was appended to holds what it held. -/
theorem keep_roots {w w' : World} {base : Nat} {v : Value} {l : List Int} {n : Nat} (h : w.ownsRow base 28 1 v n (refRow l)) (hn : n = l.length) (hs : w.heap.size ≤ w'.heap.size) (hk : ∀ g, v.ownBlock = some g → ∀ j u, (refRow l)[j]? = some u → w'.cell? ⟨g, j, none⟩ = some u) : RootsAt w' v l := by
  subst hn
  rcases h.2 with ⟨rfl, h2⟩ | ⟨g, cap, cur, rfl, hb, hg, h3, h4, h5, h6⟩
  · left
    exact ⟨rfl, by simpa [refRow] using h2⟩
  · right
    exact ⟨g, 0, cap, rfl, h3, h4, Nat.lt_of_lt_of_le (lt_of_block hg) hs, fun j x hj => by rw [Nat.zero_add]; exact hk g rfl j _ (by simp [refRow, hj])⟩
theorem rows_two {w w5 : World} {b1 e s1 n1 e2 s2 n2 : Nat} {v u : Value} {xs ys : List Value} (h : w.ownsRow b1 e s1 v n1 xs) (k : w5.ownsRow w.heap.size e2 s2 u n2 ys) : u.ownBlock = none ∨ u.ownBlock ≠ v.ownBlock := by
  cases hu : u.ownBlock with
  | none => exact .inl rfl
  | some b => exact .inr fun hv => by have := (h.lt b hv.symm).2; have := (k.lt b hu).1; omega
theorem picks_length (n : Nat) (l : List Int) : (picks n l).length = l.length := by simp [picks]
theorem nums_length (n : Nat) (l : List Int) : (nums n l).length = l.length := by simp [nums]
theorem mem_picks {n : Nat} {l : List Int} {x : Int} : x ∈ picks n l ↔ ∃ i ∈ nums n l, x = refI i := by
  simp only [picks, nums, List.mem_map]
  constructor
  · rintro ⟨b, hb, rfl⟩; exact ⟨_, ⟨b, hb, rfl⟩, rfl⟩
  · rintro ⟨i, ⟨b, hb, rfl⟩, rfl⟩; exact ⟨b, hb, rfl⟩
theorem nmL_lt {L : List OO} {dd : Int → Bool} (l0 : 0 < L.length) : ∀ i j, j ∈ nmL L dd i → j < L.length := by
  intro i j hj
  unfold nmL at hj
  split at hj
  · simp at hj
  · split at hj
    · split at hj
      · simp at hj
      · split at hj
        · simp at hj
        · simp at hj; rw [hj]; exact atN_lt _ _ l0
    · obtain ⟨b, _, rfl⟩ := List.mem_map.1 hj
      exact atN_lt _ _ l0
/-- What is in the set, by the marks. -/
theorem set_marks {w0 w : World} {ab : Nat} {L : List OO} {done : Nat → List Int} {B M : Nat → Nat} {s : St} {d : Int} {lr : List Int} {roots S : List Int} (h : Mk w0 w ab L done B M s L.length) (hd : ∀ (j : Nat) (oo : OO), L[j]? = some oo → done j = oo.names) (hl : L.length ≤ 30) (l0 : 0 < L.length)
    (hr : ∀ x ∈ roots, lives s x = true → x ∈ picks L.length lr) (hp : ∀ x ∈ picks L.length lr, x ∈ roots) (hin : ∀ x, x ∈ S ↔ Rch (lives s) (nmOf s (flM L done) (ddOf d)) roots x) :
    (∀ i, i < L.length → S.contains (refI i) = rnds (nmL L (ddOf d)) L.length L.length (fun j => (nums L.length lr).contains j) i) ∧ (∀ x ∈ S, ∃ i, i < L.length ∧ x = refI i) := by
  have key := fun x => (hin x).trans (rch_num h hd (by omega) (dd := ddOf d) (roots := roots) (at_ := nums L.length lr) (fun x hx hlv => mem_picks.1 (hr x hx hlv)) (fun i hi => ⟨nums_lt l0 i hi, hp _ (mem_picks.2 ⟨i, hi, rfl⟩)⟩) x)
  refine ⟨fun i hi => ?_, fun x hx => ?_⟩
  · rw [Bool.eq_iff_iff, List.contains_iff_mem, key, rnds_reach (nmL_lt l0) (nums_lt l0)]
    constructor
    · rintro ⟨j, e, _, hR⟩
      have : j = i := by unfold refI at e; omega
      rwa [this] at hR
    · intro hR
      exact ⟨i, rfl, hi, hR⟩
  · obtain ⟨i, e, hi, _⟩ := (key x).1 hx
    exact ⟨i, hi, e⟩
theorem RootsAt.later {w w' : World} {v : Value} {l : List Int} (h : RootsAt w v l) (hb : Below w.heap.size w w') : RootsAt w' v l := h.imp id fun ⟨g, hl⟩ => ⟨g, hl.below hb⟩
/-- A region with one call of Has: what the world is. -/
def JB (w : World) (T : TypeId) (i0 : Nat) (l : Nat → Bool) (a : Act) (W : World) : Prop := W = if l i0 then w.drew.alloc (.cells #[] T) else w.drew
theorem JB.pure {w W : World} {T : TypeId} {i0 i d : Nat} {l : Nat → Bool} {a : Act} {v : Value} (h : JB w T i0 l a W) (hi : i0 ≠ i) : JB w T i0 (more l i) (a.put (some d) v) W := by
  unfold JB at h ⊢
  rw [more_ne _ hi]; exact h
theorem JB.cell {w W : World} {T : TypeId} {i0 : Nat} {l : Nat → Bool} {a : Act} (h : JB w T i0 l a W) {p : Addr} {v : Value} (hc : w.cell? p = some v) (hp : p.block < w.heap.size) : W.cell? p = some v := by
  unfold JB at h
  rw [h]
  split
  · exact ((((Below.refl w.heap.size w).drew).alloc (Nat.le_refl _) _).cell (p := p) hp).trans hc
  · exact hc
/-- What the slots of the loop's second region hold. -/
def valH (sb gm n k : Nat) (c : Bool) : Nat → Option Value
  | 0 => some (.map (some sb))
  | 1 => some (.int .u64 (refI k))
  | 2 => some (.bool c)
  | 3 => some (.slice (some ⟨gm, 0, none⟩) n n)
  | 4 => some (.int .i64 (k : Int))
  | 5 => some (.pointer (some ⟨gm, k, none⟩))
  | 6 => some (.int .i64 (b01 c))
  | 7 => some (.bool c)
  | 8 => some (.bool false)
  | _ => none
end Go.Proofs.Ytebcojkeblpbjaa
