/-
  What M and the arena have in common behind a Put and behind a Drop; that a Ref which Put gives is new; M behind its three appends.
  Conditions: as each theorem says.
-/
import Derived.Test.YtbbmcggalffecaaPlaysDo1a
namespace Go.Proofs.Ytbbmcggalffecaa
open Go.ChangeShapes Go.WideShapes Go.ChangeAt Go.RowKit
set_option linter.unusedVariables false
theorem Frees.bounds {s : St} {qs : List Int} {L : List Lv} {G : List (Nat × Nat)} {k n u : Nat} {l : List Sl} {un : List Nat} (h : PS s qs L G k) (hf : Frees s n u l un) : n ≤ k ∧ u ≤ k ∧ l.length ≤ k + 1 ∧ un.length ≤ k := by
  have h1 := h.sl
  have h2 := h.un
  rcases hf with ⟨_, rfl, rfl, rfl, rfl⟩ | ⟨h0, hu, rfl⟩
  · simp; omega
  · have h3 := lt_of_get hu
    have h4 := h.us _ _ hu
    rw [h0] at h2
    simp at h2 h4
    omega
theorem cntO_append (L : List Lv) (p : Lv) (j : Nat) : cntO (L ++ [p]) j = cntO L j + if p.ow = (j : Int) then 1 else 0 := by
  unfold cntO cnt owL
  simp only [List.take_length, List.map_append, List.countP_append, List.map_cons, List.map_nil, List.countP_cons, List.countP_nil]
  congr 1
  simp
/-- Behind a Put. -/
theorem PS.put {s : St} {qs : List Int} {L : List Lv} {G : List (Nat × Nat)} {k n u i : Nat} {l : List Sl} {un : List Nat} {q : Int} (h : PS s qs L G k) (hk : k ≤ 1000) (hf : Frees s n u l un) (hq : qs[i]? = some q) (hc : (cntO L i : Int) < q) (B : Nat) (ko mo : Int) (h0 : -128 ≤ mo) (h1 : mo ≤ 127)
    (hB : ∀ (j : Nat) (sl : Sl) (b : Nat) (o : Ob), s.slots[j]? = some sl → sl.obj = some (b, o) → b ≠ B) :
    PS ⟨s.accs.set i ((cntO L i : Int) + 1, q), l.set n ⟨u + 1, some (B, ⟨ko, (i : Int), mo, 0⟩)⟩, un⟩ qs (L ++ [⟨n, u + 1, (i : Int), mo, 0⟩]) G (k + 1) ∧ (refL L).contains (refN (u + 1) n) = false ∧ (goneL G).contains (refN (u + 1) n) = false := by
  obtain ⟨b1, b2, b3, b4⟩ := Frees.bounds h hf
  obtain ⟨l1, l2, l3⟩ := h.live.put hf (s.accs.set i ((cntO L i : Int) + 1, q)) B ko i mo 0 hB
  have hn : n < l.length := lt_of_get hf.at_
  have hil := lt_of_get hq
  have hsl := h.sl
  have hm := h.more
  have down : ∀ (j : Nat) (x : Sl), j ≠ n → l[j]? = some x → s.slots[j]? = some x := by
    rcases hf with ⟨_, rfl, _, rfl, _⟩ | ⟨_, _, rfl⟩
    · intro i x hi hx
      rw [List.getElem?_append] at hx
      split at hx
      · exact hx
      · have := lt_of_get hx; simp at this; omega
    · exact fun i x _ hx => hx
  have up : ∀ (j : Nat) (x : Sl), s.slots[j]? = some x → l[j]? = some x := by
    rcases hf with ⟨_, rfl, _, rfl, _⟩ | ⟨_, _, rfl⟩
    · intro i x hx; rw [List.getElem?_append_left (lt_of_get hx)]; exact hx
    · exact fun i x hx => hx
  refine ⟨⟨l1, by simpa using h.al, fun j q' hj => ?_, h.quo, fun j q' hj => ?_, fun p hp => ?_, fun p hp => ?_, by simpa using h.le, hm.gl, h.ql, by simpa using b3, fun j sl e => ?_, Nat.le_succ_of_le b4, fun g hg => ?_⟩, ?_, ?_⟩
  · rw [cntO_append]
    simp only
    by_cases hij : i = j
    · subst hij
      rw [hq] at hj
      simp at hj
      subst hj
      rw [List.getElem?_set_self (by rw [h.al]; exact hil)]
      simp
    · rw [List.getElem?_set_ne hij, h.accs j q' hj, if_neg (by omega)]
      simp
  · rw [cntO_append]
    by_cases hij : i = j
    · subst hij
      rw [hq] at hj
      simp at hj
      subst hj
      simp
      omega
    · have := h.many j q' hj
      rw [if_neg (by simp only; omega)]
      simpa using this
  · rcases List.mem_append.1 hp with hp | hp
    · exact h.own p hp
    · simp at hp; subst hp; simp only; omega
  · rcases List.mem_append.1 hp with hp | hp
    · exact h.mo p hp
    · simp at hp; subst hp; exact ⟨h0, h1⟩
  · simp only at e
    by_cases hj : j = n
    · subst hj
      simp [hn] at e
      subst e
      simp only
      omega
    · rw [List.getElem?_set_ne (Ne.symm hj)] at e
      exact hm.us _ _ (down _ _ hj e)
  · obtain ⟨sl, e1, e2, e3⟩ := h.stale g hg
    by_cases hj : g.1 = n
    · have e4 := up _ _ e1
      rw [hj, hf.at_] at e4
      simp at e4
      subst e4
      simp only at e2
      refine ⟨⟨u + 1, some (B, ⟨ko, (i : Int), mo, 0⟩)⟩, by rw [hj]; simp [hn], by simp only; omega, fun e => ?_⟩
      simp only at e
      omega
    · exact ⟨sl, by simp only; rw [List.getElem?_set_ne (Ne.symm hj)]; exact up _ _ e1, e2, e3⟩
  · cases hcc : (refL L).contains (refN (u + 1) n) with
    | false => rfl
    | true =>
      exfalso
      rw [List.contains_iff_mem] at hcc
      obtain ⟨p, hp, e⟩ := List.mem_map.1 hcc
      obtain ⟨b, kk, hb⟩ := h.live.at_ p hp
      have hpn := lt_of_get hb
      obtain ⟨e1, e2⟩ := refN_inj e (by omega) (by omega)
      exact (l2 (p.n, p.u) ⟨_, hb, Nat.le_refl _⟩).1 (by rw [e1, e2])
  · cases hcc : (goneL G).contains (refN (u + 1) n) with
    | false => rfl
    | true =>
      exfalso
      rw [List.contains_iff_mem] at hcc
      obtain ⟨g, hg, e⟩ := List.mem_map.1 hcc
      obtain ⟨sl, g1, g2, g3⟩ := h.stale g hg
      have hpn := lt_of_get g1
      obtain ⟨e1, e2⟩ := refN_inj e (by omega) (by omega)
      exact (l2 (g.1, g.2) ⟨_, g1, g2⟩).1 (by rw [e1, e2])
theorem countP_erase (f : Int → Bool) (L : List Lv) (p : Lv) (i : Nat) (hp : L[i]? = some p) : (L.map Lv.ow).countP f = ((L.eraseIdx i).map Lv.ow).countP f + if f p.ow = true then 1 else 0 := by
  induction L generalizing i with
  | nil => simp at hp
  | cons x L ih =>
    cases i with
    | zero => simp at hp; subst hp; simp [List.countP_cons]
    | succ i =>
      simp at hp
      have := ih i hp
      simp only [List.eraseIdx_cons_succ, List.map_cons, List.countP_cons]
      omega
theorem cntO_erase (L : List Lv) (p : Lv) (i j : Nat) (hp : L[i]? = some p) : cntO L j = cntO (L.eraseIdx i) j + if p.ow = (j : Int) then 1 else 0 := by
  unfold cntO cnt owL
  rw [List.take_length, List.take_length, countP_erase (fun y => y == (j : Int)) L p i hp]
  simp
/-- Behind a Drop. -/
theorem PS.drop {s : St} {qs : List Int} {L : List Lv} {G : List (Nat × Nat)} {k i j : Nat} {p : Lv} {q : Int} (h : PS s qs L G k) (hp : L[i]? = some p) (hj : (j : Int) = p.ow) (hq : qs[j]? = some q) :
    PS ⟨s.accs.set j ((cntO L j : Int) - 1, q), s.slots.set p.n ⟨p.u, none⟩, s.unused ++ [p.n]⟩ qs (L.eraseIdx i) (G ++ [(p.n, p.u)]) (k + 1) ∧ 1 ≤ cntO L j := by
  have hm := h.more
  have hil := lt_of_get hp
  have hjl := lt_of_get hq
  have hpm := List.mem_of_getElem? hp
  obtain ⟨b, ko, hb⟩ := h.live.at_ p hpm
  have hn := lt_of_get hb
  have hsub : ∀ q ∈ L.eraseIdx i, q ∈ L := fun q hq => List.mem_of_mem_eraseIdx hq
  have hone := cntO_erase L p i j hp
  rw [if_pos hj.symm] at hone
  refine ⟨⟨(h.live.drop i p hp _).1, by simpa using h.al, fun m q' hm' => ?_, h.quo, fun m q' hm' => ?_, fun r hr => h.own r (hsub r hr), fun r hr => h.mo r (hsub r hr), ?_, by have := h.gl; simp; omega, h.ql, by simpa using hm.sl, fun m sl e => ?_, by have := h.un; simp; omega, fun g hg => ?_⟩, by omega⟩
  · have hc := cntO_erase L p i m hp
    simp only
    by_cases hjm : j = m
    · subst hjm
      rw [hq] at hm'
      simp at hm'
      subst hm'
      rw [List.getElem?_set_self (by rw [h.al]; exact hjl)]
      simp
      omega
    · rw [List.getElem?_set_ne hjm, h.accs m q' hm']
      rw [if_neg (by omega)] at hc
      simp
      omega
  · have hc := cntO_erase L p i m hp
    have := h.many m q' hm'
    split at hc <;> omega
  · have := h.le
    rw [List.length_eraseIdx]
    split <;> omega
  · simp only at e
    by_cases hmn : m = p.n
    · subst hmn
      simp [hn] at e
      subst e
      have := hm.us _ _ hb
      exact this
    · rw [List.getElem?_set_ne (Ne.symm hmn)] at e
      exact hm.us _ _ e
  · rcases List.mem_append.1 hg with hg | hg
    · obtain ⟨sl, e1, e2, e3⟩ := h.stale g hg
      by_cases hgn : g.1 = p.n
      · rw [hgn, hb] at e1
        simp at e1
        subst e1
        exact ⟨⟨p.u, none⟩, by rw [hgn]; simp [hn], e2, fun _ => rfl⟩
      · exact ⟨sl, by simp only; rw [List.getElem?_set_ne (Ne.symm hgn)]; exact e1, e2, e3⟩
    · simp at hg
      subst hg
      exact ⟨⟨p.u, none⟩, by simp [hn], Nat.le_refl _, fun _ => rfl⟩
/-- A Ref more that is gone. -/
theorem MI.gone {base mb : Nat} {w1 W w2 : World} {qs : List Int} {L : List Lv} {G : List (Nat × Nat)} {vq vr vo vm vg v' : Value} {g : Nat × Nat} {x : Int} (hx : refN g.2 g.1 = x) (hb : base ≤ mb)
    (m0 : w1.heap[mb]? = some (.cells #[vq, vr, vo, vm, vg] 31 (0, 0))) (m1 : w1.ownsRow base 3 1 vq qs.length (qs.map (Value.int .i64))) (m2 : w1.ownsRow base 51 1 vr (refL L).length ((refL L).map (Value.int .u64))) (m3 : w1.ownsRow base 3 1 vo (owL L).length ((owL L).map (Value.int .i64))) (m4 : w1.ownsRow base 2 1 vm (moL L).length ((moL L).map (Value.int .i64))) (m5 : w1.ownsRow base 51 1 vg (goneL G).length ((goneL G).map (Value.int .u64)))
    (m6 : vq.ownBlock = none ∨ vq.ownBlock ≠ vo.ownBlock) (m7 : vr.ownBlock = none ∨ vr.ownBlock ≠ vg.ownBlock) (hW : Below w1.heap.size w1 W) (hg : W.grownBy w2 vg.ownBlock) (hn : w2.ownsRow base 51 1 v' ((goneL G).length + 1) ((goneL G).map (Value.int .u64) ++ [.int .u64 x])) (hl : v'.ownBlock = vg.ownBlock ∨ v'.ownBlock = some W.heap.size) :
    MI base mb (w2.setCell ⟨mb, 4, none⟩ v') qs L (G ++ [g]) ∧ w2.heap[mb]? = some (.cells #[vq, vr, vo, vm, vg] 31 (0, 0)) ∧ Fr (fun t => only 51 t || only 31 t) base w1 (w2.setCell ⟨mb, 4, none⟩ v') := by
  have n0 : w2.heap[mb]? = some (.cells #[vq, vr, vo, vm, vg] 31 (0, 0)) := block_grown hg ((hW.block mb (lt_of_block m0)).trans m0) (own_ne m5 m0 (by decide))
  have n1 := (row_below m1 hW).kept hg (own_own m1 m5 (by decide))
  have n2 := (row_below m2 hW).kept hg m7
  have n3 := (row_below m3 hW).kept hg (own_own m3 m5 (by decide))
  have n4 := (row_below m4 hW).kept hg (own_own m4 m5 (by decide))
  have e5 : goneL (G ++ [g]) = goneL G ++ [x] := by simp [goneL, hx]
  have n5 : w2.ownsRow base 51 1 v' (goneL (G ++ [g])).length ((goneL (G ++ [g])).map (Value.int .u64)) := by rw [e5]; simpa using hn
  refine ⟨⟨hb, vq, vr, vo, vm, v', heap_setCell_same _ _ _ _ _ _ n0, setRow_other n1 n0 (by decide), setRow_other n2 n0 (by decide), setRow_other n3 n0 (by decide), setRow_other n4 n0 (by decide), setRow_other n5 n0 (by decide), m6, ne_swap (own_apart m2 hW.size (ne_swap m7) hl)⟩, n0, ?_⟩
  have f1 : Fr (fun t => only 51 t || only 31 t) base w1 W := Fr.ofBelow0 hW
  exact (f1.grown hg (fun k hk => mine_row (row_below m5 hW) (by decide) k hk)).setCell ⟨hb, _, _, _, n0, rfl⟩ _
end Go.Proofs.Ytbbmcggalffecaa
