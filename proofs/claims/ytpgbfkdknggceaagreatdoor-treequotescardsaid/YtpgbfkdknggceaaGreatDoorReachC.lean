/-
  The closure of sweep.Reach: each of the Refs that it is handed is looked at; new ones are reached, and wait.
  Conditions: as the theorem says.
-/
import Derived.Test.YtpgbfkdknggceaaGreatDoorReachP
import Derived.Test.YtpgbfkdknggceaaGreatDoorLaw
import Derived.Test.YtpgbfkdknggceaaGreatDoorHolds
namespace Go.Proofs.YtpgbfkdknggceaaGreatDoor
open Go.ChangeShapes Go.WideShapes Go.ChangeAt Go.RowKit Go.Maps Go.Sort Go.Lib
set_option linter.unusedVariables false
/-- Where a slice lies that is only looked at. -/
def LiesAt (w : World) (v : Value) (l : List Int) (g : Nat) : Prop := ∃ off cap, v = .slice (some ⟨g, off, none⟩) l.length cap ∧ l.length ≤ cap ∧ cap ≤ maxLen ∧ g < w.heap.size ∧ ∀ j x, l[j]? = some x → w.cell? ⟨g, off + j, none⟩ = some (.int .u64 x)
/-- sweep.Reach's memory: the boxes of a, reached and work; the set; the row of those that wait. -/
structure RI (w0 : World) (ab ba br bw sb : Nat) (p : List Int × List Int) (w : World) : Prop where
  gb : w0.heap.size ≤ bw ∧ w0.heap.size ≤ sb
  A : w.heap[ba]? = some (.cells #[.pointer (some ⟨ab, 0, none⟩)] 79 (0, 0))
  R : w.heap[br]? = some (.cells #[.map (some sb)] 90 (0, 0))
  W : ∃ v, w.heap[bw]? = some (.cells #[v] 80 (0, 0)) ∧ w.ownsRow w0.heap.size 94 1 v p.2.length (refRow p.2)
  M : RSet w sb p.1
  B : Below w0.heap.size w0 w
theorem RI.grow {w0 w w' : World} {ab ba br bw sb : Nat} {p : List Int × List Int} (h : RI w0 ab ba br bw sb p w) (hb : Below w.heap.size w w') : RI w0 ab ba br bw sb p w' := by
  obtain ⟨v, h1, h2⟩ := h.W
  exact ⟨h.gb, (hb.block _ (lt_of_block h.A)).trans h.A, (hb.block _ (lt_of_block h.R)).trans h.R, ⟨v, (hb.block _ (lt_of_block h1)).trans h1, row_kept h2 (fun k hk => hb.block k hk)⟩, h.M.kept (hb.block _ h.M.lt), h.B.trans (hb.mono h.B.size)⟩
theorem box1 {w : World} {b : Nat} {x : Value} {t : TypeId} (h : w.heap[b]? = some (.cells #[x] t (0, 0))) : w.cell? ⟨b, 0, none⟩ = some x ∧ (∀ j, w.frozen? ⟨b, j, none⟩ = false) := by
  refine ⟨?_, fun j => frozen_of_row _ _ _ _ _ h⟩
  rw [cell_of_row _ _ _ _ _ _ h]; rfl
theorem below_drewN {B : Nat} {a w : World} (h : Below B a w) (q : Nat) : Below B a (w.drewN q) := ⟨h.os, h.tape, h.output, h.size, h.block⟩
theorem below_drew {B : Nat} {a w : World} (h : Below B a w) : Below B a w.drew := ⟨h.os, h.tape, h.output, h.size, h.block⟩
theorem get_ptr {base ab : Nat} {w : World} {s : St} (h : Arn base ab w s) (r : Int) (hr0 : 0 ≤ r) (hr1 : r ≤ 18446744073709551615) (o : Option (Nat × Ob)) (ho : look s.slots r = o) :
    Calls Tryz.prog 66 #[.pointer (some ⟨ab, 0, none⟩), .int .u64 r] w fun e w' => e = .returned (ptrOf o) ∧ ∃ q, w' = w.drewN q := by
  rw [← ho]
  exact get_any h r hr0 hr1
/-- The set has one more, and the row. -/
theorem RI.more {w0 w w1 w2 : World} {ab ba br bw sb : Nat} {S wk : List Int} {x : Int} {v v' : Value} {o : Obj} (h : RI w0 ab ba br bw sb (S, wk) w) (hv : w.heap[bw]? = some (.cells #[v] 80 (0, 0))) (hm : RSet w1 sb (x :: S)) (hg : (w.alloc o).grownBy w1 (some sb))
    (hown : w2.ownsRow w0.heap.size 94 1 v' (wk.length + 1) (refRow wk ++ [.int .u64 x])) (hg2 : (w1.alloc (.cells #[.int .u64 x] 94)).grownBy w2 v.ownBlock) (hw : w.ownsRow w0.heap.size 94 1 v wk.length (refRow wk)) :
    RI w0 ab ba br bw sb (x :: S, wk ++ [x]) (w2.setCell ⟨bw, 0, none⟩ v') ∧ w2.heap[bw]? = some (.cells #[v] 80 (0, 0)) := by
  obtain ⟨es, clock, hmb, _⟩ := h.M.block
  have nem : ∀ {k : Nat} {cs : Array Value} {t : TypeId}, w.heap[k]? = some (.cells cs t (0, 0)) → k ≠ sb := by
    rintro k cs t hk rfl
    rw [hmb] at hk; cases hk
  have step1 : ∀ k, k < w.heap.size → k ≠ sb → w1.heap[k]? = w.heap[k]? := fun k hk hne => (hg.block k (by simp; omega) (by simpa using hne)).trans (Below.heap_alloc _ _ _ hk)
  have hs1 : w.heap.size < w1.heap.size := by have := hg.size; simp at this; omega
  have hw1 : w1.ownsRow w0.heap.size 94 1 v wk.length (refRow wk) := by
    refine ⟨hw.1, ?_⟩
    rcases hw.2 with h0 | ⟨g, cap, cur, rfl, hb, hgg, r⟩
    · exact .inl h0
    · exact .inr ⟨g, cap, cur, rfl, hb, (step1 g (lt_of_block hgg) (nem hgg)).trans hgg, r⟩
  have step2 : ∀ k, k < w1.heap.size → (∀ cur, w1.heap[k]? ≠ some (.cells cur 94 (0, 0))) → w2.heap[k]? = w1.heap[k]? := fun k hk hne => by
    refine (hg2.block k (by simp; omega) (fun e => ?_)).trans (Below.heap_alloc _ _ _ hk)
    rcases hw1.2 with ⟨rfl, _⟩ | ⟨g, cap, cur, rfl, hb, hgg, r⟩
    · simp [Value.ownBlock] at e
    · simp [Value.ownBlock] at e
      subst e
      exact hne cur hgg
  have a1 : w1.heap[ba]? = some (.cells #[.pointer (some ⟨ab, 0, none⟩)] 79 (0, 0)) := (step1 ba (lt_of_block h.A) (nem h.A)).trans h.A
  have r1 : w1.heap[br]? = some (.cells #[.map (some sb)] 90 (0, 0)) := (step1 br (lt_of_block h.R) (nem h.R)).trans h.R
  have v1 : w1.heap[bw]? = some (.cells #[v] 80 (0, 0)) := (step1 bw (lt_of_block hv) (nem hv)).trans hv
  obtain ⟨es1, clock1, m1, _⟩ := hm.block
  have a2 := (step2 ba (lt_of_block a1) (fun cur e => by rw [a1] at e; simp at e)).trans a1
  have r2 := (step2 br (lt_of_block r1) (fun cur e => by rw [r1] at e; simp at e)).trans r1
  have v2 := (step2 bw (lt_of_block v1) (fun cur e => by rw [v1] at e; simp at e)).trans v1
  have m2 := hm.kept (step2 sb (lt_of_block m1) (fun cur e => by rw [m1] at e; simp at e))
  have b2 : Below w0.heap.size w0 w2 := by
    have b1 : Below w0.heap.size w0 w1 := (h.B.alloc h.B.size o).grown hg (by have := h.B.size; simp; omega) (fun k e => by cases e; exact h.gb.2)
    exact (b1.alloc b1.size _).grown hg2 (by have := b1.size; simp; omega) (fun k e => (hw1.lt k e).1)
  refine ⟨⟨h.gb, block_set a2 (ne_of_types a2 v2 (by decide)) _, block_set r2 (ne_of_types r2 v2 (by decide)) _, ⟨v', heap_setCell_same _ _ _ _ _ _ v2, ?_⟩, m2.kept (Below.heap_setCell _ _ _ _ ?_), ?_⟩, v2⟩
  · rw [refs_one] at hown
    simpa using ownsRow_setCell_other hown (own_ne hown v2 (by decide)) _
  · rintro rfl
    obtain ⟨es2, clock2, m3, _⟩ := m2.block
    rw [v2] at m3; cases m3
  · exact b2.trans ⟨rfl, rfl, rfl, by simp [World.setCell], fun k hk => Below.heap_setCell _ _ _ _ (by have := h.gb.1; show k ≠ bw; omega)⟩
theorem RI.after {w0 w w1 : World} {ab ba br bw sb : Nat} {p : List Int × List Int} {v : Value} {o : Obj} (h : RI w0 ab ba br bw sb p w) (hv : w.heap[bw]? = some (.cells #[v] 80 (0, 0))) (hw : w.ownsRow w0.heap.size 94 1 v p.2.length (refRow p.2)) (hg : (w.alloc o).grownBy w1 (some sb)) :
    w0.heap.size ≤ w1.heap.size ∧ w1.heap[bw]? = some (.cells #[v] 80 (0, 0)) ∧ w1.ownsRow w0.heap.size 94 1 v p.2.length (refRow p.2) := by
  obtain ⟨es, clock, hmb, _⟩ := h.M.block
  have nem : ∀ {k : Nat} {cs : Array Value} {t : TypeId}, w.heap[k]? = some (.cells cs t (0, 0)) → k ≠ sb := by
    rintro k cs t hk rfl
    rw [hmb] at hk; cases hk
  have step1 : ∀ k, k < w.heap.size → k ≠ sb → w1.heap[k]? = w.heap[k]? := fun k hk hne => (hg.block k (by simp; omega) (by simpa using hne)).trans (Below.heap_alloc _ _ _ hk)
  refine ⟨by have := hg.size; have := h.B.size; simp at *; omega, (step1 bw (lt_of_block hv) (nem hv)).trans hv, hw.1, ?_⟩
  rcases hw.2 with h0 | ⟨g, cap, cur, rfl, hb, hgg, r⟩
  · exact .inl h0
  · exact .inr ⟨g, cap, cur, rfl, hb, (step1 g (lt_of_block hgg) (nem hgg)).trans hgg, r⟩
theorem RI.keep {w0 w w1 w2 : World} {ab ba br bw sb g o2 : Nat} {p : List Int × List Int} {x y : Int} {v : Value} {o : Obj} {k : IntKind} {q : Nat} (h : RI w0 ab ba br bw sb p (w.drewN q)) (hv : w.heap[bw]? = some (.cells #[v] 80 (0, 0))) (hw : w.ownsRow w0.heap.size 94 1 v p.2.length (refRow p.2)) (hc : w.cell? ⟨g, o2, none⟩ = some (.int k y)) (hvg : v.ownBlock ≠ some g)
    (hg : ((w.drewN q).alloc o).grownBy w1 (some sb)) (hg2 : (w1.alloc (.cells #[.int .u64 x] 94)).grownBy w2 v.ownBlock) (e : w2.heap[bw]? = some (.cells #[v] 80 (0, 0))) (v' : Value) : (w2.setCell ⟨bw, 0, none⟩ v').heap[g]? = w.heap[g]? := by
  obtain ⟨ao, cap, hvs, _, _⟩ := row_shape hw
  have hgl : g < w.heap.size := by
    rcases Nat.lt_or_ge g w.heap.size with h | h
    · exact h
    · simp [World.cell?, Array.getElem?_eq_none h] at hc
  have hgs : g ≠ sb := by
    rintro rfl
    obtain ⟨es, clock, hmb, _⟩ := h.M.block
    have hmb : w.heap[g]? = some (.map es clock) := hmb
    simp [World.cell?, hmb] at hc
  have hgb : g ≠ bw := by
    rintro rfl
    rw [cell_of_row _ _ _ _ _ _ hv] at hc
    rw [hvs] at hc
    cases o2 <;> simp at hc
  have hs1 := hg.size
  simp at hs1
  refine (Below.heap_setCell _ _ _ _ hgb).trans ((hg2.block g (by simp; omega) (fun e => hvg e.symm)).trans ((Below.heap_alloc _ _ _ (by omega)).trans ((hg.block g (by simp; omega) (by simpa using hgs)).trans (Below.heap_alloc _ _ _ hgl))))
theorem visit_ok {s : St} (l S wk : List Int) (hn : S.Nodup) (hl : ∀ x ∈ S, lives s x = true) (k : Nat) :
    (visit (lives s) (l.take k) (S, wk)).1.length ≤ s.slots.length ∧ (visit (lives s) (l.take k) (S, wk)).2.length ≤ wk.length + s.slots.length := by
  obtain ⟨add, h1, h2, h3, h4⟩ := visit_spec (lives s) (l.take k) S wk
  rw [h1]
  have hadd := lives_bound (s := s) h3 (fun x hx => (h2 x hx).2.1)
  refine ⟨lives_bound (s := s) ?_ ?_, by simp; omega⟩
  · rw [List.nodup_append]
    exact ⟨nodup_rev h3, hn, fun a ha b hb e => (h2 a (by simpa using ha)).2.2 (e ▸ hb)⟩
  · intro x hx
    rcases List.mem_append.1 hx with hx | hx
    · exact (h2 x (by simpa using hx)).2.1
    · exact hl x hx
set_option maxRecDepth 100000 in
set_option maxHeartbeats 2000000 in
theorem reach_row {base ab ba br bw sb g : Nat} {w0 w : World} {s : St} {S wk nl : List Int} {nv : Value} (hA : Arn base ab w0 s) (h : RI w0 ab ba br bw sb (S, wk) w) (hn : LiesAt w nv nl g) (hg : ∀ v, w.heap[bw]? = some (.cells #[v] 80 (0, 0)) → v.ownBlock ≠ some g)
    (hb : ∀ x ∈ nl, 0 ≤ x ∧ x ≤ 18446744073709551615) (hS : S.Nodup) (hL : ∀ x ∈ S, lives s x = true) (hl : s.slots.length ≤ 100000) (hwk : wk.length ≤ 100000) :
    Calls Tryz.prog 70 #[nv, .pointer (some ⟨ba, 0, none⟩), .pointer (some ⟨br, 0, none⟩), .pointer (some ⟨bw, 0, none⟩)] w fun e w' => e = .returned (.tuple #[]) ∧ RI w0 ab ba br bw sb (visit (lives s) nl (S, wk)) w' := by
  obtain ⟨off, cap, rfl, hc1, hc2, hgl, hcell⟩ := hn
  unfold maxLen at hc2
  have HV : Hid (∀ k, (visit (lives s) (nl.take k) (S, wk)).1.length ≤ s.slots.length ∧ (visit (lives s) (nl.take k) (S, wk)).2.length ≤ wk.length + s.slots.length) := visit_ok nl S wk hS hL
  have HB : Hid (∀ x ∈ nl, 0 ≤ x ∧ x ≤ 18446744073709551615) := hb
  have HC : Hid (∀ j x, nl[j]? = some x → w.cell? ⟨g, off + j, none⟩ = some (.int .u64 x)) := hcell
  have HG : Hid (∀ v, w.heap[bw]? = some (.cells #[v] 80 (0, 0)) → v.ownBlock ≠ some g) := hg
  have HR : Hid (RI w0 ab ba br bw sb (S, wk) w) := h
  clear hcell hb hg h hS hL
  go_enter Tryz.func70, Tryz.ntmps70
  go_wp2_with fail
  go_loopw [9] (fun i wr => ∃ k : Nat, k ≤ nl.length ∧ i = .int .i64 k ∧ RI w0 ab ba br bw sb (visit (lives s) (nl.take k) (S, wk)) wr ∧ (∀ v, wr.heap[bw]? = some (.cells #[v] 80 (0, 0)) → v.ownBlock ≠ some g) ∧ g < wr.heap.size ∧ (∀ j x, nl[j]? = some x → wr.cell? ⟨g, off + j, none⟩ = some (.int .u64 x)))
    (fun i _ => nl.length - (intOf i).toNat)
  case atStart => exact ⟨0, Nat.zero_le _, rfl, HR.out, HG.out, hgl, HC.out⟩
  case round =>
    clear HR HG HC hgl
    obtain ⟨k, hk, rfl, hR, hG, hgl, hC⟩ := hrel
    by_cases hlt : k < nl.length
    · obtain ⟨x, hx⟩ : ∃ x, nl[k]? = some x := ⟨_, List.getElem?_eq_getElem hlt⟩
      have hxb := HB.out x (List.mem_of_getElem? hx)
      have f0 := hC k x hx
      have hidx : 0 ≤ (k : Int) ∧ (k : Int) < (nl.length : Int) := ⟨by omega, by omega⟩
      have hAr := hA.below hR.B
      obtain ⟨cA, cAf⟩ := box1 hR.A
      have HV1 := HV.out k
      have HT : Hid (visit (lives s) (nl.take (k + 1)) (S, wk) = visit1 (lives s) (visit (lives s) (nl.take k) (S, wk)) x) := visit_succ _ _ _ _ _ hx
      obtain ⟨P, hP⟩ : ∃ P, visit (lives s) (nl.take k) (S, wk) = P := ⟨_, rfl⟩
      rw [hP] at hR HT HV1
      have HRR : Hid (RI w0 ab ba br bw sb P wr) := hR
      have HGG : Hid (∀ v, wr.heap[bw]? = some (.cells #[v] 80 (0, 0)) → v.ownBlock ≠ some g) := hG
      have HCC : Hid (∀ j x, nl[j]? = some x → wr.cell? ⟨g, off + j, none⟩ = some (.int .u64 x)) := hC
      clear hP hR hG hC hx
      cases hlv : look s.slots x with
      | none =>
        have HL : Hid (visit (lives s) (nl.take (k + 1)) (S, wk) = P) := by
          show _ = _
          rw [HT.out, visit1, if_neg]; simp [lives, hlv]
        have HLV : Hid (look s.slots x = none) := hlv
        clear hlv HT
        go_wp2_with fail
        refine (get_ptr hAr x hxb.1 hxb.2 none HLV.out).mono ?_
        rintro e w1 ⟨rfl, q, rfl⟩
        simp only [ptrOf]
        go_wp2_with fail
        exact ⟨⟨k + 1, by omega, by go_num, by rw [HL.out]; exact HRR.out.grow (below_drewN (Below.refl _ _) q), HGG.out, hgl, HCC.out⟩, by simp [intOf]; omega⟩
      | some po =>
        obtain ⟨pb, pob⟩ := po
        have HLV : Hid (look s.slots x = some (pb, pob)) := hlv
        have hlf : lives s x = true := by simp [lives, hlv]
        obtain ⟨cR, cRf⟩ := box1 HRR.out.R
        clear hlv
        cases hc : P.1.contains x with
        | true =>
          have HL : Hid (visit (lives s) (nl.take (k + 1)) (S, wk) = P) := by
            show _ = _
            rw [HT.out, visit1, if_neg]; simp only [hc]; simp
          have HCT : Hid (P.1.contains x = true) := hc
          clear hc HT hlf
          go_wp2_with fail
          refine (get_ptr hAr x hxb.1 hxb.2 (some (pb, pob)) HLV.out).mono ?_
          rintro e w1 ⟨rfl, q, rfl⟩
          simp only [ptrOf]
          go_wp2_with fail
          refine (rset_old (HRR.out.M.kept (w' := wr.drewN q) rfl) x hxb.1 hxb.2 HCT.out).mono ?_
          rintro e w2 ⟨rfl, rfl⟩
          have hb2 : Below wr.heap.size wr ((wr.drewN q).alloc (.cells #[] 125)) := (below_drewN (Below.refl _ _) q).alloc (Nat.le_refl _) _
          go_wp2_with fail
          exact ⟨⟨k + 1, by omega, by go_num, by rw [HL.out]; exact HRR.out.grow hb2, fun v hv => HGG.out v ((hb2.block bw (by obtain ⟨v1, h1, _⟩ := HRR.out.W; exact lt_of_block h1)).symm.trans hv), Nat.lt_of_lt_of_le hgl hb2.size, fun j y hy => (hb2.cell (p := ⟨g, off + j, none⟩) hgl).trans (HCC.out j y hy)⟩, by simp [intOf]; omega⟩
        | false =>
          have HL : Hid (visit (lives s) (nl.take (k + 1)) (S, wk) = (x :: P.1, P.2 ++ [x])) := by
            show _ = _
            rw [HT.out, visit1, if_pos]; rw [hc, hlf]; rfl
          have HCT : Hid (P.1.contains x = false) := hc
          obtain ⟨v, hv, hrow⟩ := HRR.out.W
          have hvg := HGG.out v hv
          clear hc HT hlf
          go_wp2_with fail
          refine (get_ptr hAr x hxb.1 hxb.2 (some (pb, pob)) HLV.out).mono ?_
          rintro e w1 ⟨rfl, q, rfl⟩
          simp only [ptrOf]
          have hR1 : RI w0 ab ba br bw sb P (wr.drewN q) := HRR.out.grow (below_drewN (Below.refl _ _) q)
          go_wp2_with fail
          refine (rset_new hR1.M x hxb.1 hxb.2 HCT.out (by omega)).mono ?_
          rintro e w2 ⟨rfl, hM2, hg2⟩
          obtain ⟨k2, e2, f2⟩ := RI.after hR1 hv hrow hg2
          obtain ⟨ti, hti, hz0, hz1, hz2⟩ := info_parts Tryz.info94
          obtain ⟨c2, c2f⟩ := box1 e2
          have hbs : w0.heap.size ≤ w2.heap.size := k2
          have HM2 : Hid (RSet w2 sb (x :: P.1)) := hM2
          have HG2 : Hid (((wr.drewN q).alloc (.cells #[] 125)).grownBy w2 (some sb)) := hg2
          have HF0 : Hid (wr.cell? ⟨g, off + k, none⟩ = some (.int .u64 x)) := f0
          clear hM2 hg2 cR cRf cA cAf f0
          go_wp2_with (at_builtin; refine wpList_append_own2 rfl (.tmp 22) (.tmp 24) 80 rfl w0.heap.size 94 ti _ 1 8 Tryz.underlying80 hti hz0 hz1 hz2 rfl (by decide) v P.2.length _ rfl (f2.alloc _) ⟨w2.heap.size, 0, none⟩ 1 1 [.int .u64 x] rfl rfl (fun j u hj => one_news j u hj) (by intro u hu; simp at hu; subst hu; rfl) (by decide) (by unfold maxLen; omega) (by omega) (by simp; omega) ?_)
          intro v' w3 hown' hgrow hlies
          obtain ⟨ao, cap2, hv', _, _⟩ := row_shape hown'
          obtain ⟨A4, e4⟩ := RI.more (S := P.1) (wk := P.2) hR1 hv HM2.out HG2.out hown' hgrow hrow
          have K4 := RI.keep hR1 hv hrow HF0.out hvg HG2.out hgrow e4 v'
          have L4 : v'.ownBlock ≠ some g := by
            have := HG2.out.size
            simp at this
            rcases hlies with e | e
            · rw [e]; exact hvg
            · rw [e]; simp; omega
          have S4 : (w3.setCell ⟨bw, 0, none⟩ v').heap[bw]? = some (.cells #[v'] 80 (0, 0)) := heap_setCell_same _ _ _ _ _ _ e4
          have G4 : g < (w3.setCell ⟨bw, 0, none⟩ v').heap.size := by
            have h1 := HG2.out.size
            have h2 := hgrow.size
            simp [World.setCell] at h1 h2 ⊢
            omega
          obtain ⟨c4, c4f⟩ := box1 e4
          rw [hv'] at A4 K4 L4 S4 G4 ⊢
          clear hown' hgrow hlies hrow f2 e2 c2 c2f hv hvg HM2 HG2 hR1
          go_wp2_with fail
          exact ⟨⟨k + 1, by omega, by go_num, by rw [HL.out]; exact A4, fun u hu => by rw [S4] at hu; simp at hu; rw [← hu]; exact L4, G4, fun j y hy => (World.cell?_of_block K4).trans (HCC.out j y hy)⟩, by simp [intOf]; omega⟩
    · obtain rfl : k = nl.length := by omega
      rw [visit_all _ _ _ _ (Nat.le_refl _)] at hR
      clear hG hC
      go_wp2
      go_end0
      exact ⟨rfl, hR⟩
end Go.Proofs.YtpgbfkdknggceaaGreatDoor
