/-
 ReachC, Reach, ReachW, joined.
 Conditions: as each theorem says.
-/
import Derived.Test.YtenfphbhofibjaaGreatDoorZSr
import Derived.Test.YtenfphbhofibjaaGreatDoorZHolds
set_option maxRecDepth 100000
set_option maxHeartbeats 2000000
set_option linter.unusedVariables false
namespace Go.Proofs.YtenfphbhofibjaaGreatDoor
open Go.ChangeShapes Go.WideShapes Go.ChangeAt Go.RowKit Go.Maps Go.Sort Go.Lib
def LiesAt (w : World) (v : Value) (l : List Int) (g : Nat) : Prop := ∃ off cap, v = .slice (some ⟨g, off, none⟩) l.length cap ∧ l.length ≤ cap ∧ cap ≤ maxLen ∧ g < w.heap.size ∧ ∀ j x, l[j]? = some x → w.cell? ⟨g, off + j, none⟩ = some (.int .u64 x)
structure RI (w0 : World) (ab ba br bw sb : Nat) (p : List Int × List Int) (w : World) : Prop where
 gb : w0.heap.size ≤ bw ∧ w0.heap.size ≤ sb
 A : w.heap[ba]? = some (.cells #[.pointer (some ⟨ab, 0, none⟩)] 142 (0, 0))
 R : w.heap[br]? = some (.cells #[.map (some sb)] 153 (0, 0))
 W : ∃ v, w.heap[bw]? = some (.cells #[v] 143 (0, 0)) ∧ w.ownsRow w0.heap.size 157 1 v p.2.length (refRow p.2)
 M : RSet w sb p.1
 B : Below w0.heap.size w0 w
theorem RI.grow {w0 w w' : World} {ab ba br bw sb : Nat} {p : List Int × List Int} (h : RI w0 ab ba br bw sb p w) (hb : Below w.heap.size w w') : RI w0 ab ba br bw sb p w' := by
 obtain ⟨v, h1, h2⟩ := h.W
 exact ⟨h.gb, (hb.block _ (lt_of_block h.A)).trans h.A, (hb.block _ (lt_of_block h.R)).trans h.R, ⟨v, (hb.block _ (lt_of_block h1)).trans h1, row_kept h2 (fun k hk => hb.block k hk)⟩, h.M.kept (hb.block _ h.M.lt), h.B.trans (hb.mono h.B.size)⟩
theorem box1 {w : World} {b : Nat} {x : Value} {t : TypeId} (h : w.heap[b]? = some (.cells #[x] t (0, 0))) : w.cell? ⟨b, 0, none⟩ = some x ∧ (∀ j, w.frozen? ⟨b, j, none⟩ = false) := by
 refine ⟨?_, fun j => frozen_of_row _ _ _ _ _ h⟩
 rw [cell_of_row _ _ _ _ _ _ h]; rfl
theorem below_drewN {B : Nat} {a w : World} (h : Below B a w) (q : Nat) : Below B a (w.drewN q) := ⟨h.os, h.tape, h.output, h.size, h.block⟩
theorem below_drew {B : Nat} {a w : World} (h : Below B a w) : Below B a w.drew := ⟨h.os, h.tape, h.output, h.size, h.block⟩
theorem get_ptr {base ab : Nat} {w : World} {s : St} (h : Arn base ab w s) (r : Int) (hr0 : 0 ≤ r) (hr1 : r ≤ 18446744073709551615) (o : Option (Nat × Ob)) (ho : look s.slots r = o) :
 Calls Tryz.prog 122 #[.pointer (some ⟨ab, 0, none⟩), .int .u64 r] w fun e w' => e = .returned (ptrOf o) ∧ ∃ q, w' = w.drewN q := by
 rw [← ho]
 exact get_any h r hr0 hr1
theorem RI.more {w0 w w1 w2 : World} {ab ba br bw sb : Nat} {S wk : List Int} {x : Int} {v v' : Value} {o : Obj} (h : RI w0 ab ba br bw sb (S, wk) w) (hv : w.heap[bw]? = some (.cells #[v] 143 (0, 0))) (hm : RSet w1 sb (x :: S)) (hg : (w.alloc o).grownBy w1 (some sb))
 (hown : w2.ownsRow w0.heap.size 157 1 v' (wk.length + 1) (refRow wk ++ [.int .u64 x])) (hg2 : (w1.alloc (.cells #[.int .u64 x] 157)).grownBy w2 v.ownBlock) (hw : w.ownsRow w0.heap.size 157 1 v wk.length (refRow wk)) :
 RI w0 ab ba br bw sb (x :: S, wk ++ [x]) (w2.setCell ⟨bw, 0, none⟩ v') ∧ w2.heap[bw]? = some (.cells #[v] 143 (0, 0)) := by
 obtain ⟨es, clock, hmb, _⟩ := h.M.block
 have nem : ∀ {k : Nat} {cs : Array Value} {t : TypeId}, w.heap[k]? = some (.cells cs t (0, 0)) → k ≠ sb := by
  rintro k cs t hk rfl
  rw [hmb] at hk; cases hk
 have step1 : ∀ k, k < w.heap.size → k ≠ sb → w1.heap[k]? = w.heap[k]? := fun k hk hne => (hg.block k (by simp; omega) (by simpa using hne)).trans (Below.heap_alloc _ _ _ hk)
 have hs1 : w.heap.size < w1.heap.size := by have := hg.size; simp at this; omega
 have hw1 : w1.ownsRow w0.heap.size 157 1 v wk.length (refRow wk) := by
  refine ⟨hw.1, ?_⟩
  rcases hw.2 with h0 | ⟨g, cap, cur, rfl, hb, hgg, r⟩
  ·exact .inl h0
  ·exact .inr ⟨g, cap, cur, rfl, hb, (step1 g (lt_of_block hgg) (nem hgg)).trans hgg, r⟩
 have step2 : ∀ k, k < w1.heap.size → (∀ cur, w1.heap[k]? ≠ some (.cells cur 157 (0, 0))) → w2.heap[k]? = w1.heap[k]? := fun k hk hne => by
  refine (hg2.block k (by simp; omega) (fun e => ?_)).trans (Below.heap_alloc _ _ _ hk)
  rcases hw1.2 with ⟨rfl, _⟩ | ⟨g, cap, cur, rfl, hb, hgg, r⟩
  ·simp [Value.ownBlock] at e
  ·simp [Value.ownBlock] at e
   subst e
   exact hne cur hgg
 have a1 : w1.heap[ba]? = some (.cells #[.pointer (some ⟨ab, 0, none⟩)] 142 (0, 0)) := (step1 ba (lt_of_block h.A) (nem h.A)).trans h.A
 have r1 : w1.heap[br]? = some (.cells #[.map (some sb)] 153 (0, 0)) := (step1 br (lt_of_block h.R) (nem h.R)).trans h.R
 have v1 : w1.heap[bw]? = some (.cells #[v] 143 (0, 0)) := (step1 bw (lt_of_block hv) (nem hv)).trans hv
 obtain ⟨es1, clock1, m1, _⟩ := hm.block
 have a2 := (step2 ba (lt_of_block a1) (fun cur e => by rw [a1] at e; simp at e)).trans a1
 have r2 := (step2 br (lt_of_block r1) (fun cur e => by rw [r1] at e; simp at e)).trans r1
 have v2 := (step2 bw (lt_of_block v1) (fun cur e => by rw [v1] at e; simp at e)).trans v1
 have m2 := hm.kept (step2 sb (lt_of_block m1) (fun cur e => by rw [m1] at e; simp at e))
 have b2 : Below w0.heap.size w0 w2 := by
  have b1 : Below w0.heap.size w0 w1 := (h.B.alloc h.B.size o).grown hg (by have := h.B.size; simp; omega) (fun k e => by cases e; exact h.gb.2)
  exact (b1.alloc b1.size _).grown hg2 (by have := b1.size; simp; omega) (fun k e => (hw1.lt k e).1)
 refine ⟨⟨h.gb, block_set a2 (ne_of_types a2 v2 (by decide)) _, block_set r2 (ne_of_types r2 v2 (by decide)) _, ⟨v', heap_setCell_same _ _ _ _ _ _ v2, ?_⟩, m2.kept (Below.heap_setCell _ _ _ _ ?_), ?_⟩, v2⟩
 ·rw [refs_one] at hown
  simpa using ownsRow_setCell_other hown (own_ne hown v2 (by decide)) _
 ·rintro rfl
  obtain ⟨es2, clock2, m3, _⟩ := m2.block
  rw [v2] at m3; cases m3
 ·exact b2.trans ⟨rfl, rfl, rfl, by simp [World.setCell], fun k hk => Below.heap_setCell _ _ _ _ (by have := h.gb.1; show k ≠ bw; omega)⟩
theorem RI.after {w0 w w1 : World} {ab ba br bw sb : Nat} {p : List Int × List Int} {v : Value} {o : Obj} (h : RI w0 ab ba br bw sb p w) (hv : w.heap[bw]? = some (.cells #[v] 143 (0, 0))) (hw : w.ownsRow w0.heap.size 157 1 v p.2.length (refRow p.2)) (hg : (w.alloc o).grownBy w1 (some sb)) :
 w0.heap.size ≤ w1.heap.size ∧ w1.heap[bw]? = some (.cells #[v] 143 (0, 0)) ∧ w1.ownsRow w0.heap.size 157 1 v p.2.length (refRow p.2) := by
 obtain ⟨es, clock, hmb, _⟩ := h.M.block
 have nem : ∀ {k : Nat} {cs : Array Value} {t : TypeId}, w.heap[k]? = some (.cells cs t (0, 0)) → k ≠ sb := by
  rintro k cs t hk rfl
  rw [hmb] at hk; cases hk
 have step1 : ∀ k, k < w.heap.size → k ≠ sb → w1.heap[k]? = w.heap[k]? := fun k hk hne => (hg.block k (by simp; omega) (by simpa using hne)).trans (Below.heap_alloc _ _ _ hk)
 refine ⟨by have := hg.size; have := h.B.size; simp at *; omega, (step1 bw (lt_of_block hv) (nem hv)).trans hv, hw.1, ?_⟩
 rcases hw.2 with h0 | ⟨g, cap, cur, rfl, hb, hgg, r⟩
 ·exact .inl h0
 ·exact .inr ⟨g, cap, cur, rfl, hb, (step1 g (lt_of_block hgg) (nem hgg)).trans hgg, r⟩
theorem RI.keep {w0 w w1 w2 : World} {ab ba br bw sb g o2 : Nat} {p : List Int × List Int} {x y : Int} {v : Value} {o : Obj} {k : IntKind} {q : Nat} (h : RI w0 ab ba br bw sb p (w.drewN q)) (hv : w.heap[bw]? = some (.cells #[v] 143 (0, 0))) (hw : w.ownsRow w0.heap.size 157 1 v p.2.length (refRow p.2)) (hc : w.cell? ⟨g, o2, none⟩ = some (.int k y)) (hvg : v.ownBlock ≠ some g)
 (hg : ((w.drewN q).alloc o).grownBy w1 (some sb)) (hg2 : (w1.alloc (.cells #[.int .u64 x] 157)).grownBy w2 v.ownBlock) (e : w2.heap[bw]? = some (.cells #[v] 143 (0, 0))) (v' : Value) : (w2.setCell ⟨bw, 0, none⟩ v').heap[g]? = w.heap[g]? := by
 obtain ⟨ao, cap, hvs, _, _⟩ := row_shape hw
 have hgl : g < w.heap.size := by
  rcases Nat.lt_or_ge g w.heap.size with h | h
  ·exact h
  ·simp [World.cell?, Array.getElem?_eq_none h] at hc
 have hgs : g ≠ sb := by
  rintro rfl
  obtain ⟨es, clock, hmb, _⟩ := h.M.block
  have hmb : w.heap[g]? = some (.map es clock) := hmb
  simp [World.cell?, hmb] at hc
 have hgb : g ≠ bw := by
  rintro rfl
  rw [cell_of_row _ _ _ _ _ _ hv] at hc
  rw [hvs] at hc
  cases o2 <;> simp at hc
 have hs1 := hg.size
 simp at hs1
 refine (Below.heap_setCell _ _ _ _ hgb).trans ((hg2.block g (by simp; omega) (fun e => hvg e.symm)).trans ((Below.heap_alloc _ _ _ (by omega)).trans ((hg.block g (by simp; omega) (by simpa using hgs)).trans (Below.heap_alloc _ _ _ hgl))))
theorem visit_ok {s : St} (l S wk : List Int) (hn : S.Nodup) (hl : ∀ x ∈ S, lives s x = true) (k : Nat) :
 (visit (lives s) (l.take k) (S, wk)).1.length ≤ s.slots.length ∧ (visit (lives s) (l.take k) (S, wk)).2.length ≤ wk.length + s.slots.length := by
 obtain ⟨add, h1, h2, h3, h4⟩ := visit_spec (lives s) (l.take k) S wk
 rw [h1]
 have hadd := lives_bound (s := s) h3 (fun x hx => (h2 x hx).2.1)
 refine ⟨lives_bound (s := s) ?_ ?_, by simp; omega⟩
 ·rw [List.nodup_append]
  exact ⟨nodup_rev h3, hn, fun a ha b hb e => (h2 a (by simpa using ha)).2.2 (e ▸ hb)⟩
 ·intro x hx
  rcases List.mem_append.1 hx with hx | hx
  ·exact (h2 x (by simpa using hx)).2.1
  ·exact hl x hx
theorem reach_row {base ab ba br bw sb g : Nat} {w0 w : World} {s : St} {S wk nl : List Int} {nv : Value} (hA : Arn base ab w0 s) (h : RI w0 ab ba br bw sb (S, wk) w) (hn : LiesAt w nv nl g) (hg : ∀ v, w.heap[bw]? = some (.cells #[v] 143 (0, 0)) → v.ownBlock ≠ some g)
 (hb : ∀ x ∈ nl, 0 ≤ x ∧ x ≤ 18446744073709551615) (hS : S.Nodup) (hL : ∀ x ∈ S, lives s x = true) (hl : s.slots.length ≤ 100000) (hwk : wk.length ≤ 100000) :
 Calls Tryz.prog 126 #[nv, .pointer (some ⟨ba, 0, none⟩), .pointer (some ⟨br, 0, none⟩), .pointer (some ⟨bw, 0, none⟩)] w fun e w' => e = .returned (.tuple #[]) ∧ RI w0 ab ba br bw sb (visit (lives s) nl (S, wk)) w' := by
 obtain ⟨off, cap, rfl, hc1, hc2, hgl, hcell⟩ := hn
 unfold maxLen at hc2
 have HV : Hid (∀ k, (visit (lives s) (nl.take k) (S, wk)).1.length ≤ s.slots.length ∧ (visit (lives s) (nl.take k) (S, wk)).2.length ≤ wk.length + s.slots.length) := visit_ok nl S wk hS hL
 have HB : Hid (∀ x ∈ nl, 0 ≤ x ∧ x ≤ 18446744073709551615) := hb
 have HC : Hid (∀ j x, nl[j]? = some x → w.cell? ⟨g, off + j, none⟩ = some (.int .u64 x)) := hcell
 have HG : Hid (∀ v, w.heap[bw]? = some (.cells #[v] 143 (0, 0)) → v.ownBlock ≠ some g) := hg
 have HR : Hid (RI w0 ab ba br bw sb (S, wk) w) := h
 clear hcell hb hg h hS hL
 go_enter Tryz.func126, Tryz.ntmps126
 go_wp2_with fail
 go_loopw [9] (fun i wr => ∃ k : Nat, k ≤ nl.length ∧ i = .int .i64 k ∧ RI w0 ab ba br bw sb (visit (lives s) (nl.take k) (S, wk)) wr ∧ (∀ v, wr.heap[bw]? = some (.cells #[v] 143 (0, 0)) → v.ownBlock ≠ some g) ∧ g < wr.heap.size ∧ (∀ j x, nl[j]? = some x → wr.cell? ⟨g, off + j, none⟩ = some (.int .u64 x)))
  (fun i _ => nl.length - (intOf i).toNat)
 case atStart => exact ⟨0, Nat.zero_le _, rfl, HR.out, HG.out, hgl, HC.out⟩
 case round =>
  clear HR HG HC hgl
  obtain ⟨k, hk, rfl, hR, hG, hgl, hC⟩ := hrel
  by_cases hlt : k < nl.length
  ·obtain ⟨x, hx⟩ : ∃ x, nl[k]? = some x := ⟨_, List.getElem?_eq_getElem hlt⟩
   have hxb := HB.out x (List.mem_of_getElem? hx)
   have f0 := hC k x hx
   have hidx : 0 ≤ (k : Int) ∧ (k : Int) < (nl.length : Int) := ⟨by omega, by omega⟩
   have hAr := hA.below hR.B
   obtain ⟨cA, cAf⟩ := box1 hR.A
   have HV1 := HV.out k
   have HT : Hid (visit (lives s) (nl.take (k + 1)) (S, wk) = visit1 (lives s) (visit (lives s) (nl.take k) (S, wk)) x) := visit_succ _ _ _ _ _ hx
   obtain ⟨P, hP⟩ : ∃ P, visit (lives s) (nl.take k) (S, wk) = P := ⟨_, rfl⟩
   rw [hP] at hR HT HV1
   have HRR : Hid (RI w0 ab ba br bw sb P wr) := hR
   have HGG : Hid (∀ v, wr.heap[bw]? = some (.cells #[v] 143 (0, 0)) → v.ownBlock ≠ some g) := hG
   have HCC : Hid (∀ j x, nl[j]? = some x → wr.cell? ⟨g, off + j, none⟩ = some (.int .u64 x)) := hC
   clear hP hR hG hC hx
   cases hlv : look s.slots x with
   | none =>
    have HL : Hid (visit (lives s) (nl.take (k + 1)) (S, wk) = P) := by
     show _ = _
     rw [HT.out, visit1, if_neg]; simp [lives, hlv]
    have HLV : Hid (look s.slots x = none) := hlv
    clear hlv HT
    go_wp2_with fail
    refine (get_ptr hAr x hxb.1 hxb.2 none HLV.out).mono ?_
    rintro e w1 ⟨rfl, q, rfl⟩
    simp only [ptrOf]
    go_wp2_with fail
    exact ⟨⟨k + 1, by omega, by go_num, by rw [HL.out]; exact HRR.out.grow (below_drewN (Below.refl _ _) q), HGG.out, hgl, HCC.out⟩, by simp [intOf]; omega⟩
   | some po =>
    obtain ⟨pb, pob⟩ := po
    have HLV : Hid (look s.slots x = some (pb, pob)) := hlv
    have hlf : lives s x = true := by simp [lives, hlv]
    obtain ⟨cR, cRf⟩ := box1 HRR.out.R
    clear hlv
    cases hc : P.1.contains x with
    | true =>
     have HL : Hid (visit (lives s) (nl.take (k + 1)) (S, wk) = P) := by
      show _ = _
      rw [HT.out, visit1, if_neg]; simp only [hc]; simp
     have HCT : Hid (P.1.contains x = true) := hc
     clear hc HT hlf
     go_wp2_with fail
     refine (get_ptr hAr x hxb.1 hxb.2 (some (pb, pob)) HLV.out).mono ?_
     rintro e w1 ⟨rfl, q, rfl⟩
     simp only [ptrOf]
     go_wp2_with fail
     refine (rset_old (HRR.out.M.kept (w' := wr.drewN q) rfl) x hxb.1 hxb.2 HCT.out).mono ?_
     rintro e w2 ⟨rfl, rfl⟩
     have hb2 : Below wr.heap.size wr ((wr.drewN q).alloc (.cells #[] 189)) := (below_drewN (Below.refl _ _) q).alloc (Nat.le_refl _) _
     go_wp2_with fail
     exact ⟨⟨k + 1, by omega, by go_num, by rw [HL.out]; exact HRR.out.grow hb2, fun v hv => HGG.out v ((hb2.block bw (by obtain ⟨v1, h1, _⟩ := HRR.out.W; exact lt_of_block h1)).symm.trans hv), Nat.lt_of_lt_of_le hgl hb2.size, fun j y hy => (hb2.cell (p := ⟨g, off + j, none⟩) hgl).trans (HCC.out j y hy)⟩, by simp [intOf]; omega⟩
    | false =>
     have HL : Hid (visit (lives s) (nl.take (k + 1)) (S, wk) = (x :: P.1, P.2 ++ [x])) := by
      show _ = _
      rw [HT.out, visit1, if_pos]; rw [hc, hlf]; rfl
     have HCT : Hid (P.1.contains x = false) := hc
     obtain ⟨v, hv, hrow⟩ := HRR.out.W
     have hvg := HGG.out v hv
     clear hc HT hlf
     go_wp2_with fail
     refine (get_ptr hAr x hxb.1 hxb.2 (some (pb, pob)) HLV.out).mono ?_
     rintro e w1 ⟨rfl, q, rfl⟩
     simp only [ptrOf]
     have hR1 : RI w0 ab ba br bw sb P (wr.drewN q) := HRR.out.grow (below_drewN (Below.refl _ _) q)
     go_wp2_with fail
     refine (rset_new hR1.M x hxb.1 hxb.2 HCT.out (by omega)).mono ?_
     rintro e w2 ⟨rfl, hM2, hg2⟩
     obtain ⟨k2, e2, f2⟩ := RI.after hR1 hv hrow hg2
     obtain ⟨ti, hti, hz0, hz1, hz2⟩ := info_parts Tryz.info157
     obtain ⟨c2, c2f⟩ := box1 e2
     have hbs : w0.heap.size ≤ w2.heap.size := k2
     have HM2 : Hid (RSet w2 sb (x :: P.1)) := hM2
     have HG2 : Hid (((wr.drewN q).alloc (.cells #[] 189)).grownBy w2 (some sb)) := hg2
     have HF0 : Hid (wr.cell? ⟨g, off + k, none⟩ = some (.int .u64 x)) := f0
     clear hM2 hg2 cR cRf cA cAf f0
     go_wp2_with (at_builtin; refine wpList_append_own2 rfl (.tmp 22) (.tmp 24) 143 rfl w0.heap.size 157 ti _ 1 8 Tryz.underlying143 hti hz0 hz1 hz2 rfl (by decide) v P.2.length _ rfl (f2.alloc _) ⟨w2.heap.size, 0, none⟩ 1 1 [.int .u64 x] rfl rfl (fun j u hj => one_news j u hj) (by intro u hu; simp at hu; subst hu; rfl) (by decide) (by unfold maxLen; omega) (by omega) (by simp; omega) ?_)
     intro v' w3 hown' hgrow hlies
     obtain ⟨ao, cap2, hv', _, _⟩ := row_shape hown'
     obtain ⟨A4, e4⟩ := RI.more (S := P.1) (wk := P.2) hR1 hv HM2.out HG2.out hown' hgrow hrow
     have K4 := RI.keep hR1 hv hrow HF0.out hvg HG2.out hgrow e4 v'
     have L4 : v'.ownBlock ≠ some g := by
      have := HG2.out.size
      simp at this
      rcases hlies with e | e
      ·rw [e]; exact hvg
      ·rw [e]; simp; omega
     have S4 : (w3.setCell ⟨bw, 0, none⟩ v').heap[bw]? = some (.cells #[v'] 143 (0, 0)) := heap_setCell_same _ _ _ _ _ _ e4
     have G4 : g < (w3.setCell ⟨bw, 0, none⟩ v').heap.size := by
      have h1 := HG2.out.size
      have h2 := hgrow.size
      simp [World.setCell] at h1 h2 ⊢
      omega
     obtain ⟨c4, c4f⟩ := box1 e4
     rw [hv'] at A4 K4 L4 S4 G4 ⊢
     clear hown' hgrow hlies hrow f2 e2 c2 c2f hv hvg HM2 HG2 hR1
     go_wp2_with fail
     exact ⟨⟨k + 1, by omega, by go_num, by rw [HL.out]; exact A4, fun u hu => by rw [S4] at hu; simp at hu; rw [← hu]; exact L4, G4, fun j y hy => (World.cell?_of_block K4).trans (HCC.out j y hy)⟩, by simp [intOf]; omega⟩
  ·obtain rfl : k = nl.length := by omega
   rw [visit_all _ _ _ _ (Nat.le_refl _)] at hR
   clear hG hC
   go_wp2
   go_end0
   exact ⟨rfl, hR⟩
end Go.Proofs.YtenfphbhofibjaaGreatDoor
namespace Go.Proofs.YtenfphbhofibjaaGreatDoor
open Go.ChangeShapes Go.WideShapes Go.ChangeAt Go.RowKit Go.Maps Go.Sort Go.Lib
def Objs (w : World) (s : St) (fl : Nat → List (Vl × Vl)) : Prop :=
 ∀ (i : Nat) (sl : Sl) (b : Nat) (o : Ob), s.slots[i]? = some sl → sl.obj = some (b, o) → FldsO w o.fm (fl i) ∧ o.hd = .slice none 0 0 ∧ (fl i).length ≤ 1000 ∧ 0 ≤ o.br ∧ o.br ≤ 18446744073709551615 ∧ 0 ≤ o.ta ∧ o.ta ≤ 18446744073709551615 ∧ 0 ≤ o.me ∧ o.me ≤ 3
theorem FldsO.below {w w' : World} {r : Option Nat} {m : List (Vl × Vl)} (h : FldsO w r m) (hb : Below w.heap.size w w') : FldsO w' r m :=
 h.kept fun b hb2 => by
  rcases h with ⟨h1, _⟩ | ⟨c, h1, h2⟩
  ·rw [h1] at hb2; cases hb2
  ·rw [h1] at hb2; cases hb2; exact hb.block _ h2.lt
theorem Objs.below {w w' : World} {s : St} {fl : Nat → List (Vl × Vl)} (h : Objs w s fl) (hb : Below w.heap.size w w') : Objs w' s fl :=
 fun i sl b o h1 h2 => ⟨(h i sl b o h1 h2).1.below hb, (h i sl b o h1 h2).2⟩
def nmOf (s : St) (fl : Nat → List (Vl × Vl)) (dd : Int → Bool) (r : Int) : List Int :=
 match look s.slots r with
 | none => []
 | some (_, o) => if o.k == 6 && dd o.me then [] else (namesOf (fl (r % 4294967296).toNat) [] o.br ⟨o.ck, o.cn, o.cs⟩ o.ta).filter fun x => !(x == 0)
def DeadF (w : World) (g : Nat) (lb : Array Value) (dd : Int → Bool) : Prop :=
 (∀ args w, (callFunc g args).run Tryz.prog w = .ok (.enter g args) w) ∧ ∀ (W : World) (x : Int), Below w.heap.size w W → 0 ≤ x → x ≤ 3 → Calls Tryz.prog g (#[.int .i64 x] ++ lb) W fun e w' => e = .returned (.bool (dd x)) ∧ ∃ q, w' = W.drewN q
def mapSize (w : World) (b : Nat) : Nat := match w.heap[b]? with | some (.map es _) => es.size | _ => 0
def boxLen (w : World) (b : Nat) : Nat := match w.heap[b]? with | some (Obj.cells cs _ _) => (match (cs[0]? : Option Value) with | some (.slice _ n _) => n | _ => 0) | _ => 0
theorem RI.sizes {w0 w : World} {ab ba br bw sb : Nat} {p : List Int × List Int} (h : RI w0 ab ba br bw sb p w) : mapSize w sb = p.1.length ∧ boxLen w bw = p.2.length := by
 obtain ⟨es, clock, h1, h2⟩ := h.M.block
 obtain ⟨v, h3, h4⟩ := h.W
 obtain ⟨ao, cap, rfl, _, _⟩ := row_shape h4
 exact ⟨by simp [mapSize, h1, h2], by simp [boxLen, h3]⟩
theorem orNone_some (g : Nat) (lb : Array Value) (w : World) : Calls Tryz.prog 125 #[.func (.func g) #[] lb] w fun e w' => e = .returned (.func (.func g) #[] lb) ∧ w' = w := by
 have hrun : ∀ w : World, (binOp .neq 151 (.func (.func g) #[] lb) .nilFunc).run Tryz.prog w = .ok (.bool true) w := fun w => by kernel_rfl
 go_enter Tryz.func125, Tryz.ntmps125
 go_wp2
 go_ret
 exact ⟨rfl, rfl⟩
theorem reach_none {w0 w : World} {ba br bw : Nat} : Calls Tryz.prog 126 #[.slice none 0 0, .pointer (some ⟨ba, 0, none⟩), .pointer (some ⟨br, 0, none⟩), .pointer (some ⟨bw, 0, none⟩)] w fun e w' => e = .returned (.tuple #[]) ∧ w' = w := by
 go_enter Tryz.func126, Tryz.ntmps126
 go_wp2_with fail
 refine wp_loop_rounds 1 ?_
 rw [rounds_succ]
 go_wp2
 go_end0
 exact ⟨rfl, rfl⟩
theorem RI.pop {w0 w : World} {ab ba br bw sb g cap : Nat} {S wk : List Int} {x : Int} (h : RI w0 ab ba br bw sb (S, wk ++ [x]) w) (hv : w.heap[bw]? = some (.cells #[.slice (some ⟨g, 0, none⟩) (wk.length + 1) cap] 143 (0, 0))) :
 RI w0 ab ba br bw sb (S, wk) (w.setCell ⟨bw, 0, none⟩ (.slice (some ⟨g, 0, none⟩) wk.length cap)) := by
 obtain ⟨v, h1, h2⟩ := h.W
 rw [hv] at h1
 simp at h1
 subst h1
 have r3 : w.ownsRow w0.heap.size 157 1 (.slice (some ⟨g, 0, none⟩) wk.length cap) wk.length (refRow wk) := by
  obtain ⟨e1, e2⟩ := h2
  refine ⟨by simp [refRow], ?_⟩
  rcases e2 with ⟨e2, _⟩ | ⟨g', cap', cur, e2, e3, e4, e5, e6, e7, e8⟩
  ·simp at e2
  ·simp at e2
   obtain ⟨rfl, rfl⟩ := e2
   refine .inr ⟨g, cap, cur, rfl, e3, e4, by simp at e5; omega, e6, e7, ?_⟩
   have := congrArg (List.take wk.length) e8
   simp [List.take_take, refRow] at this
   simpa [refRow] using this
 obtain ⟨es, clock, hm, _⟩ := h.M.block
 refine ⟨h.gb, block_set h.A (ne_of_types h.A hv (by decide)) _, block_set h.R (ne_of_types h.R hv (by decide)) _, ⟨_, heap_setCell_same _ _ _ _ _ _ hv, ownsRow_setCell_other r3 (own_ne r3 hv (by decide)) _⟩, h.M.kept (Below.heap_setCell _ _ _ _ ?_), ?_⟩
 ·rintro rfl
  rw [hv] at hm; cases hm
 ·exact h.B.trans ⟨rfl, rfl, rfl, by simp [World.setCell], fun k hk => Below.heap_setCell _ _ _ _ (by have := h.gb.1; show k ≠ bw; omega)⟩
theorem row_lies {w : World} {base : Nat} {v : Value} {l : List Int} (h : w.ownsRow base 157 1 v l.length (l.map (Value.int .u64))) : (v = .slice none 0 0 ∧ l = []) ∨ ∃ g, base ≤ g ∧ LiesAt w v l g := by
 rcases h.2 with ⟨rfl, h0⟩ | ⟨g, cap, cur, rfl, hb, hg, r1, r2, r3, r4⟩
 ·exact .inl ⟨rfl, List.length_eq_zero_iff.1 h0⟩
 ·refine .inr ⟨g, hb, 0, cap, rfl, r1, r2, lt_of_block hg, fun j x hj => ?_⟩
  have hjl : j < l.length := by obtain ⟨hh, _⟩ := List.getElem?_eq_some_iff.1 hj; exact hh
  rw [Nat.zero_add, h.cellAt j (by omega)]
  simp [hj]
theorem Objs.at {w : World} {s : St} {fl : Nat → List (Vl × Vl)} (h : Objs w s fl) {r : Int} {b : Nat} {o : Ob} (hl : look s.slots r = some (b, o)) :
 FldsO w o.fm (fl (r % 4294967296).toNat) ∧ o.hd = .slice none 0 0 ∧ (fl (r % 4294967296).toNat).length ≤ 1000 ∧ 0 ≤ o.br ∧ o.br ≤ 18446744073709551615 ∧ 0 ≤ o.ta ∧ o.ta ≤ 18446744073709551615 ∧ 0 ≤ o.me ∧ o.me ≤ 3 := by
 obtain ⟨sl, h1, h2, h3⟩ := lives_slot (s := s) (r := r) (by simp [lives, hl])
 exact h _ sl b o h1 (h3.trans hl)
theorem Arn.at {base ab : Nat} {w : World} {s : St} (h : Arn base ab w s) {r : Int} {b : Nat} {o : Ob} (hl : look s.slots r = some (b, o)) : w.heap[b]? = some (.cells o.cells 178 (0, 0)) := by
 obtain ⟨sl, h1, h2, h3⟩ := lives_slot (s := s) (r := r) (by simp [lives, hl])
 exact (h.objs _ sl b o h1 (h3.trans hl)).2
theorem nm_bound {w : World} {s : St} {fl : Nat → List (Vl × Vl)} (h : Objs w s fl) (dd : Int → Bool) (r : Int) : ∀ x ∈ nmOf s fl dd r, 0 ≤ x ∧ x ≤ 18446744073709551615 := by
 intro x hx
 unfold nmOf at hx
 split at hx
 ·simp at hx
 ·rename_i b o hl
  have ho := h.at hl
  split at hx
  ·simp at hx
  ·have hx := (List.mem_filter.1 hx).1
   simp only [namesOf, List.mem_append, List.mem_map, List.mem_cons, List.not_mem_nil, or_false] at hx
   rcases hx with (⟨y, _, rfl⟩ | ⟨y, hy, rfl⟩) | rfl | rfl | rfl
   ·exact refOf_bound _
   ·exact refOf_bound _
   ·exact ⟨ho.2.2.2.1, ho.2.2.2.2.1⟩
   ·exact refOf_bound _
   ·exact ⟨ho.2.2.2.2.2.1, ho.2.2.2.2.2.2.1⟩
theorem ob_kind {w : World} {b : Nat} {o : Ob} (h : w.heap[b]? = some (.cells o.cells 178 (0, 0))) : w.cell? ⟨b, 0, none⟩ = some (.int .u8 o.k) ∧ w.cell? ⟨b, 11, none⟩ = some (.int .i64 o.me) := by
 refine ⟨?_, ?_⟩ <;> (rw [cell_of_row _ _ _ _ _ _ h]; rfl)
theorem reach_named {base ab ba br bw sb b : Nat} {w0 w : World} {s : St} {fl : Nat → List (Vl × Vl)} {dd : Int → Bool} {roots S wk : List Int} {x : Int} {o : Ob} {v : Value} (hA : Arn base ab w0 s) (hO : Objs w0 s fl) (hl : s.slots.length ≤ 100000) (hR : RI w0 ab ba br bw sb (S, wk) w) (hx : look s.slots x = some (b, o)) (hk : (o.k == 6 && dd o.me) = false) (hG : Going (lives s) (nmOf s fl dd) roots S (wk ++ [x]))
 {wh : World} (hb : Below w.heap.size w wh) (hv : wh.ownsRow w.heap.size 157 1 v ((namesOf (fl (x % 4294967296).toNat) [] o.br ⟨o.ck, o.cn, o.cs⟩ o.ta).filter fun x => !(x == 0)).length (((namesOf (fl (x % 4294967296).toNat) [] o.br ⟨o.ck, o.cn, o.cs⟩ o.ta).filter fun x => !(x == 0)).map (Value.int .u64))) :
 Calls Tryz.prog 126 #[v, .pointer (some ⟨ba, 0, none⟩), .pointer (some ⟨br, 0, none⟩), .pointer (some ⟨bw, 0, none⟩)] wh fun e w' => e = .returned (.tuple #[]) ∧ ∃ S' wk', RI w0 ab ba br bw sb (S', wk') w' ∧ Going (lives s) (nmOf s fl dd) roots S' wk' ∧ S'.length + wk.length = S.length + wk'.length := by
 have hnm : nmOf s fl dd x = (namesOf (fl (x % 4294967296).toNat) [] o.br ⟨o.ck, o.cn, o.cs⟩ o.ta).filter fun x => !(x == 0) := by
  unfold nmOf
  rw [hx]
  simp only [hk]
  rfl
 rw [← hnm] at hv
 have hN := hG.next
 have hR2 := hR.grow hb
 have hbd := hG.bound
 have hsz : (visit (lives s) (nmOf s fl dd x) (S, wk)).1.length + wk.length = S.length + (visit (lives s) (nmOf s fl dd x) (S, wk)).2.length := by
  obtain ⟨add, h1, _⟩ := visit_spec (lives s) (nmOf s fl dd x) S wk
  rw [h1]; simp; omega
 rcases row_lies hv with ⟨rfl, h0⟩ | ⟨g, hg, hg2⟩
 ·refine (reach_none (w0 := w0)).mono ?_
  rintro e w' ⟨rfl, rfl⟩
  rw [h0] at hN
  exact ⟨rfl, S, wk, hR2, hN, rfl⟩
 ·refine (reach_row hA hR2 hg2 (fun u hu => ?_) (nm_bound hO dd x) hG.nodup (fun y hy => (hG.sound y hy).live) hl (by simp at hbd; omega)).mono ?_
  ·obtain ⟨u', h1, h2⟩ := hR.W
   have h3 := (hb.block _ (lt_of_block h1)).trans h1
   rw [hu] at h3
   simp at h3
   subst h3
   intro e
   have := (h2.lt g e).2
   omega
  ·rintro e w' ⟨rfl, h1⟩
   exact ⟨rfl, _, _, h1, hN, hsz⟩
end Go.Proofs.YtenfphbhofibjaaGreatDoor
namespace Go.Proofs.YtenfphbhofibjaaGreatDoor
open Go.ChangeShapes Go.WideShapes Go.ChangeAt Go.RowKit Go.Maps Go.Sort Go.Lib
def RootsAt (w : World) (v : Value) (l : List Int) : Prop := (v = .slice none 0 0 ∧ l = []) ∨ ∃ g, LiesAt w v l g
theorem LiesAt.below {w w' : World} {v : Value} {l : List Int} {g : Nat} (h : LiesAt w v l g) (hb : Below w.heap.size w w') : LiesAt w' v l g := by
 obtain ⟨off, cap, h1, h2, h3, h4, h5⟩ := h
 exact ⟨off, cap, h1, h2, h3, Nat.lt_of_lt_of_le h4 hb.size, fun j x hj => (hb.cell (p := ⟨g, off + j, none⟩) h4).trans (h5 j x hj)⟩
theorem reach_roots {base ab ba br bw sb : Nat} {w0 w : World} {s : St} {roots : List Int} {rv : Value} (hA : Arn base ab w0 s) (hl : s.slots.length ≤ 100000) (hR : RI w0 ab ba br bw sb ([], []) w) (hr : RootsAt w0 rv roots) (hb : ∀ x ∈ roots, 0 ≤ x ∧ x ≤ 18446744073709551615) (nm : Int → List Int) :
 Calls Tryz.prog 126 #[rv, .pointer (some ⟨ba, 0, none⟩), .pointer (some ⟨br, 0, none⟩), .pointer (some ⟨bw, 0, none⟩)] w fun e w' => e = .returned (.tuple #[]) ∧ ∃ S' wk', RI w0 ab ba br bw sb (S', wk') w' ∧ Going (lives s) nm roots S' wk' := by
 have hN := Going.start (lives s) nm roots
 rcases hr with ⟨rfl, rfl⟩ | ⟨g, hg⟩
 ·refine (reach_none (w0 := w0)).mono ?_
  rintro e w' ⟨rfl, rfl⟩
  exact ⟨rfl, [], [], hR, hN⟩
 ·have hgl : g < w0.heap.size := by obtain ⟨_, _, _, _, _, h4, _⟩ := hg; exact h4
  refine (reach_row hA hR (hg.below hR.B) (fun u hu => ?_) hb (by simp) (by simp) hl (by simp)).mono ?_
  ·obtain ⟨u', h1, h2⟩ := hR.W
   rw [hu] at h1
   simp at h1
   subst h1
   intro e
   have := (h2.lt g e).1
   omega
  ·rintro e w' ⟨rfl, h1⟩
   exact ⟨rfl, _, _, h1, hN⟩
theorem RI.start (w : World) (ab : Nat) : RI w ab w.heap.size (w.heap.size + 1 + 1) (w.heap.size + 1 + 1 + 1) (w.heap.size + 1) ([], []) ((((w.alloc (.cells #[.pointer (some ⟨ab, 0, none⟩)] 142)).alloc (.map #[] 0)).alloc (.cells #[.map (some (w.heap.size + 1))] 153)).alloc (.cells #[.slice none 0 0] 143)) := by
 have s1 : (w.alloc (.cells #[.pointer (some ⟨ab, 0, none⟩)] 142)).heap.size = w.heap.size + 1 := by simp
 have s2 : ((w.alloc (.cells #[.pointer (some ⟨ab, 0, none⟩)] 142)).alloc (.map #[] 0)).heap.size = w.heap.size + 1 + 1 := by simp
 have s3 : (((w.alloc (.cells #[.pointer (some ⟨ab, 0, none⟩)] 142)).alloc (.map #[] 0)).alloc (.cells #[.map (some (w.heap.size + 1))] 153)).heap.size = w.heap.size + 1 + 1 + 1 := by simp
 have m1 := RSet.made (w.alloc (.cells #[.pointer (some ⟨ab, 0, none⟩)] 142))
 rw [s1] at m1
 have r1 := heap_alloc_new ((w.alloc (.cells #[.pointer (some ⟨ab, 0, none⟩)] 142)).alloc (.map #[] 0)) (.cells #[.map (some (w.heap.size + 1))] 153)
 rw [s2] at r1
 have w1 := heap_alloc_new (((w.alloc (.cells #[.pointer (some ⟨ab, 0, none⟩)] 142)).alloc (.map #[] 0)).alloc (.cells #[.map (some (w.heap.size + 1))] 153)) (.cells #[.slice none 0 0] 143)
 rw [s3] at w1
 refine ⟨⟨by omega, by omega⟩, block_alloc (block_alloc (block_alloc (heap_alloc_new w _) _) _) _, block_alloc r1 _, ⟨_, w1, World.ownsRow_nil _ _ _ _⟩, ?_, ?_⟩
 ·exact (m1.kept (Below.heap_alloc _ _ _ m1.lt)).kept (Below.heap_alloc _ _ _ (by simp))
 ·exact ((((Below.refl _ w).alloc (Nat.le_refl _) _).alloc (by simp) _).alloc (by simp; omega) _).alloc (by simp; omega) _
theorem lives_range {s : St} {r : Int} (h : lives s r = true) (hu : ∀ (n : Nat) (sl : Sl), s.slots[n]? = some sl → sl.uses ≤ 4294967295 := by assumption) : 0 ≤ r ∧ r ≤ 18446744073709551615 := by
 obtain ⟨sl, h1, h2, _⟩ := lives_slot h
 have := hu _ sl h1
 omega
theorem reach_any {base ab dg : Nat} {lb : Array Value} {w : World} {s : St} {fl : Nat → List (Vl × Vl)} {dd : Int → Bool} {roots : List Int} {rv : Value} (hA : Arn base ab w s) (hO : Objs w s fl) (hl : s.slots.length ≤ 100000) (hu : ∀ (n : Nat) (sl : Sl), s.slots[n]? = some sl → sl.uses ≤ 4294967295) (hr : RootsAt w rv roots) (hb : ∀ x ∈ roots, 0 ≤ x ∧ x ≤ 18446744073709551615) (hD : DeadF w dg lb dd) :
 Calls Tryz.prog 96 #[.pointer (some ⟨ab, 0, none⟩), rv, .func (.func dg) #[] lb] w fun e w' => ∃ sb, e = .returned (.map (some sb)) ∧ ∃ S, RSet w' sb S ∧ (∀ x, x ∈ S ↔ Rch (lives s) (nmOf s fl dd) roots x) ∧ w.heap.size ≤ sb ∧ Below w.heap.size w w' := by
 have hmm := @run_makeMap Tryz.prog
 have HA : Hid (Arn base ab w s) := hA
 have HO : Hid (Objs w s fl) := hO
 have HR : Hid (RootsAt w rv roots) := hr
 have HB : Hid (∀ x ∈ roots, 0 ≤ x ∧ x ≤ 18446744073709551615) := hb
 have HD : Hid (∀ (W : World) (x : Int), Below w.heap.size w W → 0 ≤ x → x ≤ 3 → Calls Tryz.prog dg (#[.int .i64 x] ++ lb) W fun e w' => e = .returned (.bool (dd x)) ∧ ∃ q, w' = W.drewN q) := hD.2
 have eD := hD.1
 clear hA hO hr hb hD
 go_enter Tryz.func96, Tryz.ntmps96
 go_wp2_with fail
 refine (orNone_some _ _ _).mono ?_
 rintro e wx ⟨rfl, rfl⟩
 go_wp2_with fail
 refine (reach_roots HA.out hl (RI.start w ab) HR.out HB.out (nmOf s fl dd)).mono ?_
 rintro e w1 ⟨rfl, S1, wk1, hR1, hG1⟩
 go_wp2_with fail
 generalize w.heap.size + 1 + 1 + 1 = bw at hR1 ⊢
 generalize w.heap.size + 1 + 1 = br at hR1 ⊢
 obtain ⟨sb, hsb⟩ : ∃ sb, sb = w.heap.size + 1 := ⟨_, rfl⟩
 rw [← hsb] at hR1 ⊢
 have hbs : w.heap.size ≤ sb := by omega
 clear hsb
 go_loopw [10] (fun _ wr => ∃ S wk, RI w ab w.heap.size br bw sb (S, wk) wr ∧ Going (lives s) (nmOf s fl dd) roots S wk)
  (fun _ wr => (s.slots.length - mapSize wr sb) + boxLen wr bw)
 case atStart => exact ⟨S1, wk1, hR1, hG1⟩
 case round =>
  clear hR1 hG1
  obtain ⟨S, wk, hR, hG⟩ := hrel
  obtain ⟨v, hv, hrow⟩ := hR.W
  simp only at hrow
  obtain ⟨cV, cVf⟩ := box1 hv
  obtain ⟨cR, cRf⟩ := box1 hR.R
  obtain ⟨cA, cAf⟩ := box1 hR.A
  have HS := hR.sizes
  simp only at HS
  rcases List.eq_nil_or_concat wk with rfl | ⟨l, x, rfl⟩
  ·obtain ⟨ao, cap, rfl, hc1, hc2⟩ := row_shape hrow
   simp only [List.length_nil] at cV
   unfold maxLen at hc2
   have hM := hR.M
   have hB := hR.B
   have HG : Hid (∀ x, x ∈ S ↔ Rch (lives s) (nmOf s fl dd) roots x) := hG.done
   clear hG hR hrow hv HS
   go_wp2
   go_ret
   exact ⟨sb, rfl, S, hM, HG.out, hbs, hB⟩
  ·rw [List.concat_eq_append] at hR hG hrow HS
   rw [List.length_append, List.length_singleton] at hrow HS
   obtain ⟨g, cap, cur, rfl, hc1, hc2, hgb, hgg⟩ := row_at hrow (by omega)
   unfold maxLen at hc2
   have e0 : wr.cell? ⟨g, l.length, none⟩ = some (.int .u64 x) := by
    rw [hrow.cellAt l.length (by omega)]; simp [refRow]
   have hbd := hG.bound
   simp at hbd
   have hxS : x ∈ S := hG.wait x (by simp)
   have hxl := (hG.sound x hxS).live
   obtain ⟨b, o, hlk⟩ : ∃ b o, look s.slots x = some (b, o) := by
    unfold lives at hxl
    cases h : look s.slots x with
    | none => rw [h] at hxl; simp at hxl
    | some p => exact ⟨p.1, p.2, rfl⟩
   have HGe : Hid (∀ n, Calls Tryz.prog 122 #[.pointer (some ⟨ab, 0, none⟩), .int .u64 x] (wr.drewN n) fun e w' => e = .returned (.pointer (some ⟨b, 0, none⟩)) ∧ ∃ m, w' = (wr.drewN n).drewN m) :=
    fun n => get_ptr ((HA.out.below hR.B).drewN n) x (by have := lives_range hxl; omega) (by have := lives_range hxl; omega) (some (b, o)) hlk
   have HL : Hid (look s.slots x = some (b, o)) := hlk
   have HGo : Hid (Going (lives s) (nmOf s fl dd) roots S (l ++ [x])) := hG
   have HRI : Hid (RI w ab w.heap.size br bw sb (S, l ++ [x]) wr) := hR
   have HV : Hid (wr.heap[bw]? = some (.cells #[.slice (some ⟨g, 0, none⟩) (l.length + 1) cap] 143 (0, 0))) := hv
   have hidx : 0 ≤ (l.length : Int) ∧ (l.length : Int) < (l.length + 1 : Int) := ⟨by omega, by omega⟩
   clear hlk hG hR hv hrow hxl hxS hgg
   go_wp2_with fail
   go_quiet ((go_at_call 122; exact Calls.quiet_of (HGe.out _)))
   clear HGe
   go_upto_region 10 with fail
   have HRP : RI w ab w.heap.size br bw sb (S, l) ((wr.drewN nq).setCell ⟨bw, 0, none⟩ (.slice (some ⟨g, 0, none⟩) l.length cap)) := (HRI.out.grow (below_drewN (Below.refl _ _) nq)).pop HV.out
   have HSZ : (s.slots.length - mapSize wr sb) + boxLen wr bw = (s.slots.length - S.length) + (l.length + 1) := by rw [HS.1, HS.2]
   clear HS HRI HV cV cVf cR cRf cA cAf e0
   generalize (wr.drewN nq).setCell ⟨bw, 0, none⟩ (.slice (some ⟨g, 0, none⟩) l.length cap) = W2 at HRP ⊢
   have hA2 := HA.out.below HRP.B
   have hO2 := (HO.out.below HRP.B).at HL.out
   have hob := hA2.at HL.out
   obtain ⟨k0, k11⟩ := ob_kind hob
   have HHO : Hid (Calls Tryz.prog 128 #[.pointer (some ⟨b, 0, none⟩)] W2 fun e w' => ∃ v, e = .returned v ∧ w'.ownsRow W2.heap.size 157 1 v ((namesOf (fl (x % 4294967296).toNat) [] o.br ⟨o.ck, o.cn, o.cs⟩ o.ta).filter fun x => !(x == 0)).length (((namesOf (fl (x % 4294967296).toNat) [] o.br ⟨o.ck, o.cn, o.cs⟩ o.ta).filter fun x => !(x == 0)).map (Value.int .u64)) ∧ Below W2.heap.size W2 w') :=
    holds_any (b2 := 0) (held := []) hob hO2.1 (by rw [hO2.2.1]; exact World.ownsRow_nil _ _ _ _) (by omega) (by simp)
   have hme : 0 ≤ o.me ∧ o.me ≤ 3 := hO2.2.2.2.2.2.2.2
   clear hO2 hob hA2 hmm
   cases hk : (o.k != 6) with
   | true =>
    have HKD : Hid ((o.k == 6 && dd o.me) = false) := by
     show _ = _
     have : (o.k == 6) = false := by simpa using hk
     rw [this]; rfl
    go_wp2_with fail
    refine HHO.out.mono ?_
    rintro e wh ⟨vh, rfl, hvh, hbh⟩
    go_wp2_with fail
    refine (reach_named HA.out HO.out hl HRP HL.out HKD.out HGo.out hbh hvh).mono ?_
    rintro e w9 ⟨rfl, S9, wk9, hR9, hG9, hs9⟩
    have hz9 := hR9.sizes
    have hb9 := hG9.bound
    go_wp2_with fail
    exact ⟨⟨S9, wk9, hR9, hG9⟩, by rw [HSZ, hz9.1, hz9.2]; omega⟩
   | false =>
    cases hd : dd o.me with
    | true =>
     have hsk : nmOf s fl dd x = [] := by
      unfold nmOf
      rw [HL.out]
      have : (o.k == 6) = true := by simpa using hk
      simp [this, hd]
     have HSK := HGo.out.skip hsk
     have HC : Hid (∀ W : World, Below w.heap.size w W → Calls Tryz.prog dg (#[.int .i64 o.me] ++ lb) W fun e w' => e = .returned (.bool true) ∧ ∃ q, w' = W.drewN q) := fun W hW => by have := HD.out W o.me hW hme.1 hme.2; rw [hd] at this; exact this
     clear hsk hd
     go_wp2_with fail
     refine (HC.out _ HRP.B).mono ?_
     rintro e w8 ⟨rfl, q, rfl⟩
     have hR8 := HRP.grow (below_drewN (Below.refl _ _) q)
     have hz8 := hR8.sizes
     have hb8 := HSK.bound
     go_wp2_with fail
     exact ⟨⟨S, l, hR8, HSK⟩, by rw [HSZ, hz8.1, hz8.2]; omega⟩
    | false =>
     have HKD : Hid ((o.k == 6 && dd o.me) = false) := by show _ = _; rw [hd]; simp
     have HC : Hid (∀ W : World, Below w.heap.size w W → Calls Tryz.prog dg (#[.int .i64 o.me] ++ lb) W fun e w' => e = .returned (.bool false) ∧ ∃ q, w' = W.drewN q) := fun W hW => by have := HD.out W o.me hW hme.1 hme.2; rw [hd] at this; exact this
     clear hd
     go_wp2_with fail
     refine (HC.out _ HRP.B).mono ?_
     rintro e w8 ⟨rfl, q, hw8⟩
     have hR8 : RI w ab w.heap.size br bw sb (S, l) w8 := by rw [hw8]; exact HRP.grow (below_drewN (Below.refl _ _) q)
     have hA8 := HA.out.below hR8.B
     have hO8 := (HO.out.below hR8.B).at HL.out
     have HH8 : Hid (Calls Tryz.prog 128 #[.pointer (some ⟨b, 0, none⟩)] w8 fun e w' => ∃ v, e = .returned v ∧ w'.ownsRow w8.heap.size 157 1 v ((namesOf (fl (x % 4294967296).toNat) [] o.br ⟨o.ck, o.cn, o.cs⟩ o.ta).filter fun x => !(x == 0)).length (((namesOf (fl (x % 4294967296).toNat) [] o.br ⟨o.ck, o.cn, o.cs⟩ o.ta).filter fun x => !(x == 0)).map (Value.int .u64)) ∧ Below w8.heap.size w8 w') :=
      holds_any (b2 := 0) (held := []) (hA8.at HL.out) hO8.1 (by rw [hO8.2.1]; exact World.ownsRow_nil _ _ _ _) (by omega) (by simp)
     clear hw8 hA8 hO8 HHO
     go_wp2_with fail
     refine HH8.out.mono ?_
     rintro e wh ⟨vh, rfl, hvh, hbh⟩
     go_wp2_with fail
     refine (reach_named HA.out HO.out hl hR8 HL.out HKD.out HGo.out hbh hvh).mono ?_
     rintro e w9 ⟨rfl, S9, wk9, hR9, hG9, hs9⟩
     have hz9 := hR9.sizes
     have hb9 := hG9.bound
     go_wp2_with fail
     exact ⟨⟨S9, wk9, hR9, hG9⟩, by rw [HSZ, hz9.1, hz9.2]; omega⟩
end Go.Proofs.YtenfphbhofibjaaGreatDoor
