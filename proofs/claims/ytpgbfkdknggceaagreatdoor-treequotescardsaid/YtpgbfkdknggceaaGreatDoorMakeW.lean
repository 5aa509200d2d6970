/-
  The walk of the laws' Make of layer 4: the arena, its objects, their fields; the Refs; a cache with no more entries than there are proxies. Nothing that was there is turned.
  Conditions: as the theorem says (at most 1000 objects).
-/
import Derived.Test.YtpgbfkdknggceaaGreatDoorMakeL
import Derived.Test.YtpgbfkdknggceaaGreatDoorLaw
namespace Go.Proofs.YtpgbfkdknggceaaGreatDoor
open Go.ChangeShapes Go.WideShapes Go.ChangeAt Go.RowKit Go.Maps Go.Sort Go.Lib
set_option linter.unusedVariables false
set_option maxRecDepth 100000 in
set_option maxHeartbeats 4000000 in
theorem mkArena {w0 : World} {v : Value} {L : List OO} (hL : ORow w0 v L) (hl : L.length ≤ 1000) (h0 : 0 < L.length) :
    Calls Tryz.prog 48 #[v] w0 fun e w' => ∃ rv B M s, e = .returned (.tuple #[.pointer (some ⟨w0.heap.size, 0, none⟩), rv, .map (some (w0.heap.size + 1))]) ∧ (∃ done, (∀ j oo, L[j]? = some oo → done j = oo.names) ∧ Mk w0 w' w0.heap.size L done B M s L.length) ∧ w'.ownsRow w0.heap.size 94 1 rv L.length (refRow (refsTo L.length)) ∧ Ch w' (w0.heap.size + 1) (L.countP fun oo => oo.proxy) (cacheF L L.length) := by
  have hmm := @run_makeMap Tryz.prog
  obtain ⟨b, off, cap, rfl, hc1, hc2, hat⟩ := hL
  unfold maxLen at hc2
  have HAT : Hid (∀ (w : World), Below w0.heap.size w0 w → ∀ i oo, L[i]? = some oo → OAt w b (off + i * 3) oo ∧ oo.names.length ≤ 1000) := fun w hb i oo hi => ⟨(hat i oo hi).1.below hb, (hat i oo hi).2⟩
  clear hat
  go_enter Tryz.func48, Tryz.ntmps48
  go_wp2_with fail
  refine (new_any _).mono ?_
  rintro e w1 ⟨rfl, hw1⟩
  have A1 : Arn w0.heap.size w0.heap.size w1 ⟨[], [], []⟩ := by rw [hw1]; exact Arn.made w0 (Nat.le_refl _)
  have b1 : Below w0.heap.size w0 w1 := by rw [hw1]; exact (Below.refl _ _).alloc (Nat.le_refl _) _
  have s1 : w1.heap.size = w0.heap.size + 1 := by rw [hw1]; simp
  clear hw1
  go_wp2_with fail
  refine (owner_any (A1.alloc _) _ (by simp)).mono ?_
  rintro e w2 ⟨rfl, A2, F2⟩
  simp only [List.length_nil]
  have c2 : Ch w2 (w0.heap.size + 1) 0 (cacheF L 0) := by
    have hb := heap_alloc_new w1 (.map #[] 0)
    rw [s1] at hb
    have h2 : Ch (w1.alloc (.map #[] 0)) (w0.heap.size + 1) 0 (cacheF L 0) := by rw [← s1]; exact ⟨.map [], World.ownsMap_made _ _ _ _, fun m t p h => (by cases h), fun m t p h => (by cases h), fun kl h => (by cases h)⟩
    exact h2.kept ((F2.map hb).trans hb.symm)
  have b2 : Below w0.heap.size w0 w2 := (b1.alloc b1.size _).trans (F2.below (by have := b1.size; simp; omega))
  have M2 := Mk.start w0 w2 w0.heap.size L (by simpa using A2) b2 (by have := F2.size; simp at this; omega) (fun _ => 0) (fun _ => 0)
  clear A1 A2 F2 b1 b2 s1
  obtain ⟨cb, hcb⟩ : ∃ cb, w0.heap.size + 1 = cb := ⟨_, rfl⟩
  rw [hcb] at c2 ⊢
  have HCB : Hid (w0.heap.size + 1 = cb) := hcb
  clear hcb
  go_wp2_with fail
  go_loopw [28, 8] (fun i rv wr => ∃ k : Nat, k ≤ L.length ∧ i = .int .i64 k ∧ (∃ B M s, Mk w0 wr w0.heap.size L (fun _ => []) B M s k) ∧ wr.ownsRow w0.heap.size 94 1 rv k (refRow (refsTo k)) ∧ Ch wr cb 0 (cacheF L 0))
    (fun i _ _ => L.length - (intOf i).toNat)
  case atStart => exact ⟨0, Nat.zero_le _, rfl, ⟨_, _, _, M2⟩, World.ownsRow_nil _ _ _ _, c2⟩
  case round =>
    clear c2 M2
    obtain ⟨k, hk, rfl, ⟨B, M, s, hM⟩, hrow, hch⟩ := hrel
    by_cases hlt : k < L.length
    · obtain ⟨oo, hoo⟩ : ∃ oo, L[k]? = some oo := ⟨_, List.getElem?_eq_getElem hlt⟩
      obtain ⟨⟨hbl, na, ncap, f0, f1, f2, m0, m1, n0, n1, n2, n3⟩, nl⟩ := HAT.out _ hM.below k oo hoo
      have hidx : 0 ≤ (k : Int) ∧ (k : Int) < (L.length : Int) := ⟨by omega, by omega⟩
      have HM : Hid (Mk w0 wr w0.heap.size L (fun _ => []) B M s k) := hM
      have HR : Hid (wr.ownsRow w0.heap.size 94 1 _ k (refRow (refsTo k))) := hrow
      have HC : Hid (Ch wr cb 0 (cacheF L 0)) := hch
      have HO : Hid (L[k]? = some oo) := hoo
      have HN : Hid (∀ x ∈ oo.names, 0 ≤ x ∧ x ≤ 255) := n2
      clear hM hrow hch hoo n2 n3
      cases hp : oo.proxy with
      | false =>
        rw [hp] at f1
        go_wp2_with fail
        have hS : obStart oo (wr.heap.size + 1) = { fm := some (wr.heap.size + 1) } := by simp [obStart, hp]
        have hb3 : ∀ A C, Below wr.heap.size wr (((wr.alloc A).alloc (.map #[] 0)).alloc C) := fun A C => (((Below.refl _ wr).alloc (Nat.le_refl _) _).alloc (by simp) _).alloc (by simp; omega) _
        have hfl : ∀ A C, Flds (((wr.alloc A).alloc (.map #[] 0)).alloc C) (wr.heap.size + 1) [] := fun A C => by
          have := Flds.made (wr.alloc A)
          simp only [World.size_alloc] at this
          exact this.kept (Below.heap_alloc _ _ _ (by simp))
        have HP := put_made (oo := oo) (mb := wr.heap.size + 1) (HM.out.later (hb3 (.cells #[.slice na oo.names.length ncap, .bool false, .int .u8 oo.mem] 86) (.cells (obStart oo (wr.heap.size + 1)).cells 114))) HO.out (fun _ => hfl _ _) hl
        rw [hS] at HP
        refine HP.mono ?_
        rintro e w5 ⟨rfl, hM5, hF5⟩
        have hb5 := hb3 (.cells #[.slice na oo.names.length ncap, .bool false, .int .u8 oo.mem] 86) (.cells (Ob.cells { fm := some (wr.heap.size + 1) }) 114)
        obtain ⟨hr5, hc5, hz5⟩ := Mk.sides HR.out HC.out hb5 hF5 HM.out.below.size
        clear HP hS hb3 hfl hF5 hb5
        obtain ⟨ti, hti, hz0, hz1, hz2⟩ := info_parts Tryz.info94
        go_wp2_with (at_builtin; refine wpList_append_own _ rfl (.tmp 49) (.tmp 51) 80 rfl w0.heap.size 94 ti _ 1 8 Tryz.underlying80 hti hz0 hz1 hz2 rfl (by decide) u8 k _ rfl (hr5.alloc _) ⟨w5.heap.size, 0, none⟩ 1 1 [.int .u64 (refI k)] rfl rfl one_news (by intro u hu; simp at hu; subst hu; rfl) (by unfold maxLen; omega) (by omega) (by simp; omega) ?_)
        intro v' w6 hown' hgrow _
        obtain ⟨B5, M5, s5, hM5⟩ := hM5
        obtain ⟨hM6, hc6⟩ := hM5.app hc5 hr5 hgrow
        rw [refs_one, ← refsTo_succ] at hown'
        clear hM5 hr5 hc5 hgrow
        go_wp2_with fail
        exact ⟨⟨k + 1, by omega, by go_num, ⟨_, _, _, hM6⟩, hown', hc6⟩, by simp [intOf]; omega⟩
      | true =>
        rw [hp] at f1
        go_wp2_with fail
        have hS : obStart oo 0 = { k := 6, me := oo.mem % 4 } := by simp [obStart, hp]
        have hb3 : ∀ A C, Below wr.heap.size wr (((wr.alloc A).alloc (.map #[] 0)).alloc C) := fun A C => (((Below.refl _ wr).alloc (Nat.le_refl _) _).alloc (by simp) _).alloc (by simp; omega) _
        have HP := put_made (oo := oo) (mb := 0) (HM.out.later (hb3 (.cells #[.slice na oo.names.length ncap, .bool true, .int .u8 oo.mem] 86) (.cells (obStart oo 0).cells 114))) HO.out (fun h => by rw [hp] at h; cases h) hl
        rw [hS] at HP
        refine HP.mono ?_
        rintro e w5 ⟨rfl, hM5, hF5⟩
        have hb5 := hb3 (.cells #[.slice na oo.names.length ncap, .bool true, .int .u8 oo.mem] 86) (.cells (Ob.cells { k := 6, me := oo.mem % 4 }) 114)
        obtain ⟨hr5, hc5, hz5⟩ := Mk.sides HR.out HC.out hb5 hF5 HM.out.below.size
        clear HP hS hb3 hF5 hb5
        obtain ⟨ti, hti, hz0, hz1, hz2⟩ := info_parts Tryz.info94
        go_wp2_with (at_builtin; refine wpList_append_own _ rfl (.tmp 49) (.tmp 51) 80 rfl w0.heap.size 94 ti _ 1 8 Tryz.underlying80 hti hz0 hz1 hz2 rfl (by decide) u8 k _ rfl (hr5.alloc _) ⟨w5.heap.size, 0, none⟩ 1 1 [.int .u64 (refI k)] rfl rfl one_news (by intro u hu; simp at hu; subst hu; rfl) (by unfold maxLen; omega) (by omega) (by simp; omega) ?_)
        intro v' w6 hown' hgrow _
        obtain ⟨B5, M5, s5, hM5⟩ := hM5
        obtain ⟨hM6, hc6⟩ := hM5.app hc5 hr5 hgrow
        rw [refs_one, ← refsTo_succ] at hown'
        clear hM5 hr5 hc5 hgrow
        go_wp2_with fail
        exact ⟨⟨k + 1, by omega, by go_num, ⟨_, _, _, hM6⟩, hown', hc6⟩, by simp [intOf]; omega⟩
    · obtain rfl : k = L.length := by omega
      clear hlt hk
      obtain ⟨W1, hW1⟩ : ∃ W1, W1 = wr := ⟨_, rfl⟩
      subst hW1
      obtain ⟨rg, cr, _, hrv, hcr1, hcr2, _, _⟩ := row_at hrow h0
      unfold maxLen at hcr2
      have hD0 : doneAt L 0 0 (fun _ => []) := fun j oo _ => by simp
      subst hrv
      go_wp2_with fail
      go_loopw [56] (fun i wr => ∃ k : Nat, k ≤ L.length ∧ i = .int .i64 k ∧ (∃ done s, doneAt L k 0 done ∧ Mk w0 wr w0.heap.size L done B M s L.length) ∧ wr.ownsRow w0.heap.size 94 1 (.slice (some ⟨rg, 0, none⟩) L.length cr) L.length (refRow (refsTo L.length)) ∧ Ch wr cb (px L k) (cacheF L k))
        (fun i _ => L.length - (intOf i).toNat)
      case atStart => exact ⟨0, Nat.zero_le _, rfl, ⟨_, _, hD0, hM⟩, hrow, hch⟩
      case round =>
        clear hrow hch hM hD0
        obtain ⟨i, hi, rfl, ⟨done, s, hD, hM⟩, hrow, hch⟩ := hrel
        by_cases hlt : i < L.length
        · obtain ⟨oo, hoo⟩ : ∃ oo, L[i]? = some oo := ⟨_, List.getElem?_eq_getElem hlt⟩
          obtain ⟨⟨hbl, na, ncap, f0, f1, f2, m0, m1, n0, n1, n2, n3⟩, nl⟩ := HAT.out _ (Below.refl _ _) i oo hoo
          replace f0 := (hM.below.cell (p := ⟨b, off + i * 3, none⟩) hbl).trans f0
          replace f1 := (hM.below.cell (p := ⟨b, off + i * 3 + 1, none⟩) hbl).trans f1
          replace f2 := (hM.below.cell (p := ⟨b, off + i * 3 + 2, none⟩) hbl).trans f2
          replace hbl : b < wr.heap.size := Nat.lt_of_lt_of_le hbl hM.below.size
          have hidx : 0 ≤ (i : Int) ∧ (i : Int) < (L.length : Int) := ⟨by omega, by omega⟩
          have e0 : wr.cell? ⟨rg, i, none⟩ = some (.int .u64 (refI i)) := (hrow.cellAt i (by omega)).trans (by simp [refRow, refsTo_get hlt])
          have hlk := look_refI (hM.slot i oo hlt hoo) (by omega)
          have hrr := refI_range i (by omega)
          have hrgl : rg < wr.heap.size := (hrow.lt rg rfl).2
          have hA := hM.arn
          have HG : Hid (∀ o, Calls Tryz.prog 66 #[.pointer (some ⟨w0.heap.size, 0, none⟩), .int .u64 (refI i)] (wr.alloc o) fun e w' => e = .returned (.pointer (some ⟨B i, 0, none⟩)) ∧ ∃ q, w' = (wr.alloc o).drewN q) := fun o => get_ptr (hA.alloc o) (refI i) hrr.1 hrr.2 _ hlk
          have HM : Hid (Mk w0 wr w0.heap.size L done B M s L.length) := hM
          have HD : Hid (doneAt L i 0 done) := hD
          have HR : Hid (wr.ownsRow w0.heap.size 94 1 (.slice (some ⟨rg, 0, none⟩) L.length cr) L.length (refRow (refsTo L.length))) := hrow
          have HC : Hid (Ch wr cb (px L i) (cacheF L i)) := hch
          have HO : Hid (L[i]? = some oo) := hoo
          have HN : Hid (∀ x ∈ oo.names, 0 ≤ x ∧ x ≤ 255) := n2
          have HX : Hid (oo.names ≠ [] → ∃ g o2, na = some ⟨g, o2, none⟩ ∧ g < w0.heap.size ∧ ∀ j x, oo.names[j]? = some x → w0.cell? ⟨g, o2 + j, none⟩ = some (.int .u8 x)) := n3
          clear hM hrow hch hoo n2 n3 hlk hA hD
          go_wp2_with fail
          refine (HG.out _).mono ?_
          rintro e w5 ⟨rfl, q, hw5⟩
          have hb5 : Below wr.heap.size wr w5 := by rw [hw5]; exact below_drewN ((Below.refl _ _).alloc (Nat.le_refl _) _) q
          have hM5 := HM.out.later hb5
          have hr5 := row_kept HR.out (fun k hk => hb5.block k hk)
          have hc5 := HC.out.kept (hb5.block cb HC.out.lt)
          have hcp : w5.heap[wr.heap.size]? = some (.cells #[.slice na oo.names.length ncap, .bool oo.proxy, .int .u8 oo.mem] 86 (0, 0)) := by rw [hw5]; exact heap_alloc_new wr _
          have hcpb : w0.heap.size ≤ wr.heap.size := HM.out.below.size
          obtain ⟨g0, g1, g2, gf⟩ := three hcp
          have HNN : Hid (∀ x ∈ oo.names, 0 ≤ x ∧ x ≤ 255) := HN
          have hnc : oo.names.length ≤ 2 ^ 63 - 1 := by unfold maxLen at n1; omega
          unfold maxLen at n1
          clear hw5 HM HR HC HG f0 f1 f2 e0 hbl hb5
          generalize wr.heap.size = cp at hcp hcpb g0 g1 g2 gf ⊢
          go_wp2_with fail
          have hD5 : doneAt L i 0 done := HD.out
          go_loopw [74] (fun i2 wr => ∃ k : Nat, k ≤ oo.names.length ∧ i2 = .int .i64 k ∧ (∃ done s, doneAt L i k done ∧ Mk w0 wr w0.heap.size L done B M s L.length) ∧ wr.ownsRow w0.heap.size 94 1 (.slice (some ⟨rg, 0, none⟩) L.length cr) L.length (refRow (refsTo L.length)) ∧ Ch wr cb (px L i) (cacheF L i) ∧ wr.heap[cp]? = some (.cells #[.slice na oo.names.length ncap, .bool oo.proxy, .int .u8 oo.mem] 86 (0, 0)))
            (fun i2 _ => oo.names.length - (intOf i2).toNat)
          case atStart => exact ⟨0, Nat.zero_le _, rfl, ⟨_, _, hD5, hM5⟩, hr5, hc5, hcp⟩
          case round =>
            clear hr5 hc5 hM5 hD5 hcp g0 g1 g2 gf HD
            obtain ⟨k, hk, rfl, ⟨done, s, hD, hM⟩, hrow, hch, hcp⟩ := hrel
            obtain ⟨g0, g1, g2, gf⟩ := three hcp
            by_cases hkl : k < oo.names.length
            · obtain ⟨x, hx⟩ : ∃ x, oo.names[k]? = some x := ⟨_, List.getElem?_eq_getElem hkl⟩
              have hxr := HN.out x (List.mem_of_getElem? hx)
              obtain ⟨t, rfl⟩ : ∃ t : Nat, x = (t : Int) := ⟨x.toNat, by omega⟩
              obtain ⟨ng, no, hna, hngl, hnc2⟩ := HX.out (by rintro e; rw [e] at hkl; simp at hkl)
              have hq0 := (hM.below.cell (p := ⟨ng, no + k, none⟩) hngl).trans (hnc2 k _ hx)
              subst hna
              have htl : t % L.length < L.length := Nat.mod_lt _ h0
              have e0 : wr.cell? ⟨rg, t % L.length, none⟩ = some (.int .u64 (refI (t % L.length))) := (hrow.cellAt (t % L.length) (by omega)).trans (by simp [refRow, refsTo_get htl])
              have hkx : 0 ≤ (k : Int) ∧ (k : Int) < (oo.names.length : Int) := ⟨by omega, by omega⟩
              have ht255 : t ≤ 255 := by omega
              have hL0 : ((L.length : Int) == 0) = false := by rw [beq_eq_false_iff_ne]; omega
              have HM : Hid (Mk w0 wr w0.heap.size L done B M s L.length) := hM
              have HD : Hid (doneAt L i k done) := hD
              have HR : Hid (wr.ownsRow w0.heap.size 94 1 (.slice (some ⟨rg, 0, none⟩) L.length cr) L.length (refRow (refsTo L.length))) := hrow
              have HC : Hid (Ch wr cb (px L i) (cacheF L i)) := hch
              have HCP : Hid (wr.heap[cp]? = some (.cells #[.slice (some ⟨ng, no, none⟩) oo.names.length ncap, .bool oo.proxy, .int .u8 oo.mem] 86 (0, 0))) := hcp
              have HXK : Hid (oo.names[k]? = some (t : Int)) := hx
              have hobj := (hM.arn.objs i _ _ _ (hM.slot i oo hlt HO.out) rfl).2
              obtain ⟨y3, y12, yf⟩ := ob_three hobj
              have hBl : B i < wr.heap.size := lt_of_block hobj
              clear hM hrow hch hcp hD hx hnc2 hobj
              cases hp : oo.proxy with
              | true =>
                rw [hp] at g1
                go_wp2_with fail
                obtain ⟨⟨s', hM'⟩, F'⟩ := HM.out.tgt (b := (t : Int)) HO.out hp
                rw [atN_nat] at hM' F'
                obtain ⟨es, clock, hcm⟩ := HC.out.block
                exact ⟨⟨k + 1, by omega, by go_num, ⟨_, _, doneAt_more HD.out HO.out HXK.out, hM'⟩, F'.row HR.out rfl, HC.out.kept ((F'.map hcm).trans hcm.symm), by have := F'.block HCP.out rfl; rw [hp] at this; exact this⟩, by simp [intOf]; omega⟩
              | false =>
                rw [hp] at g1
                have hfm : (obOf oo L.length (done i) (M i)).fm = some (M i) := by simp [obOf, hp]
                rw [hfm] at y3
                obtain ⟨D, hFD⟩ := (HM.out.maps i oo hlt HO.out hp).1
                have hdi : done i = oo.names.take k := by rw [HD.out i oo HO.out, if_neg (by omega), if_pos rfl]
                have hdl : (done i).length = k := by rw [hdi, List.length_take]; omega
                have hFl : (fldsOf L.length (done i)).length = k := by simp [fldsOf, hdl]
                have HUP : Hid (upd (fldsOf L.length (done i)) ⟨2, (k : Int), ⟨#[]⟩⟩ ⟨5, refI (t % L.length), ⟨#[]⟩⟩ = fldsOf L.length (done i ++ [(t : Int)])) := by
                  show _ = _
                  rw [← fldsOf_upd, hdl, atN_nat]
                have hkw : Vl.wf ⟨2, (k : Int), ⟨#[]⟩⟩ := keyW k (by omega)
                have HFD : Hid (FldsD wr (M i) (fldsOf L.length (done i)) D) := hFD
                have HKW : Hid (Vl.wf ⟨2, (k : Int), ⟨#[]⟩⟩) := hkw
                have HFL : Hid ((fldsOf L.length (done i)).length = k) := hFl
                have hBl1 : B i < wr.heap.size + 1 := by omega
                have yA : ∀ o q, (wr.alloc o).cell? ⟨B i, q, none⟩ = wr.cell? ⟨B i, q, none⟩ := fun o q => World.cell?_alloc_past _ _ _ hBl
                have yAA : ∀ o o2 q, ((wr.alloc o).alloc o2).cell? ⟨B i, q, none⟩ = wr.cell? ⟨B i, q, none⟩ := fun o o2 q => (World.cell?_alloc_past _ _ _ (by simp; omega)).trans (World.cell?_alloc_past _ _ _ hBl)
                have htl2 : t % L.length ≤ 1000 := by omega
                obtain ⟨w7, hup, ho7, hg7⟩ := (show (((wr.alloc (.cells #[.int .u8 2, .int .i64 k, .string { data := #[] }] 112)).alloc (.cells #[.int .u8 5, .int .i64 (refI (t % L.length)), .string { data := #[] }] 112)).drew).ownsMap Tryz.prog 112 asIs (M i) (fldsOf L.length (done i)).length D from ((hFD.own.alloc _).alloc _).drew).update keyedV Tryz.underlying108 (by rw [hFl]; unfold maxLen; omega) (keyOf_val hkw) (show asIs (Vl.val ⟨5, refI (t % L.length), ⟨#[]⟩⟩) = some (.held (Vl.val ⟨5, refI (t % L.length), ⟨#[]⟩⟩), []) from rfl)
                simp only [Vl.val] at hup
                have FLD : Hid (Mk w0 w7 w0.heap.size L (moreN done i t) B M s L.length ∧ w7.ownsRow w0.heap.size 94 1 (.slice (some ⟨rg, 0, none⟩) L.length cr) L.length (refRow (refsTo L.length)) ∧ Ch w7 cb (px L i) (cacheF L i) ∧ w7.heap[cp]? = some (.cells #[.slice (some ⟨ng, no, none⟩) oo.names.length ncap, .bool oo.proxy, .int .u8 oo.mem] 86 (0, 0))) :=
                  Mk.fldAll HM.out HO.out hp HFD.out HKW.out HUP.out HR.out HC.out HCP.out ho7 hg7 (by have := HCB.out; omega)
                clear hFD hfm hdi hdl hFl hkw ho7 hg7
                go_upto_region 25 with fail
                go_region_law (first
                  | (refine step_call1R rfl (.tmp 97) 68 2 rfl (.int .i64 k) _ (by first | (simp [Act.eval]; done) | (simp [Act.eval, Act.put]; done)) entersNumber (number_any k _) ?_; rintro w8 rfl)
                  | (refine step_call1R rfl (.tmp 99) 67 94 rfl (.int .u64 (refI (t % L.length))) _ (by first | (simp [Act.eval]; done) | (simp [Act.eval, Act.put]; done)) entersObject (object_refI _ htl2 _) ?_; rintro w8 rfl))
                all_goals
                  obtain ⟨z1, z2, z3, z4⟩ := FLD.out
                  clear hup FLD
                  go_wp2_with fail
                  go_roundw
                  case rel => exact ⟨k + 1, by omega, by go_num, ⟨_, _, doneAt_more HD.out HO.out HXK.out, z1⟩, z2, z3, by first | exact z4 | (rw [hp] at z4; exact z4)⟩
                  case measure => simp [intOf]; omega
            · obtain rfl : k = oo.names.length := by omega
              have hD2 := doneAt_next hD HO.out (Nat.le_refl _)
              have hpx := px_succ HO.out
              clear hkl hk hD
              cases hp : oo.proxy with
              | false =>
                rw [hp] at g1 hpx
                simp only [Bool.false_eq_true, if_false, Nat.add_zero] at hpx
                rw [← hpx, ← cacheF_plain HO.out hp] at hch
                have HM : Hid (Mk w0 wr w0.heap.size L done B M s L.length) := hM
                have HR : Hid (wr.ownsRow w0.heap.size 94 1 (.slice (some ⟨rg, 0, none⟩) L.length cr) L.length (refRow (refsTo L.length))) := hrow
                have HC : Hid (Ch wr cb (px L (i + 1)) (cacheF L (i + 1))) := hch
                have HD : Hid (doneAt L (i + 1) 0 done) := hD2
                clear hM hrow hch hD2 hpx
                go_wp2_with fail
                exact ⟨⟨i + 1, by omega, by go_num, ⟨_, _, HD.out, HM.out⟩, HR.out, HC.out⟩, by simp [intOf]; omega⟩
              | true =>
                rw [hp] at g1 hpx
                simp only [if_true] at hpx
                have hobj := (hM.arn.objs i _ _ _ (hM.slot i oo hlt HO.out) rfl).2
                obtain ⟨y3, y12, yf⟩ := ob_three hobj
                have hBl : B i < wr.heap.size := lt_of_block hobj
                have hta : (obOf oo L.length (done i) (M i)).ta = tgt L.length (done i) := by simp [obOf, hp]
                rw [hta] at y12
                have htr := tgt_range L.length (done i) h0 hl
                have hdi : done i = oo.names := by rw [hD2 i oo HO.out, if_pos (by omega)]
                have hcf := cacheF_proxy HO.out hp
                rw [← hdi] at hcf
                clear hdi
                generalize tgt L.length (done i) = T at y12 htr hcf
                have e0 : wr.cell? ⟨rg, i, none⟩ = some (.int .u64 (refI i)) := (hrow.cellAt i (by omega)).trans (by simp [refRow, refsTo_get hlt])
                have hrr := refI_range i (by omega)
                have hpl := px_le L i
                obtain ⟨D, hCD⟩ := hch
                obtain ⟨w7, hup, ho7, hg7⟩ := (show wr.drew.ownsMap Tryz.prog 121 (plainElem Tryz.prog 94) cb (px L i) D from hCD.own.drew).update keyedE Tryz.underlying82 (by unfold maxLen; omega) (keyE (oo.mem % 4) T (by omega) (by omega) htr.1 htr.2) (plainElem_int Tryz.underlying94 (WalkArith.wf_u64 hrr))
                rw [← hpx] at ho7
                have FIN : Hid (Mk w0 w7 w0.heap.size L done B M s L.length ∧ w7.ownsRow w0.heap.size 94 1 (.slice (some ⟨rg, 0, none⟩) L.length cr) L.length (refRow (refsTo L.length)) ∧ Ch w7 cb (px L (i + 1)) (cacheF L (i + 1))) :=
                  Mk.cached hM hrow ⟨_, hCD⟩ hg7 ⟨_, by rw [hcf]; exact hCD.put ⟨by omega, by omega, htr.1, htr.2⟩ hrr ho7⟩ (by have := HCB.out; omega)
                have HD : Hid (doneAt L (i + 1) 0 done) := hD2
                clear hM hrow hD2 hpx hobj hta ho7 hg7 hCD y3 hcf
                go_upto_region 28 with fail
                go_region
                all_goals
                  obtain ⟨z1, z2, z3⟩ := FIN.out
                  clear hup FIN
                  go_wp2_with fail
                  go_roundw
                  case rel => exact ⟨i + 1, by omega, by go_num, ⟨_, _, HD.out, z1⟩, z2, z3⟩
                  case measure => simp [intOf]; omega
        · obtain rfl : i = L.length := by omega
          have hpx : px L L.length = L.countP fun oo => oo.proxy := by simp [px]
          rw [hpx] at hch
          have HE : Hid (∃ done, (∀ j oo, L[j]? = some oo → done j = oo.names) ∧ Mk w0 wr w0.heap.size L done B M s L.length) := ⟨done, fun j oo hj => by rw [hD j oo hj, if_pos (by obtain ⟨hh, _⟩ := List.getElem?_eq_some_iff.1 hj; exact hh)], hM⟩
          have HR : Hid (wr.ownsRow w0.heap.size 94 1 (.slice (some ⟨rg, 0, none⟩) L.length cr) L.length (refRow (refsTo L.length))) := hrow
          have HC : Hid (Ch wr cb (L.countP fun oo => oo.proxy) (cacheF L L.length)) := hch
          clear hM hrow hch hD hpx
          go_wp2
          have hcb := HCB.out
          go_ret3
          exact ⟨_, B, M, s, by rw [hcb]; rfl, HE.out, HR.out, by rw [hcb]; exact HC.out⟩
end Go.Proofs.YtpgbfkdknggceaaGreatDoor
