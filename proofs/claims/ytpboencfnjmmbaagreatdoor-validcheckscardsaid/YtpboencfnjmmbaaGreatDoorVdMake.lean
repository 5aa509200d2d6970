/-
  The laws' Make of layer 11.
  Conditions: as each theorem says.
-/
import Derived.Test.YtpboencfnjmmbaaGreatDoorVdOpen
import Derived.Deep.CutBlock
import Derived.Deep.DeepCutAuto
namespace Go.Proofs.YtpboencfnjmmbaaGreatDoor
open Go.RowKit
set_option linter.unusedVariables false
set_option linter.unusedSimpArgs false
def mkC (c : LC) : VI := ⟨c.op % 24, c.a, c.b, c.c⟩
def mkF (f : LF) : VF := ⟨f.p, f.h, f.r, f.n % 4, f.cd.map mkC ++ if f.e then [⟨18, 0, 0, 0⟩] else []⟩
theorem infoVal : (Tryz.prog.info? 208).map (fun i => (i.zero, i.size, i.bytes)) = some (some (.agg #[.int .u8 0, .int .i64 0, .string ⟨#[]⟩]), 3, 32) := by kernel_rfl
/-- The function that is made, before what it holds and its instructions are there. -/
def XB (w0 : World) (f : LF) (xb : Nat) (w : World) (vh vc : Value) : Prop := w0.heap.size ≤ xb ∧ ∃ ca, w.heap[xb]? = some (.cells #[.int .i64 f.p, vh, .int .i64 f.r, .slice ca (f.n % 4) (f.n % 4), vc] 47 (0, 0))
theorem XB.below {w0 w w' : World} {f : LF} {xb : Nat} {vh vc : Value} (h : XB w0 f xb w vh vc) (hb : Below w.heap.size w w') : XB w0 f xb w' vh vc := by
  obtain ⟨h1, ca, h2⟩ := h
  exact ⟨h1, ca, (hb.block _ (lt_of_block h2)).trans h2⟩
theorem XB.grown {w0 w w' : World} {f : LF} {xb : Nat} {vh vc v : Value} {base size n : Nat} {e : TypeId} {xs : List Value} (h : XB w0 f xb w vh vc) (k : w.ownsRow base e size v n xs) (he : e ≠ 47) (hg : w.grownBy w' v.ownBlock) : XB w0 f xb w' vh vc := by
  obtain ⟨h1, ca, h2⟩ := h
  exact ⟨h1, ca, (hg.block _ (lt_of_block h2) (fun e9 => rown_ne k h2 he e9.symm)).trans h2⟩
theorem XB.set1 {w0 w : World} {f : LF} {xb : Nat} {vh vc : Value} (h : XB w0 f xb w vh vc) (u : Value) : XB w0 f xb (w.setCell ⟨xb, 1, none⟩ u) u vc := by
  obtain ⟨h1, ca, h2⟩ := h
  exact ⟨h1, ca, heap_setCell_same _ _ _ _ _ _ h2⟩
theorem XB.set4 {w0 w : World} {f : LF} {xb : Nat} {vh vc : Value} (h : XB w0 f xb w vh vc) (u : Value) : XB w0 f xb (w.setCell ⟨xb, 4, none⟩ u) vh u := by
  obtain ⟨h1, ca, h2⟩ := h
  exact ⟨h1, ca, heap_setCell_same _ _ _ _ _ _ h2⟩
theorem heap2 (w : World) (A B : Obj) : ((w.alloc A).alloc B).heap[w.heap.size + 1]? = some B := by
  rw [show w.heap.size + 1 = (w.alloc A).heap.size from by simp]; exact heap_alloc_new _ _
theorem xb_a {w : World} {f : LF} {r : Obj} : XB w f (w.heap.size + 1) ((w.alloc r).alloc (.cells #[.int .i64 f.p, .slice none 0 0, .int .i64 f.r, .slice (some ⟨w.heap.size, 0, none⟩) (f.n % 4) (f.n % 4), .slice none 0 0] 47)).drew (.slice none 0 0) (.slice none 0 0) :=
  ⟨Nat.le_succ _, _, by
    show ((w.alloc r).alloc _).heap[w.heap.size + 1]? = _
    rw [show w.heap.size + 1 = (w.alloc r).heap.size from by simp]; exact heap_alloc_new _ _⟩
theorem xb_b {w : World} {f : LF} {r : Obj} : XB w f w.heap.size ((w.alloc (.cells #[.int .i64 f.p, .slice none 0 0, .int .i64 f.r, .slice (some ⟨w.heap.size + 1, 0, none⟩) (f.n % 4) (f.n % 4), .slice none 0 0] 47)).alloc r).drew (.slice none 0 0) (.slice none 0 0) :=
  ⟨Nat.le_refl _, _, by
    show ((w.alloc _).alloc r).heap[w.heap.size]? = _
    rw [Below.heap_alloc _ _ _ (by simp)]; exact heap_alloc_new _ _⟩
theorem below_grown {w0 w w' : World} {v : Value} {base size n : Nat} {e : TypeId} {xs : List Value} (h : Below w0.heap.size w0 w) (k : w.ownsRow base e size v n xs) (hb : w0.heap.size ≤ base) (hg : w.grownBy w' v.ownBlock) : Below w0.heap.size w0 w' :=
  h.grown hg h.size (fun j e9 => Nat.le_trans hb (World.ownsRow.lt k j e9).1)
set_option maxRecDepth 100000 in
set_option maxHeartbeats 4000000 in
theorem make11_any {l : List LF} {v : Value} {w : World} (hL : LFS w v l) (hok : ∀ f ∈ l, f.ok) (hlen : l.length ≤ 8) (hsm : ∀ f ∈ l, f.cd.length ≤ 40 ∧ f.h.length ≤ 10) :
    Calls Tryz.prog 13 #[v] w fun e w' => ∃ vm, e = .returned (.agg #[vm]) ∧ FSl w' vm (l.map mkF) ∧ Below w.heap.size w w' := by
  have HL := Lib.hid hL
  have HOK := Lib.hid hok
  have HSM := Lib.hid hsm
  obtain ⟨ad, cap, rfl, hc1, hx1, _⟩ := hL
  unfold maxLen at hx1
  clear hok hsm
  go_enter Tryz.func13, Tryz.ntmps13
  go_wp2_with fail
  obtain ⟨w1, hw1⟩ : ∃ w1, w1 = (w.alloc (.cells #[.slice none 0 0] 31)).alloc (.cells #[.slice none 0 0] 31) := ⟨_, rfl⟩
  have HR1 : Hid (w1.heap[w.heap.size]? = some (.cells #[.slice none 0 0] 31 (0, 0))) := by refine Lib.hid ?_; rw [hw1, Below.heap_alloc _ _ _ (by simp)]; exact heap_alloc_new _ _
  have HM1 : Hid (w1.heap[w.heap.size + 1]? = some (.cells #[.slice none 0 0] 31 (0, 0))) := by
    refine Lib.hid ?_
    rw [hw1, show w.heap.size + 1 = (w.alloc (.cells #[.slice none 0 0] 31)).heap.size from by simp]; exact heap_alloc_new _ _
  have HB1 : Hid (Below w.heap.size w w1) := by refine Lib.hid ?_; rw [hw1]; exact bl2 _ _ _
  rw [← hw1]
  clear hw1
  go_loopw [13] (fun i wr => ∃ (k : Nat) (qs : List QF) (vm : Value), i = .int .i64 (k : Int) ∧ k ≤ l.length ∧ Hid (Below w.heap.size w wr) ∧ Hid (wr.heap[w.heap.size]? = some (.cells #[.slice none 0 0] 31 (0, 0))) ∧ Hid (wr.heap[w.heap.size + 1]? = some (.cells #[vm] 31 (0, 0))) ∧ Hid (wr.ownsRow (w.heap.size + 2) 47 5 vm qs.length (qcells qs)) ∧ Hid (∀ q ∈ qs, QOk wr q) ∧ Hid (qs.map (·.f) = (l.take k).map mkF))
    (fun i _ => l.length - (Go.RowKit.intOf i).toNat)
  case atStart => exact ⟨0, [], _, rfl, Nat.zero_le _, HB1.out, HR1.out, HM1.out, World.ownsRow_nil _ _ _ _, fun q hq => (by cases hq), rfl⟩
  case round =>
    obtain ⟨k, qs, vm, rfl, hk, HBk, HRk, HMk, HOk, HQk, HEk⟩ := hrel
    obtain ⟨W0, hW0⟩ : ∃ W0, W0 = wr := ⟨_, rfl⟩
    subst hW0
    by_cases hlt : k < l.length
    · obtain ⟨f, hf⟩ : ∃ f, l[k]? = some f := ⟨_, List.getElem?_eq_getElem hlt⟩
      have HFO : Hid f.ok := HOK.out f (List.mem_of_getElem? hf)
      obtain ⟨hs40, hs10⟩ := HSM.out f (List.mem_of_getElem? hf)
      have HFK : Hid (l[k]? = some f) := hf
      obtain ⟨ad9, cap9, hv9, _, _, hg9⟩ := HL.out.up HBk.out
      injection hv9 with hv1 hv2 hv3
      subst hv1
      obtain ⟨g, o, rfl, gl, A⟩ := hg9 (by omega)
      obtain ⟨hv, iv, HH0, HC0, c0, c1, c2, c3, c4, c5⟩ := A k f hf
      have HHS := Lib.hid HH0
      have HCS := Lib.hid HC0
      obtain ⟨adh, caph, rfl, _, _, _⟩ := HH0
      obtain ⟨adi, capi, rfl, _, _, _⟩ := HC0
      have hidx : 0 ≤ (k : Int) ∧ (k : Int) < (l.length : Int) := ⟨by omega, by omega⟩
      have hn255 : f.n ≤ 255 := HFO.out.n
      obtain ⟨hp1, hp2⟩ := HFO.out.p
      obtain ⟨hr1, hr2⟩ := HFO.out.r
      clear A hf hv2 hv3 hg9
      go_upto_region 5 with fail
      obtain ⟨Wf, hWf⟩ : ∃ Wf, Wf = W0.alloc (.cells #[.int .i8 f.p, .int .i8 f.r, .slice adh f.h.length caph, .int .u8 (f.n : Int), .slice adi f.cd.length capi, .bool f.e] 28) := ⟨_, rfl⟩
      have HBWf : Hid (Below W0.heap.size W0 Wf) := by refine Lib.hid ?_; rw [hWf]; exact bl0 _ _
      have HFB : Hid (Wf.heap[W0.heap.size]? = some (.cells #[.int .i8 f.p, .int .i8 f.r, .slice adh f.h.length caph, .int .u8 (f.n : Int), .slice adi f.cd.length capi, .bool f.e] 28 (0, 0))) := by refine Lib.hid ?_; rw [hWf]; exact heap_alloc_new _ _
      have hzf : W0.heap.size < Wf.heap.size := lt_of_block HFB.out
      first | rw [← hWf] | skip
      clear hWf c0 c1 c2 c3 c4 c5
      obtain ⟨i0, hi0, hz0, hz1, hz2⟩ := info_parts infoVal
      have hmk : ∀ W : World, (Instr.makeSlice 44 (.int .u8 ((f.n : Int) % 4)) (.int .u8 ((f.n : Int) % 4))).run Tryz.prog W = .ok (.slice (some ⟨W.heap.size, 0, none⟩) (f.n % 4) (f.n % 4)) (W.alloc (.cells (madeCells (#[.int .u8 0, .int .i64 0, .string ⟨#[]⟩] : Array Value) ((f.n % 4) * 3)) 208)) := fun W => by
        have h := run_make (P := Tryz.prog) W 44 208 i0 _ Tryz.underlying44 hi0 hz0 .u8 .u8 ((f.n : Int) % 4) ((f.n : Int) % 4) (by omega) (Int.le_refl _) (by rw [hz2]; omega) (by omega)
        rw [hz1, show ((f.n : Int) % 4).toNat = f.n % 4 from by omega] at h
        exact h
      clear hi0 hz0 hz1 hz2
      have d0 : Wf.cell? ⟨W0.heap.size, 0, none⟩ = some (.int .i8 f.p) := by simp [World.cell?, HFB.out]
      have d1 : Wf.cell? ⟨W0.heap.size, 1, none⟩ = some (.int .i8 f.r) := by simp [World.cell?, HFB.out]
      have d3 : Wf.cell? ⟨W0.heap.size, 3, none⟩ = some (.int .u8 (f.n : Int)) := by simp [World.cell?, HFB.out]
      go_cut [6] (fun s6 wc => ∃ xb, s6 = .pointer (some ⟨xb, 0, none⟩) ∧ Hid (XB Wf f xb wc (.slice none 0 0) (.slice none 0 0)) ∧ Hid (Below Wf.heap.size Wf wc))
      case first =>
        go_region
        · go_wp2_with fail
          go_meet
          exact ⟨_, rfl, xb_a, (bl2 _ _ _).drew⟩
        · go_wp2_with fail
          go_meet
          exact ⟨_, rfl, xb_b, (bl2 _ _ _).drew⟩
      case rest =>
        obtain ⟨xb, rfl, HXB, HBX⟩ := hcut
        have hfc := (HBX.out.block _ hzf).trans HFB.out
        have d2 : wc.cell? ⟨W0.heap.size, 2, none⟩ = some (.slice adh f.h.length caph) := by simp [World.cell?, hfc]
        clear hfc hmk
        go_wp2_with fail
        go_loopw [31] (fun i wr => ∃ (j : Nat) (vh : Value), i = .int .i64 (j : Int) ∧ j ≤ f.h.length ∧ Hid (Below Wf.heap.size Wf wr) ∧ Hid (XB Wf f xb wr vh (.slice none 0 0)) ∧ Hid (wr.ownsRow Wf.heap.size 3 1 vh (f.h.take j).length (zrow (f.h.take j))))
          (fun i _ => f.h.length - (Go.RowKit.intOf i).toNat)
        case atStart => exact ⟨0, _, rfl, Nat.zero_le _, HBX.out, HXB.out, World.ownsRow_nil _ _ _ _⟩
        case round =>
          obtain ⟨j, vh, rfl, hj, HBj, HXj, HZj⟩ := hrel
          obtain ⟨W2, hW2⟩ : ∃ W2, W2 = wr := ⟨_, rfl⟩
          subst hW2
          have HBj0 : Hid (Below W0.heap.size W0 W2) := HBWf.out.trans (HBj.out.mono HBWf.out.size)
          by_cases hlt2 : j < f.h.length
          · obtain ⟨n, hn⟩ : ∃ n, f.h[j]? = some n := ⟨_, List.getElem?_eq_getElem hlt2⟩
            obtain ⟨hn1, hn2⟩ := HFO.out.h n (List.mem_of_getElem? hn)
            have HNN : Hid (f.h.take (j + 1) = f.h.take j ++ [n]) := by refine Lib.hid ?_; rw [List.take_add_one, hn]; rfl
            obtain ⟨ad8, cap8, hv8, _, _, hg8⟩ := HHS.out.up HBj0.out
            injection hv8 with hv1 hv2 hv3
            subst hv1
            obtain ⟨gh, oh, rfl, ghl, Ah⟩ := hg8 (by omega)
            have hq := Ah j n hn
            have hidx2 : 0 ≤ (j : Int) ∧ (j : Int) < (f.h.length : Int) := ⟨by omega, by omega⟩
            obtain ⟨hxb1, ca, hxb2⟩ := HXj.out
            have x1 : W2.cell? ⟨xb, 1, none⟩ = some vh := by simp [World.cell?, hxb2]
            have hfl : Wf.heap.size ≤ W2.heap.size := HBj.out.size
            have htl : (f.h.take j).length ≤ 1000 := by simp; omega
            clear Ah hn hv2 hv3 hg8 hxb2
            go_wp2_with (at_builtin; refine wpList_app_z rfl (.tmp 36) (.tmp 39) rfl Wf.heap.size vh (f.h.take j) rfl (World.ownsRow.alloc HZj.out _) n rfl (heap_alloc_new _ _) htl (by simp; omega) ?_)
            intro v2 w6 h1 h2
            replace h1 : w6.ownsRow Wf.heap.size 3 1 v2 (f.h.take (j + 1)).length (zrow (f.h.take (j + 1))) := by rw [HNN.out]; simpa [Nat.min_eq_left (Nat.le_of_lt hlt2)] using h1
            have hoa := World.ownsRow.alloc HZj.out (Obj.cells #[.int .i64 n] 3)
            have hx6 := (HXj.out.below (bl0 _ (Obj.cells #[.int .i64 n] 3))).grown hoa (by decide) h2
            have hB6 : Below Wf.heap.size Wf w6 := below_grown (HBj.out.alloc HBj.out.size (Obj.cells #[.int .i64 n] 3)) hoa (Nat.le_refl _) h2
            obtain ⟨y2, l2, z2, rfl⟩ : ∃ y2 l2 z2, v2 = .slice y2 l2 z2 := by
              obtain ⟨ad, cap, e, _⟩ := rown_shape h1
              exact ⟨_, _, _, e⟩
            have HX7 := Lib.hid (hx6.set1 (.slice y2 l2 z2))
            have HB7 : Hid (Below Wf.heap.size Wf (w6.setCell ⟨xb, 1, none⟩ (.slice y2 l2 z2))) := hB6.setCell hxb1 _
            obtain ⟨_, ca6, hxb6⟩ := hx6
            have HZ7 := Lib.hid (rown_set (i := 1) h1 hxb6 (by decide) (.slice y2 l2 z2))
            have hc6 : w6.cell? ⟨xb, 1, none⟩ = some vh := by simp [World.cell?, hxb6]
            have hz6 : w6.frozen? ⟨xb, 1, none⟩ = false := frozen_of_row _ _ _ _ _ hxb6
            clear h1 h2 hoa hB6 hxb6 x1 hq
            go_wp2_with fail
            go_roundw
            case rel => exact ⟨j + 1, _, by go_num, by omega, HB7.out, HX7.out, HZ7.out⟩
            case measure => simp [Go.RowKit.intOf]; omega
          · obtain rfl : j = f.h.length := by omega
            rw [List.take_length] at HZj
            have hfc := (HBj.out.block _ hzf).trans HFB.out
            have d4 : W2.cell? ⟨W0.heap.size, 4, none⟩ = some (.slice adi f.cd.length capi) := by simp [World.cell?, hfc]
            clear hfc d2
            go_wp2_with fail
            go_loopw [46] (fun i wr => ∃ (j : Nat) (vc : Value), i = .int .i64 (j : Int) ∧ j ≤ f.cd.length ∧ Hid (Below Wf.heap.size Wf wr) ∧ Hid (XB Wf f xb wr vh vc) ∧ Hid (wr.ownsRow Wf.heap.size 3 1 vh f.h.length (zrow f.h)) ∧ Hid (wr.ownsRow Wf.heap.size 51 4 vc ((f.cd.take j).map mkC).length (icells ((f.cd.take j).map mkC))))
              (fun i _ => f.cd.length - (Go.RowKit.intOf i).toNat)
            case atStart => exact ⟨0, _, rfl, Nat.zero_le _, HBj.out, HXj.out, HZj.out, World.ownsRow_nil _ _ _ _⟩
            case round =>
              obtain ⟨j, vc, rfl, hj3, HBi, HXi, HZi, HIi⟩ := hrel
              obtain ⟨W3, hW3⟩ : ∃ W3, W3 = wr := ⟨_, rfl⟩
              subst hW3
              have HBi0 : Hid (Below W0.heap.size W0 W3) := HBWf.out.trans (HBi.out.mono HBWf.out.size)
              by_cases hlt3 : j < f.cd.length
              · obtain ⟨c, hc⟩ : ∃ c, f.cd[j]? = some c := ⟨_, List.getElem?_eq_getElem hlt3⟩
                obtain ⟨hop, ⟨ha1, ha2⟩, ⟨hb1, hb2⟩, ⟨hc1', hc2'⟩⟩ := HFO.out.cd c (List.mem_of_getElem? hc)
                have HNN : Hid ((f.cd.take (j + 1)).map mkC = (f.cd.take j).map mkC ++ [mkC c]) := by refine Lib.hid ?_; rw [List.take_add_one, hc, List.map_append]; rfl
                obtain ⟨ad8, cap8, hv8, _, _, hg8⟩ := HCS.out.up HBi0.out
                injection hv8 with hv1 hv2 hv3
                subst hv1
                obtain ⟨gi, oi, rfl, gil, Ai⟩ := hg8 (by omega)
                obtain ⟨k0, k1, k2, k3⟩ := Ai j c hc
                have hidx2 : 0 ≤ (j : Int) ∧ (j : Int) < (f.cd.length : Int) := ⟨by omega, by omega⟩
                obtain ⟨hxb1, ca, hxb2⟩ := HXi.out
                have hxl := lt_of_block hxb2
                have x4 : ∀ o, (W3.alloc o).cell? ⟨xb, 4, none⟩ = some vc := fun o => (vcell (Below.heap_alloc _ _ _ hxl)).trans (by simp [World.cell?, hxb2])
                have hfl : Wf.heap.size ≤ W3.heap.size := HBi.out.size
                have htl : ((f.cd.take j).map mkC).length ≤ 1000 := by simp; omega
                clear Ai hc hv2 hv3 hg8 hxb2
                go_wp2_with (at_builtin; refine wpList_app_i rfl (.tmp 51) (.tmp 65) rfl Wf.heap.size vc ((f.cd.take j).map mkC) rfl (World.ownsRow.alloc (World.ownsRow.alloc HIi.out _) _) (mkC c) rfl (heap2 _ _ _) (by simp [icell, mkC]) htl (by simp; omega) ?_)
                intro v2 w6 h1 h2
                replace h1 : w6.ownsRow Wf.heap.size 51 4 v2 ((f.cd.take (j + 1)).map mkC).length (icells ((f.cd.take (j + 1)).map mkC)) := by rw [HNN.out]; simpa [Nat.min_eq_left (Nat.le_of_lt hlt3)] using h1
                obtain ⟨OC, hOC⟩ : ∃ OC, OC = Obj.cells #[.int .u8 (c.op : Int), .int .i8 c.a, .int .i8 c.b, .int .i8 c.c] 86 := ⟨_, rfl⟩
                obtain ⟨OI, hOI⟩ : ∃ OI, OI = Obj.cells #[.int .u8 ((c.op : Int) % 24), .int .i64 c.a, .int .i64 c.b, .int .i64 c.c] 51 := ⟨_, rfl⟩
                first | rw [← hOC, ← hOI] at h2 | skip
                have hoa := World.ownsRow.alloc (World.ownsRow.alloc HIi.out OC) OI
                have hza := World.ownsRow.alloc (World.ownsRow.alloc HZi.out OC) OI
                have hx6 := (HXi.out.below (bl2 _ OC OI)).grown hoa (by decide) h2
                have hz6' := rown_grown hza hoa (by decide) h2
                have hB6 : Below Wf.heap.size Wf w6 := below_grown ((HBi.out.alloc HBi.out.size OC).alloc (by simp; omega) OI) hoa (Nat.le_refl _) h2
                obtain ⟨y2, l2, z2, rfl⟩ : ∃ y2 l2 z2, v2 = .slice y2 l2 z2 := by
                  obtain ⟨ad, cap, e, _⟩ := rown_shape h1
                  exact ⟨_, _, _, e⟩
                have HX7 := Lib.hid (hx6.set4 (.slice y2 l2 z2))
                have HB7 : Hid (Below Wf.heap.size Wf (w6.setCell ⟨xb, 4, none⟩ (.slice y2 l2 z2))) := hB6.setCell hxb1 _
                obtain ⟨_, ca6, hxb6⟩ := hx6
                have HI7 := Lib.hid (rown_set (i := 4) h1 hxb6 (by decide) (.slice y2 l2 z2))
                have HZ7 := Lib.hid (rown_set (i := 4) hz6' hxb6 (by decide) (.slice y2 l2 z2))
                have hc6 : w6.cell? ⟨xb, 4, none⟩ = some vc := by simp [World.cell?, hxb6]
                have hz6 : w6.frozen? ⟨xb, 4, none⟩ = false := frozen_of_row _ _ _ _ _ hxb6
                clear h1 h2 hoa hza hz6' hB6 hxb6 x4 k0 k1 k2 k3 hOC hOI
                go_wp2_with fail
                go_roundw
                case rel => exact ⟨j + 1, _, by go_num, by omega, HB7.out, HX7.out, HZ7.out, HI7.out⟩
                case measure => simp [Go.RowKit.intOf]; omega
              · obtain rfl : j = f.cd.length := by omega
                rw [List.take_length] at HIi
                have hfc := (HBi.out.block _ hzf).trans HFB.out
                have d5 : W3.cell? ⟨W0.heap.size, 5, none⟩ = some (.bool f.e) := by simp [World.cell?, hfc]
                clear hfc d4
                cases hfe : f.e
                · have HXt := HXi
                  have HBt := HBi
                  have HZt := HZi
                  have HIt : Hid (W3.ownsRow Wf.heap.size 51 4 vc (mkF f).cd.length (icells (mkF f).cd)) := by
                    have h := HIi.out
                    rw [show (mkF f).cd = f.cd.map mkC from by simp [mkF, hfe]]
                    exact h
                  rw [hfe] at d5
                  clear hfe
                  obtain ⟨Wt, hWt⟩ : ∃ Wt, Wt = W3 := ⟨_, rfl⟩
                  subst hWt
                  clear HXi HBi HZi HIi
                  have HBW0 : Hid (Below W0.heap.size W0 Wt) := HBWf.out.trans (HBt.out.mono HBWf.out.size)
                  obtain ⟨adh2, caph2, rfl, hnh2⟩ := rown_shape HZt.out
                  obtain ⟨adi2, capi2, rfl, hni2⟩ := rown_shape HIt.out
                  obtain ⟨hxb1, ca, hxb2⟩ := HXt.out
                  have HXB2 := Lib.hid hxb2
                  obtain ⟨q, hq⟩ : ∃ q : QF, q = ⟨mkF f, adh2, caph2, ca, f.n % 4, adi2, capi2⟩ := ⟨_, rfl⟩
                  have hqc : q.cells.toArray = #[.int .i64 f.p, .slice adh2 f.h.length caph2, .int .i64 f.r, .slice ca (f.n % 4) (f.n % 4), .slice adi2 (mkF f).cd.length capi2] := by rw [hq]; rfl
                  have HQf : Hid (q.f = mkF f) := by refine Lib.hid ?_; rw [hq]
                  have HQQ : Hid (QOk Wt q) := by
                    refine Lib.hid ?_
                    rw [hq]
                    exact ⟨⟨row_zsl HZt.out, ⟨_, _, rfl⟩, row_iss HIt.out, hnh2⟩, rown_ty HZt.out, rown_ty HIt.out⟩
                  have HQC := Lib.hid hqc
                  have hml0 := lt_of_block HMk.out
                  have hrl0 := lt_of_block HRk.out
                  have hmt := (HBW0.out.block _ hml0).trans HMk.out
                  have HMT := Lib.hid hmt
                  have HRT : Hid (Wt.heap[w.heap.size]? = _) := Lib.hid ((HBW0.out.block _ hrl0).trans HRk.out)
                  have HOT := Lib.hid (rown_below HOk.out HBW0.out)
                  have HQT : Hid (∀ q ∈ qs, QOk Wt q) := fun q hq => (HQk.out q hq).below HBW0.out
                  have x0 : Wt.cell? ⟨xb, 0, none⟩ = some (.int .i64 f.p) := by simp [World.cell?, hxb2]
                  have x1 : Wt.cell? ⟨xb, 1, none⟩ = some (.slice adh2 f.h.length caph2) := by simp [World.cell?, hxb2]
                  have x2 : Wt.cell? ⟨xb, 2, none⟩ = some (.int .i64 f.r) := by simp [World.cell?, hxb2]
                  have x3 : Wt.cell? ⟨xb, 3, none⟩ = some (.slice ca (f.n % 4) (f.n % 4)) := by simp [World.cell?, hxb2]
                  have x4 : Wt.cell? ⟨xb, 4, none⟩ = some (.slice adi2 (mkF f).cd.length capi2) := by simp [World.cell?, hxb2]
                  have m0 : Wt.cell? ⟨w.heap.size + 1, 0, none⟩ = some vm := by simp [World.cell?, hmt]
                  have hqn : qs.length ≤ 1000 := by
                    have h := congrArg List.length HEk.out
                    simp at h
                    omega
                  have HSC : Hid (Below w.heap.size w Wt) := HBk.out.trans (HBW0.out.mono HBk.out.size)
                  have hwt : w.heap.size + 2 ≤ Wt.heap.size := by have := lt_of_block hmt; omega
                  clear hxb2 hmt hq hqc hnh2 hni2
                  go_wp2_with (at_builtin; refine wpList_app_fn rfl (.tmp 78) (.tmp 80) rfl (w.heap.size + 2) vm qs rfl (World.ownsRow.alloc HOT.out _) q rfl (by rw [HQC.out]; exact heap_alloc_new _ _) hqn (by simp; omega) ?_)
                  intro v2 w6 h1 h2 h3
                  replace h1 : w6.ownsRow (w.heap.size + 2) 47 5 v2 (qs ++ [q]).length (qcells (qs ++ [q])) := by simpa using h1
                  obtain ⟨ON, hON⟩ : ∃ ON, ON = Obj.cells #[.int .i64 f.p, .slice adh2 f.h.length caph2, .int .i64 f.r, .slice ca (f.n % 4) (f.n % 4), .slice adi2 (mkF f).cd.length capi2] 47 := ⟨_, rfl⟩
                  have hoa := World.ownsRow.alloc HOT.out ON
                  rw [← hON] at h2
                  have hml := lt_of_block HMT.out
                  have hrl := lt_of_block HRT.out
                  have hma : (Wt.alloc ON).heap[w.heap.size + 1]? = _ := (Below.heap_alloc _ _ _ hml).trans HMT.out
                  have hm6 : w6.heap[w.heap.size + 1]? = _ := (h2.block _ (by simp; omega) (fun e => own_ne' hoa hma (by decide) e.symm)).trans hma
                  have hr6 : w6.heap[w.heap.size]? = _ := (h2.block _ (by simp; omega) (fun e => own_ne' hoa ((Below.heap_alloc _ _ _ hrl).trans HRT.out) (by decide) e.symm)).trans ((Below.heap_alloc _ _ _ hrl).trans HRT.out)
                  have hqa : ∀ p ∈ qs ++ [q], QOk w6 p := fun p hp => by
                    rcases List.mem_append.1 hp with hp | hp
                    · exact ((HQT.out p hp).below (bl0 _ ON)).grown hoa h2
                    · rw [List.mem_singleton.1 hp]
                      exact (HQQ.out.below (bl0 _ ON)).grown hoa h2
                  have hB6 : Below w.heap.size w w6 := (HSC.out.alloc HSC.out.size ON).grown h2 (by have := HSC.out.size; simp; omega) (fun k e => by have := (World.ownsRow.lt hoa _ e).1; omega)
                  obtain ⟨y2, l2, z2, rfl⟩ : ∃ y2 l2 z2, v2 = .slice y2 l2 z2 := by
                    obtain ⟨ad, cap, e, _⟩ := rown_shape h1
                    exact ⟨_, _, _, e⟩
                  have HB7 : Hid (Below w.heap.size w (w6.setCell ⟨w.heap.size + 1, 0, none⟩ (.slice y2 l2 z2))) := hB6.setCell (by simp) _
                  have HQ7 : Hid (∀ p ∈ qs ++ [q], QOk (w6.setCell ⟨w.heap.size + 1, 0, none⟩ (.slice y2 l2 z2)) p) := fun p hp => (hqa p hp).set hm6 (by decide) (by decide) _
                  have HR7 : Hid ((w6.setCell ⟨w.heap.size + 1, 0, none⟩ (.slice y2 l2 z2)).heap[w.heap.size]? = _) := Lib.hid ((Below.heap_setCell _ _ _ _ (by simp)).trans hr6)
                  have HM7 : Hid ((w6.setCell ⟨w.heap.size + 1, 0, none⟩ (.slice y2 l2 z2)).heap[w.heap.size + 1]? = some (.cells #[.slice y2 l2 z2] 31 (0, 0))) := Lib.hid (heap_setCell_same _ _ _ _ _ _ hm6)
                  have HO7 := Lib.hid (own_set (i := 0) h1 hm6 (by decide) (.slice y2 l2 z2))
                  have HE7 : Hid ((qs ++ [q]).map (·.f) = (l.take (k + 1)).map mkF) := by
                    refine Lib.hid ?_
                    rw [List.take_add_one, HFK.out, List.map_append, List.map_append, HEk.out]
                    simp [HQf.out]
                  have hc6 : w6.cell? ⟨w.heap.size + 1, 0, none⟩ = some vm := by simp [World.cell?, hm6]
                  have hz6 : w6.frozen? ⟨w.heap.size + 1, 0, none⟩ = false := frozen_of_row _ _ _ _ _ hm6
                  clear h1 h2 h3 hoa hma hm6 hr6 hqa hB6 x0 x1 x2 x3 x4 m0 hON
                  go_wp2_with fail
                  go_roundw
                  case rel => exact ⟨k + 1, qs ++ [q], _, by go_num, by omega, HB7.out, HR7.out, HM7.out, HO7.out, HQ7.out, HE7.out⟩
                  case measure => simp [Go.RowKit.intOf]; omega
                · rw [hfe] at d5
                  obtain ⟨hxb1, ca, hxb2⟩ := HXi.out
                  have x4 : W3.cell? ⟨xb, 4, none⟩ = some vc := by simp [World.cell?, hxb2]
                  have hfl : Wf.heap.size ≤ W3.heap.size := HBi.out.size
                  have htl : (f.cd.map mkC).length ≤ 1000 := by simp; omega
                  have HCD : Hid ((mkF f).cd = f.cd.map mkC ++ [⟨18, 0, 0, 0⟩]) := by refine Lib.hid ?_; simp [mkF, hfe]
                  clear hxb2 hfe
                  go_wp2_with (at_builtin; refine wpList_app_i rfl (.tmp 72) (.tmp 74) rfl Wf.heap.size vc (f.cd.map mkC) rfl (World.ownsRow.alloc HIi.out _) ⟨18, 0, 0, 0⟩ rfl (heap_alloc_new _ _) rfl htl (by simp; omega) ?_)
                  intro v2 w6 h1 h2
                  replace h1 : w6.ownsRow Wf.heap.size 51 4 v2 (mkF f).cd.length (icells (mkF f).cd) := by rw [HCD.out]; simpa using h1
                  obtain ⟨OI, hOI⟩ : ∃ OI, OI = Obj.cells #[.int .u8 18, .int .i64 0, .int .i64 0, .int .i64 0] 51 := ⟨_, rfl⟩
                  first | rw [← hOI] at h2 | skip
                  have hoa := World.ownsRow.alloc HIi.out OI
                  have hza := World.ownsRow.alloc HZi.out OI
                  have hx6 := (HXi.out.below (bl0 _ OI)).grown hoa (by decide) h2
                  have hz6' := rown_grown hza hoa (by decide) h2
                  have hB6 : Below Wf.heap.size Wf w6 := below_grown (HBi.out.alloc HBi.out.size OI) hoa (Nat.le_refl _) h2
                  obtain ⟨y2, l2, z2, rfl⟩ : ∃ y2 l2 z2, v2 = .slice y2 l2 z2 := by
                    obtain ⟨ad, cap, e, _⟩ := rown_shape h1
                    exact ⟨_, _, _, e⟩
                  have HX7 := Lib.hid (hx6.set4 (.slice y2 l2 z2))
                  have HB7 : Hid (Below Wf.heap.size Wf (w6.setCell ⟨xb, 4, none⟩ (.slice y2 l2 z2))) := hB6.setCell hxb1 _
                  obtain ⟨_, ca6, hxb6⟩ := hx6
                  have HI7 := Lib.hid (rown_set (i := 4) h1 hxb6 (by decide) (.slice y2 l2 z2))
                  have HZ7 := Lib.hid (rown_set (i := 4) hz6' hxb6 (by decide) (.slice y2 l2 z2))
                  have hc6 : w6.cell? ⟨xb, 4, none⟩ = some vc := by simp [World.cell?, hxb6]
                  have hz6 : w6.frozen? ⟨xb, 4, none⟩ = false := frozen_of_row _ _ _ _ _ hxb6
                  obtain ⟨Wt, hWt⟩ : ∃ Wt, Wt = w6.setCell ⟨xb, 4, none⟩ (.slice y2 l2 z2) := ⟨_, rfl⟩
                  have HXt : Hid (XB Wf f xb Wt vh (.slice y2 l2 z2)) := by rw [hWt]; exact HX7
                  have HBt : Hid (Below Wf.heap.size Wf Wt) := by rw [hWt]; exact HB7
                  have HZt : Hid (Wt.ownsRow Wf.heap.size 3 1 vh f.h.length (zrow f.h)) := by rw [hWt]; exact HZ7
                  have HIt : Hid (Wt.ownsRow Wf.heap.size 51 4 (.slice y2 l2 z2) (mkF f).cd.length (icells (mkF f).cd)) := by rw [hWt]; exact HI7
                  clear h1 h2 hoa hza hz6' hB6 hxb6 x4 hOI HX7 HB7 HZ7 HI7 HXi HBi HZi HIi hxb1
                  go_upto_region 18 with fail
                  first | rw [← hWt] | skip
                  clear hWt hc6 hz6
                  generalize (Value.slice y2 l2 z2) = vc9 at HXt HIt ⊢
                  have HBW0 : Hid (Below W0.heap.size W0 Wt) := HBWf.out.trans (HBt.out.mono HBWf.out.size)
                  obtain ⟨adh2, caph2, rfl, hnh2⟩ := rown_shape HZt.out
                  obtain ⟨adi2, capi2, rfl, hni2⟩ := rown_shape HIt.out
                  obtain ⟨hxb1, ca, hxb2⟩ := HXt.out
                  have HXB2 := Lib.hid hxb2
                  obtain ⟨q, hq⟩ : ∃ q : QF, q = ⟨mkF f, adh2, caph2, ca, f.n % 4, adi2, capi2⟩ := ⟨_, rfl⟩
                  have hqc : q.cells.toArray = #[.int .i64 f.p, .slice adh2 f.h.length caph2, .int .i64 f.r, .slice ca (f.n % 4) (f.n % 4), .slice adi2 (mkF f).cd.length capi2] := by rw [hq]; rfl
                  have HQf : Hid (q.f = mkF f) := by refine Lib.hid ?_; rw [hq]
                  have HQQ : Hid (QOk Wt q) := by
                    refine Lib.hid ?_
                    rw [hq]
                    exact ⟨⟨row_zsl HZt.out, ⟨_, _, rfl⟩, row_iss HIt.out, hnh2⟩, rown_ty HZt.out, rown_ty HIt.out⟩
                  have HQC := Lib.hid hqc
                  have hml0 := lt_of_block HMk.out
                  have hrl0 := lt_of_block HRk.out
                  have hmt := (HBW0.out.block _ hml0).trans HMk.out
                  have HMT := Lib.hid hmt
                  have HRT : Hid (Wt.heap[w.heap.size]? = _) := Lib.hid ((HBW0.out.block _ hrl0).trans HRk.out)
                  have HOT := Lib.hid (rown_below HOk.out HBW0.out)
                  have HQT : Hid (∀ q ∈ qs, QOk Wt q) := fun q hq => (HQk.out q hq).below HBW0.out
                  have x0 : Wt.cell? ⟨xb, 0, none⟩ = some (.int .i64 f.p) := by simp [World.cell?, hxb2]
                  have x1 : Wt.cell? ⟨xb, 1, none⟩ = some (.slice adh2 f.h.length caph2) := by simp [World.cell?, hxb2]
                  have x2 : Wt.cell? ⟨xb, 2, none⟩ = some (.int .i64 f.r) := by simp [World.cell?, hxb2]
                  have x3 : Wt.cell? ⟨xb, 3, none⟩ = some (.slice ca (f.n % 4) (f.n % 4)) := by simp [World.cell?, hxb2]
                  have x4 : Wt.cell? ⟨xb, 4, none⟩ = some (.slice adi2 (mkF f).cd.length capi2) := by simp [World.cell?, hxb2]
                  have m0 : Wt.cell? ⟨w.heap.size + 1, 0, none⟩ = some vm := by simp [World.cell?, hmt]
                  have hqn : qs.length ≤ 1000 := by
                    have h := congrArg List.length HEk.out
                    simp at h
                    omega
                  have HSC : Hid (Below w.heap.size w Wt) := HBk.out.trans (HBW0.out.mono HBk.out.size)
                  have hwt : w.heap.size + 2 ≤ Wt.heap.size := by have := lt_of_block hmt; omega
                  clear hxb2 hmt hq hqc hnh2 hni2
                  go_wp2_with (at_builtin; refine wpList_app_fn rfl (.tmp 78) (.tmp 80) rfl (w.heap.size + 2) vm qs rfl (World.ownsRow.alloc HOT.out _) q rfl (by rw [HQC.out]; exact heap_alloc_new _ _) hqn (by simp; omega) ?_)
                  intro v2 w6 h1 h2 h3
                  replace h1 : w6.ownsRow (w.heap.size + 2) 47 5 v2 (qs ++ [q]).length (qcells (qs ++ [q])) := by simpa using h1
                  obtain ⟨ON, hON⟩ : ∃ ON, ON = Obj.cells #[.int .i64 f.p, .slice adh2 f.h.length caph2, .int .i64 f.r, .slice ca (f.n % 4) (f.n % 4), .slice adi2 (mkF f).cd.length capi2] 47 := ⟨_, rfl⟩
                  have hoa := World.ownsRow.alloc HOT.out ON
                  rw [← hON] at h2
                  have hml := lt_of_block HMT.out
                  have hrl := lt_of_block HRT.out
                  have hma : (Wt.alloc ON).heap[w.heap.size + 1]? = _ := (Below.heap_alloc _ _ _ hml).trans HMT.out
                  have hm6 : w6.heap[w.heap.size + 1]? = _ := (h2.block _ (by simp; omega) (fun e => own_ne' hoa hma (by decide) e.symm)).trans hma
                  have hr6 : w6.heap[w.heap.size]? = _ := (h2.block _ (by simp; omega) (fun e => own_ne' hoa ((Below.heap_alloc _ _ _ hrl).trans HRT.out) (by decide) e.symm)).trans ((Below.heap_alloc _ _ _ hrl).trans HRT.out)
                  have hqa : ∀ p ∈ qs ++ [q], QOk w6 p := fun p hp => by
                    rcases List.mem_append.1 hp with hp | hp
                    · exact ((HQT.out p hp).below (bl0 _ ON)).grown hoa h2
                    · rw [List.mem_singleton.1 hp]
                      exact (HQQ.out.below (bl0 _ ON)).grown hoa h2
                  have hB6 : Below w.heap.size w w6 := (HSC.out.alloc HSC.out.size ON).grown h2 (by have := HSC.out.size; simp; omega) (fun k e => by have := (World.ownsRow.lt hoa _ e).1; omega)
                  obtain ⟨y2, l2, z2, rfl⟩ : ∃ y2 l2 z2, v2 = .slice y2 l2 z2 := by
                    obtain ⟨ad, cap, e, _⟩ := rown_shape h1
                    exact ⟨_, _, _, e⟩
                  have HB7 : Hid (Below w.heap.size w (w6.setCell ⟨w.heap.size + 1, 0, none⟩ (.slice y2 l2 z2))) := hB6.setCell (by simp) _
                  have HQ7 : Hid (∀ p ∈ qs ++ [q], QOk (w6.setCell ⟨w.heap.size + 1, 0, none⟩ (.slice y2 l2 z2)) p) := fun p hp => (hqa p hp).set hm6 (by decide) (by decide) _
                  have HR7 : Hid ((w6.setCell ⟨w.heap.size + 1, 0, none⟩ (.slice y2 l2 z2)).heap[w.heap.size]? = _) := Lib.hid ((Below.heap_setCell _ _ _ _ (by simp)).trans hr6)
                  have HM7 : Hid ((w6.setCell ⟨w.heap.size + 1, 0, none⟩ (.slice y2 l2 z2)).heap[w.heap.size + 1]? = some (.cells #[.slice y2 l2 z2] 31 (0, 0))) := Lib.hid (heap_setCell_same _ _ _ _ _ _ hm6)
                  have HO7 := Lib.hid (own_set (i := 0) h1 hm6 (by decide) (.slice y2 l2 z2))
                  have HE7 : Hid ((qs ++ [q]).map (·.f) = (l.take (k + 1)).map mkF) := by
                    refine Lib.hid ?_
                    rw [List.take_add_one, HFK.out, List.map_append, List.map_append, HEk.out]
                    simp [HQf.out]
                  have hc6 : w6.cell? ⟨w.heap.size + 1, 0, none⟩ = some vm := by simp [World.cell?, hm6]
                  have hz6 : w6.frozen? ⟨w.heap.size + 1, 0, none⟩ = false := frozen_of_row _ _ _ _ _ hm6
                  clear h1 h2 h3 hoa hma hm6 hr6 hqa hB6 x0 x1 x2 x3 x4 m0 hON
                  go_wp2_with fail
                  go_roundw
                  case rel => exact ⟨k + 1, qs ++ [q], _, by go_num, by omega, HB7.out, HR7.out, HM7.out, HO7.out, HQ7.out, HE7.out⟩
                  case measure => simp [Go.RowKit.intOf]; omega
    · obtain rfl : k = l.length := by omega
      obtain ⟨y2, z2, rfl, _⟩ := rown_shape HOk.out
      have m0 : W0.cell? ⟨w.heap.size + 1, 0, none⟩ = some (.slice y2 qs.length z2) := by simp [World.cell?, HMk.out]
      have r0 : W0.cell? ⟨w.heap.size, 0, none⟩ = some (.slice none 0 0) := by simp [World.cell?, HRk.out]
      have hz0 : W0.frozen? ⟨w.heap.size, 0, none⟩ = false := frozen_of_row _ _ _ _ _ HRk.out
      obtain ⟨W7, hW7⟩ : ∃ W7, W7 = W0.setCell ⟨w.heap.size, 0, none⟩ (.slice y2 qs.length z2) := ⟨_, rfl⟩
      have HB7 : Hid (Below w.heap.size w W7) := by rw [hW7]; exact HBk.out.setCell (by simp) _
      have HF7 : Hid (FSl W7 (.slice y2 qs.length z2) (l.map mkF)) := by
        have h := row_fsl (w := W7) (by rw [hW7]; exact own_set HOk.out HRk.out (by decide) _) (fun q hq => by rw [hW7]; exact (HQk.out q hq).set HRk.out (by decide) (by decide) _)
        rw [HEk.out, List.take_length] at h
        exact h
      have c7 : W7.cell? ⟨w.heap.size, 0, none⟩ = some (.slice y2 qs.length z2) := by
        have h := heap_setCell_same W0 w.heap.size 0 _ _ (.slice y2 qs.length z2) HRk.out
        rw [← hW7] at h
        simp [World.cell?, h]
      go_wp2
      first | rw [← hW7] | skip
      clear hW7 m0 r0 hz0
      refine bodyPost_ret (v := (.agg #[.slice y2 qs.length z2])) (by simp [results, Tryz.results13, c7, go_sem]) rfl ⟨_, rfl, HF7.out, HB7.out⟩
end Go.Proofs.YtpboencfnjmmbaaGreatDoor
