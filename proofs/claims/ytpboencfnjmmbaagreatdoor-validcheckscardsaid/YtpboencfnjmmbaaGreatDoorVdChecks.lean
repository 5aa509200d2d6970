/-
  The law ValidChecks.
  Conditions: the listed variables as they are laid.
-/
import Derived.Test.YtpboencfnjmmbaaGreatDoorVdMake
import Derived.Test.YtpboencfnjmmbaaGreatDoorExAw11
namespace Go.Proofs.YtpboencfnjmmbaaGreatDoor
open Go.RowKit
set_option linter.unusedVariables false
set_option linter.unusedSimpArgs false
theorem mkF_ok {f : LF} (h : f.ok) (hs : f.h.length ≤ 10) : (mkF f).ok ∧ (mkF f).p + ((mkF f).h.length : Int) ≤ 9223372036854775807 := by
  obtain ⟨p1, p2⟩ := h.p
  obtain ⟨r1, r2⟩ := h.r
  refine ⟨⟨⟨by show _ ≤ f.p; omega, by show f.p ≤ _; omega⟩, ⟨by show _ ≤ f.r; omega, by show f.r ≤ _; omega⟩, fun n hn => ?_, by show f.n % 4 ≤ maxLen; unfold maxLen; omega, by show f.h.length ≤ 1000000; omega, fun x hx => ?_⟩, by show f.p + (f.h.length : Int) ≤ _; omega⟩
  · obtain ⟨n1, n2⟩ := h.h n hn
    exact ⟨by omega, by omega⟩
  · rcases List.mem_append.1 hx with hx | hx
    · obtain ⟨c, hc, rfl⟩ := List.mem_map.1 hx
      obtain ⟨_, ⟨a1, a2⟩, ⟨b1, b2⟩, ⟨c1, c2⟩⟩ := h.cd c hc
      exact ⟨by show c.op % 24 < 256; omega, ⟨by show _ ≤ c.a; omega, by show c.a ≤ _; omega⟩, ⟨by show _ ≤ c.b; omega, by show c.b ≤ _; omega⟩, ⟨by show _ ≤ c.c; omega, by show c.c ≤ _; omega⟩⟩
    · cases hfe : f.e
      · rw [hfe] at hx; cases hx
      · rw [hfe] at hx
        simp at hx
        subst hx
        exact ⟨by decide, by unfold Z64; simp, by unfold Z64; simp, by unfold Z64; simp⟩
set_option maxRecDepth 100000 in
set_option maxHeartbeats 4000000 in
theorem validChecks_any {l : List LF} {v : Value} {w : World} (hL : LFS w v l) (hok : ∀ f ∈ l, f.ok) (hw : Go.Ex.Held gs0 w) :
    Calls Tryz.prog 3 #[v] w fun e w' => e = .returned (.bool true) ∧ Below w.heap.size w w' := by
  have HL := Lib.hid hL
  have HOK := Lib.hid hok
  have HW := Lib.hid hw
  obtain ⟨ad, cap, rfl, hc1, hx1, _⟩ := hL
  unfold maxLen at hx1
  clear hok hw
  go_enter Tryz.func3, Tryz.ntmps3
  go_wp2_with fail
  refine (awakeX11 _ HW.out).mono ?_
  rintro e w1 ⟨rfl, hb1⟩
  have HB1 := Lib.hid hb1
  have HL1 := Lib.hid (HL.out.up hb1)
  clear hb1 HW
  by_cases h8 : 8 < l.length
  · have h8i : (8 : Int) < (l.length : Int) := by omega
    go_wp2
    go_ret
    exact ⟨rfl, HB1.out⟩
  have h8i : ¬ ((8 : Int) < (l.length : Int)) := by omega
  go_wp2_with fail
  go_loopw [19] (fun i wr => ∃ k : Nat, i = .int .i64 (k : Int) ∧ k ≤ l.length ∧ Hid (Below w1.heap.size w1 wr) ∧ Hid (∀ f ∈ l.take k, f.cd.length ≤ 40 ∧ f.h.length ≤ 10))
    (fun i _ => l.length - (Go.RowKit.intOf i).toNat)
  case atStart => exact ⟨0, rfl, Nat.zero_le _, Below.refl _ _, fun f hf => (by cases hf)⟩
  case round =>
    obtain ⟨k, rfl, hk, HBk, HSk⟩ := hrel
    obtain ⟨W0, hW0⟩ : ∃ W0, W0 = wr := ⟨_, rfl⟩
    subst hW0
    by_cases hlt : k < l.length
    · obtain ⟨f, hf⟩ : ∃ f, l[k]? = some f := ⟨_, List.getElem?_eq_getElem hlt⟩
      have HFK : Hid (l[k]? = some f) := hf
      obtain ⟨ad9, cap9, hv9, _, _, hg9⟩ := HL1.out.up HBk.out
      injection hv9 with hv1 hv2 hv3
      subst hv1
      obtain ⟨g, o, rfl, gl, A⟩ := hg9 (by omega)
      obtain ⟨hv, iv, HH0, HC0, c0, c1, c2, c3, c4, c5⟩ := A k f hf
      obtain ⟨adh, caph, rfl, _, _, _⟩ := HH0
      obtain ⟨adi, capi, rfl, _, _, _⟩ := HC0
      have hidx : 0 ≤ (k : Int) ∧ (k : Int) < (l.length : Int) := ⟨by omega, by omega⟩
      have HBA : Hid (∀ o, Below w1.heap.size w1 (W0.alloc o)) := fun o => HBk.out.alloc HBk.out.size o
      have HBB : Hid (∀ o, Below w.heap.size w (W0.alloc o)) := fun o => HB1.out.trans ((HBA.out o).mono HB1.out.size)
      clear A hf hv2 hv3 hg9
      by_cases h40 : (40 : Int) < (f.cd.length : Int)
      · go_wp2
        go_ret
        exact ⟨rfl, HBB.out _⟩
      by_cases h10 : (10 : Int) < (f.h.length : Int)
      · go_wp2
        go_ret
        exact ⟨rfl, HBB.out _⟩
      have HN : Hid (∀ f ∈ l.take (k + 1), f.cd.length ≤ 40 ∧ f.h.length ≤ 10) := fun g hg => by
        rw [List.take_add_one, HFK.out] at hg
        rcases List.mem_append.1 hg with hg | hg
        · exact HSk.out g hg
        · simp at hg
          subst hg
          exact ⟨by omega, by omega⟩
      go_wp2_with fail
      go_roundw
      case rel => exact ⟨k + 1, by go_num, by omega, HBA.out _, HN.out⟩
      case measure => simp [Go.RowKit.intOf]; omega
    · obtain rfl : k = l.length := by omega
      rw [List.take_length] at HSk
      have HOKF : Hid (∀ (f : VF), f ∈ l.map mkF → f.ok ∧ f.p + (f.h.length : Int) ≤ 9223372036854775807) := fun f hf => by
        obtain ⟨x, hx, rfl⟩ := List.mem_map.1 hf
        exact mkF_ok (HOK.out x hx) (HSk.out x hx).2
      go_wp2_with fail
      refine (make11_any (HL1.out.up HBk.out) HOK.out (by omega) HSk.out).mono ?_
      rintro e w2 ⟨vm, rfl, hfs, hb2⟩
      obtain ⟨fs, hfq⟩ : ∃ fs, fs = l.map mkF := ⟨_, rfl⟩
      rw [← hfq] at hfs HOKF
      have HFS := Lib.hid hfs
      have HB2 : Hid (Below w1.heap.size w1 w2) := HBk.out.trans (hb2.mono HBk.out.size)
      obtain ⟨adm, capm, rfl, _, _, _⟩ := hfs
      clear hfq hb2
      go_wp2_with fail
      have HF3 : Hid (∀ o, FSl (w2.alloc o) (.slice adm fs.length capm) fs) := fun o => HFS.out.up (bl0 _ o)
      refine (check_any (HF3.out _) (fun f hf => (HOKF.out f hf).1)).mono ?_
      rintro e w6 ⟨rfl, hb6⟩
      have hmb := (hb6.block _ (by simp)).trans (heap_alloc_new _ _)
      have m6 : w6.cell? ⟨w2.heap.size, 0, none⟩ = some (.slice adm fs.length capm) := by simp [World.cell?, hmb]
      have HB6 : Hid (Below w1.heap.size w1 w6) := (HB2.out.alloc HB2.out.size _).trans (hb6.mono (HB2.out.alloc HB2.out.size _).size)
      have HF6 : Hid (FSl w6 (.slice adm fs.length capm) fs) := (HF3.out _).up hb6
      obtain ⟨r, hr9⟩ : ∃ r, r = checkP fs := ⟨_, rfl⟩
      rw [← hr9]
      have HR9 := Lib.hid hr9
      unfold tup
      clear hmb hb6 hr9
      go_wp2_with fail
      refine (lawCheck_any HF6.out (fun f hf => (HOKF.out f hf).1) (fun f hf => (HOKF.out f hf).2)).mono ?_
      rintro e w7 ⟨rfl, hb7⟩
      have HBE : Hid (Below w.heap.size w w7) := HB1.out.trans ((HB6.out.trans (hb7.mono HB6.out.size)).mono HB1.out.size)
      rw [← HR9.out]
      unfold tup
      clear hb7 m6
      go_wp2
      go_ret
      exact ⟨rfl, HBE.out⟩
end Go.Proofs.YtpboencfnjmmbaaGreatDoor
