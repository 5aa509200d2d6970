/-
 The laws' Awake: it returns true, and writes nothing that was there before the call.
 Conditions: none.
-/
import Derived.Test.YtenfphbhofibjaaGreatDoorZArena
set_option maxRecDepth 100000
set_option maxHeartbeats 1000000
set_option linter.unusedVariables false
namespace Go.Proofs.YtenfphbhofibjaaGreatDoor
open Go.ChangeShapes Go.WideShapes Go.ChangeAt Go.RowKit
theorem put_is {base ab : Nat} {w : World} {s : St} {n u : Nat} {l : List Sl} {un : List Nat} {p1 p2 : Int} (h : Arn base ab w s) (o : Ob) (hh : o.hd = .slice none 0 0) (hm : o.fm = none) (hb : base ≤ w.heap.size) (i : Nat) (hi : (i : Int) = o.ow) (hp : s.accs[i]? = some (p1, p2)) (hp0 : 0 ≤ p1) (hp1 : p1 < p2) (hp2 : p2 ≤ 9223372036854775807)
 (hf : Frees s n u l un) (hl1 : s.slots.length ≤ 1000000) (hl2 : s.unused.length ≤ 1000000) (hu : u ≤ 1000000) (r : Int) (hr : ((u : Int) + 1) * 4294967296 + n = r) :
 Calls Tryz.prog 120 #[.pointer (some ⟨ab, 0, none⟩), .agg o.cells] w
  fun e w' => e = .returned (.tuple #[.int .u64 r, .int .i64 0]) ∧ Arn base ab w' ⟨s.accs.set i (p1 + 1, p2), l.set n ⟨u + 1, some (w.heap.size, o)⟩, un⟩ ∧ Fr isA base w w' ∧ w.heap.size < w'.heap.size := by
 subst hr
 refine (put_ok h o hh (by rw [hm]; intro b hb; cases hb) hb i hi hp hp0 hp1 hp2 hf hl1 hl2 hu).mono ?_
 rintro e w' ⟨he, r', hc, hA, hF, hs⟩
 rcases hc with ⟨_, rfl⟩ | ⟨b, _, _, _, h1, _⟩
 ·obtain ⟨k, ow, fz, fm, mo, fu, hd, br, ck, cn, cs, me, ta, de⟩ := o
  simp only at hm
  subst hm
  exact ⟨he, hA, hF, hs⟩
 ·rw [hm] at h1; cases h1
theorem get_is {base ab : Nat} {w : World} {s : St} (h : Arn base ab w s) (r : Int) (hr0 : 0 ≤ r) (hr1 : r ≤ 18446744073709551615) (v : Option Addr) (hv : ptrOf (look s.slots r) = .pointer v) :
 Calls Tryz.prog 122 #[.pointer (some ⟨ab, 0, none⟩), .int .u64 r] w fun e w' => e = .returned (.pointer v) ∧ ∃ q, w' = w.drewN q := by
 rw [← hv]
 exact get_any h r hr0 hr1
theorem awake3 (w : World) : Calls Tryz.prog 93 #[] w fun e w' => e = .returned (.bool true) ∧ Below w.heap.size w w' := by
 go_enter Tryz.func93, Tryz.ntmps93
 go_wp2_with fail
 refine (awake2 _).mono ?_
 rintro e w1 ⟨rfl, hw1⟩
 have F1 : Fr isA w.heap.size w w1 := by rw [hw1]; exact ((Fr.refl _ _ _).alloc _).alloc _
 clear hw1
 go_wp2_with fail
 refine (new_any _).mono ?_
 rintro e w2 ⟨rfl, hw2⟩
 have A2 : Arn w.heap.size w1.heap.size w2 ⟨[], [], []⟩ := by rw [hw2]; exact Arn.made w1 F1.size
 have F2 : Fr isA w.heap.size w w2 := by rw [hw2]; exact F1.alloc _
 clear hw2
 go_wp2_with fail
 refine (owner_any A2 1 (by simp)).mono ?_
 rintro e w3 ⟨rfl, A3, G3⟩
 have F3 := F2.trans G3
 go_wp2_with fail
 refine (put_is A3 {} rfl rfl F3.size 0 rfl rfl (by omega) (by decide) (by decide) (n := 0) (u := 0) (l := [⟨0, none⟩]) (un := []) (.inl ⟨rfl, rfl, rfl, rfl, rfl⟩) (by simp) (by simp) (by omega) 4294967296 (by decide)).mono ?_
 rintro e w4 ⟨rfl, A4, G4, S4⟩
 have F4 := F3.trans G4
 go_wp2_with fail
 refine (put_full A4 {} F4.size 0 rfl (p := 1) rfl).mono ?_
 rintro e w5 ⟨rfl, A5, G5⟩
 have F5 := F4.trans (G5.more (by intro t ht; cases ht))
 go_wp2_with fail
 refine (drop_some A5 4294967296 0 1 w3.heap.size 0 {} 1 1 (by decide) (by omega) (by omega) rfl rfl rfl (by omega) (by omega) (by simp)).mono ?_
 rintro e w6 ⟨rfl, A6, G6⟩
 have F6 := F5.trans G6
 go_wp2_with fail
 refine (get_is A6 4294967296 (by omega) (by omega) none rfl).mono ?_
 rintro e w7 ⟨rfl, q, hw7⟩
 have F7 : Fr isA w.heap.size w w7 := by rw [hw7]; exact F6.drewN q
 clear hw7
 go_wp2
 go_ret
 exact ⟨rfl, F7.below (Nat.le_refl _)⟩
end Go.Proofs.YtenfphbhofibjaaGreatDoor
