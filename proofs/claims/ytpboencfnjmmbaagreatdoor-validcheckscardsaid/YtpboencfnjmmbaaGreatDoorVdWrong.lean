/-
  The laws' wrong: may an instruction not be.
  Conditions: as each theorem says.
-/
import Derived.Test.YtpboencfnjmmbaaGreatDoorVdCheck
import Derived.Deep.CutBlock
import Derived.Deep.DeepCutAuto
namespace Go.Proofs.YtpboencfnjmmbaaGreatDoor
open Go.RowKit
set_option linter.unusedVariables false
set_option linter.unusedSimpArgs false
theorem fold_lo : ∀ (l : List Int) (a : Int), (0 ≤ l.foldl (fun a x => if x < a then x else a) a ↔ 0 ≤ a ∧ ∀ x ∈ l, 0 ≤ x) ∧ l.foldl (fun a x => if x < a then x else a) a ≤ a
  | [], a => ⟨by simp, Int.le_refl _⟩
  | x :: l, a => by
    obtain ⟨h1, h2⟩ := fold_lo l (if x < a then x else a)
    refine ⟨?_, ?_⟩
    · rw [List.foldl_cons, h1]
      simp only [List.mem_cons, forall_eq_or_imp]
      split <;> constructor <;> rintro ⟨u, v⟩ <;> (try obtain ⟨v1, v2⟩ := v) <;> refine ⟨?_, ?_⟩ <;> first | omega | assumption | (refine ⟨?_, ?_⟩ <;> first | omega | assumption)
    · rw [List.foldl_cons]
      refine Int.le_trans h2 ?_
      split <;> omega
theorem fold_hi (n : Int) : ∀ (l : List Int) (a : Int), (l.foldl (fun a x => if a < x then x else a) a < n ↔ a < n ∧ ∀ x ∈ l, x < n) ∧ a ≤ l.foldl (fun a x => if a < x then x else a) a
  | [], a => ⟨by simp, Int.le_refl _⟩
  | x :: l, a => by
    obtain ⟨h1, h2⟩ := fold_hi n l (if a < x then x else a)
    refine ⟨?_, ?_⟩
    · rw [List.foldl_cons, h1]
      simp only [List.mem_cons, forall_eq_or_imp]
      split <;> constructor <;> rintro ⟨u, v⟩ <;> (try obtain ⟨v1, v2⟩ := v) <;> refine ⟨?_, ?_⟩ <;> first | omega | assumption | (refine ⟨?_, ?_⟩ <;> first | omega | assumption)
    · rw [List.foldl_cons]
      refine Int.le_trans ?_ h2
      split <;> omega
theorem close_all (r a : Int) (h : List Int) : [a, lo h, hi h].all (inR r) = (a :: h).all (inR r) := by
  rw [Bool.eq_iff_iff]
  simp only [List.all_cons, List.all_nil, Bool.and_true, Bool.and_eq_true, List.all_eq_true, inR, decide_eq_true_eq]
  have h1 := (fold_lo h 0).1
  have h2 := (fold_lo h 0).2
  have h3 := (fold_hi r h 0).1
  have h4 := (fold_hi r h 0).2
  unfold lo hi
  constructor
  · rintro ⟨⟨u, v⟩, ⟨p, q⟩, ⟨p2, q2⟩⟩
    exact ⟨⟨u, v⟩, fun x hx => ⟨(h1.1 p).2 x hx, (h3.1 q2).2 x hx⟩⟩
  · rintro ⟨⟨u, v⟩, hx⟩
    have e1 := h1.2 ⟨Int.le_refl _, fun x hx2 => (hx x hx2).1⟩
    have e2 := h3.2 ⟨by omega, fun x hx2 => (hx x hx2).2⟩
    exact ⟨⟨u, v⟩, ⟨e1, by omega⟩, ⟨by omega, e2⟩⟩
theorem zsl_nil (w : World) : ZSl w (.slice none 0 0) [] := ⟨none, 0, rfl, Nat.le_refl _, Nat.zero_le _, fun h => absurd h (by simp)⟩
theorem two1 {w : World} {a : Int} {o : Obj} : ZSl ((w.alloc (.cells #[.int .i64 a] 3)).alloc o).drew (.slice (some ⟨w.heap.size, 0, none⟩) 1 1) [a] :=
  one_blk (w := ((w.alloc (.cells #[.int .i64 a] 3)).alloc o).drew) ((Below.heap_alloc _ _ _ (by simp)).trans (heap_alloc_new w _))
theorem two2 {w : World} {b : Int} {o : Obj} : ZSl ((w.alloc o).alloc (.cells #[.int .i64 b] 3)).drew (.slice (some ⟨w.heap.size + 1, 0, none⟩) 1 1) [b] :=
  one_blk (w := ((w.alloc o).alloc (.cells #[.int .i64 b] 3)).drew) (by rw [show w.heap.size + 1 = (w.alloc o).heap.size from by simp]; exact heap_alloc_new (w.alloc o) _)
theorem infoInt : (Tryz.prog.info? 3).map (fun i => (i.zero, i.size, i.bytes)) = some (some (.int .i64 0), 1, 8) := by kernel_rfl
def zrow (l : List Int) : List Value := l.map fun n => .int .i64 n
theorem run_app_ints {P : Program} {W : World} (hP : P = Tryz.prog) {g : Nat} {n : Int} (hg : W.heap[g]? = some (.cells #[.int .i64 n] 3 (0, 0))) {v : Value} {l : List Int} (h2 : ZSl W v l) (hn : ∀ l cap, v = .slice none l cap → cap = 0) (hl : l.length ≤ 1000000) (ty : TypeId) :
    ∃ v' W', (Builtin.append_ #[43, 43] ty #[.slice (some ⟨g, 0, none⟩) 1 1, v]).run P W = .ok v' W' ∧ ZSl W' v' (n :: l) ∧ Below g W W' := by
  subst hP
  obtain ⟨ad, cap, rfl, hc, hx, hG⟩ := h2
  obtain ⟨i0, hi, hz0, hz1, hz2⟩ := info_parts infoInt
  have hown : W.ownsRow g 3 1 (.slice (some ⟨g, 0, none⟩) 1 1) 1 [.int .i64 n] := ⟨rfl, .inr ⟨g, 1, _, rfl, Nat.le_refl _, hg, Nat.le_refl _, by simp [maxLen], rfl, rfl⟩⟩
  have hgl := lt_of_block hg
  cases ad with
  | none =>
    obtain rfl := hn _ _ rfl
    have h0 : l = [] := List.length_eq_zero_iff.1 (by omega)
    subst h0
    exact ⟨_, W, run_append_owned_none (P := Tryz.prog) W g 43 ty 3 i0 1 Tryz.underlying43 hi _ 1 _ hown, one_blk hg, Below.refl _ _⟩
  | some x =>
    have hnews : ∀ (j : Nat) (u : Value), (zrow l)[j]? = some u → W.cell? (x.add j) = some u := by
      intro j u hj
      simp [zrow] at hj
      obtain ⟨y, hy, rfl⟩ := hj
      obtain ⟨g2, o2, e, _, A⟩ := hG (by have := (List.getElem?_eq_some_iff.1 hy).1; omega)
      cases e
      have := A j y hy
      by_cases h0 : j = 0
      · subst h0; simpa [Addr.add] using this
      · simpa [Addr.add, h0] using this
    obtain ⟨v', w', hr, h1, h2, _⟩ := run_append_own (P := Tryz.prog) W g 43 ty 3 i0 (.int .i64 0) 1 8 Tryz.underlying43 hi hz0 hz1 hz2 rfl (by decide) _ 1 _ hown x l.length cap (zrow l) (by simp [zrow]) hnews (by intro u hu; simp [zrow] at hu; obtain ⟨y, _, rfl⟩ := hu; rfl) (by unfold maxLen; omega) (by omega) (Nat.le_of_lt hgl)
    refine ⟨v', w', hr, ?_, (Below.refl g W).grown h2 (Nat.le_of_lt hgl) (fun j e => (hown.lt j e).1)⟩
    rcases h1.2 with ⟨_, h0⟩ | ⟨g3, cap3, cur, rfl, _, hg3, h3, h4, h5, h6⟩
    · omega
    · refine ⟨_, cap3, by rw [List.length_cons, Nat.add_comm], by rw [List.length_cons]; omega, h4, fun _ => ⟨g3, 0, rfl, lt_of_block hg3, fun k m hk => ?_⟩⟩
      simp only [World.cell?, hg3, Nat.zero_add]
      have e7 : (cur.toList.take ((1 + l.length) * 1))[k]? = some (.int .i64 m) := by
        rw [h6]
        show ([Value.int .i64 n] ++ zrow l)[k]? = _
        rw [show [Value.int .i64 n] ++ zrow l = zrow (n :: l) from rfl]
        rw [zrow, List.getElem?_map, hk]
        rfl
      rw [List.getElem?_take] at e7
      split at e7
      · rwa [Array.getElem?_toList] at e7
      · cases e7
/-- The region of 'append([]int{a}, held...)'. -/
structure JP (row : Obj) (w0 : World) (R : List Int) (l : Nat → Bool) (a : Act) (W : World) : Prop where
  b : Below w0.heap.size w0 W
  s : l 2 = false → W.heap.size = w0.heap.size
  r : l 2 = true → l 10 = false → W.heap[w0.heap.size]? = some row
  v : l 10 = true → ZSl W (a.eval (.tmp 86)) R
  z : l 11 = true → ZSl W (a.eval (.tmp 7)) R
section
variable {row : Obj} {w0 W : World} {R : List Int} {l : Nat → Bool} {a : Act}
theorem JP.start : JP row w0 R (fun _ => false) a w0.drew := ⟨(Below.refl _ _).drew, fun _ => rfl, fun h => (by cases h), fun h => (by cases h), fun h => (by cases h)⟩
theorem JP.pure (h : JP row w0 R l a W) {j d : Nat} {u : Value} (h2 : 2 ≠ j) (h10 : 10 ≠ j) (h11 : 11 ≠ j) (hd : 86 ≠ d) (hd7 : 7 ≠ d) : JP row w0 R (more l j) (a.put (some d) u) W :=
  ⟨h.b, fun e => h.s (by rwa [more_ne l h2] at e), fun e e2 => h.r (by rwa [more_ne l h2] at e) (by rwa [more_ne l h10] at e2), fun e => (by rw [eval_other hd]; exact h.v (by rwa [more_ne l h10] at e)), fun e => (by rw [eval_other hd7]; exact h.z (by rwa [more_ne l h11] at e))⟩
theorem JP.make (h : JP row w0 R l a W) {d : Nat} {u : Value} (hl : l 2 = false) (hl10 : l 10 = false) (hl11 : l 11 = false) : JP row w0 R (more l 2) (a.put (some d) u) (W.alloc row) :=
  ⟨h.b.alloc h.b.size _, fun e => (by rw [more_self] at e; cases e), fun _ _ => (by rw [← h.s hl]; exact heap_alloc_new _ _), fun e => (by rw [more_ne l (by decide), hl10] at e; cases e), fun e => (by rw [more_ne l (by decide), hl11] at e; cases e)⟩
theorem JP.app (h : JP row w0 R l a W) {u : Value} {W' : World} (hs : 86 < a.tmps.size) (hl : l 2 = true) (hl11 : l 11 = false) (hb : Below w0.heap.size W W') (hu : ZSl W' u R) : JP row w0 R (more l 10) (a.put (some 86) u) W' :=
  ⟨h.b.trans hb, fun e => (by rw [more_ne l (by decide), hl] at e; cases e), fun _ e => (by rw [more_self] at e; cases e), fun _ => (by rw [eval_put a 86 86 u hs, if_pos rfl]; exact hu), fun e => (by rw [more_ne l (by decide), hl11] at e; cases e)⟩
theorem JP.hand (h : JP row w0 R l a W) {u : Value} (hs : 7 < a.tmps.size) (hl : l 10 = true) (hu : ZSl W u R) : JP row w0 R (more l 11) (a.put (some 7) u) W :=
  ⟨h.b, fun e => h.s (by rwa [more_ne l (by decide)] at e), fun e e2 => h.r (by rwa [more_ne l (by decide)] at e) (by rwa [more_ne l (by decide)] at e2), fun _ => (by rw [eval_other (by decide)]; exact h.v hl), fun _ => (by rw [eval_put a 7 7 u hs, if_pos rfl]; exact hu)⟩
end
set_option maxRecDepth 100000 in
set_option maxHeartbeats 4000000 in
theorem wrong_any {fs : List VF} {f : VF} {op : Nat} {a b c : Int} {hv cv iv v : Value} {w : World} (hF : FSl w v fs) (hok : ∀ f ∈ fs, f.ok) (hV : VFin w f hv cv iv) (hx : VI.ok ⟨op, a, b, c⟩) :
    Calls Tryz.prog 43 #[.agg #[v], .agg #[.int .i64 f.p, hv, .int .i64 f.r, cv, iv], .agg #[.int .u8 (op : Int), .int .i64 a, .int .i64 b, .int .i64 c]] w fun e w' => e = .returned (.bool (!fitsF fs f ⟨op, a, b, c⟩)) ∧ Below w.heap.size w w' := by
  obtain ⟨adh, caph, rfl, _, _, _⟩ := hV.h
  obtain ⟨adc, capc, rfl⟩ := hV.c
  obtain ⟨adi, capi, rfl, _, _, _⟩ := hV.i
  have HF := Lib.hid hF
  have HOK := Lib.hid hok
  obtain ⟨ad, cap, rfl, hc1, hx1, hg1⟩ := hF
  have HV := Lib.hid hV
  have HG := Lib.hid hg1
  have HXO := Lib.hid hx
  clear hV hg1 hx hok
  go_enter Tryz.func43, Tryz.ntmps43
  go_upto_block 0 with fail
  obtain ⟨W0, hW0⟩ : ∃ W0, W0 = ((w.alloc (.cells #[.slice ad fs.length cap] 31)).alloc (.cells #[.int .i64 f.p, .slice adh f.h.length caph, .int .i64 f.r, .slice adc f.nc capc, .slice adi f.cd.length capi] 47)).alloc (.cells #[.int .u8 (op : Int), .int .i64 a, .int .i64 b, .int .i64 c] 51) := ⟨_, rfl⟩
  have HB0 : Hid (Below w.heap.size w W0) := by rw [hW0]; exact bl3 _ _ _ _
  obtain ⟨q0, q1⟩ := heap3_0 (Below.refl _ (((w.alloc (.cells #[.slice ad fs.length cap] 31)).alloc (.cells #[.int .i64 f.p, .slice adh f.h.length caph, .int .i64 f.r, .slice adc f.nc capc, .slice adi f.cd.length capi] 47)).alloc (.cells #[.int .u8 (op : Int), .int .i64 a, .int .i64 b, .int .i64 c] 51)))
  have q2 := heap3 w (.cells #[.slice ad fs.length cap] 31) (.cells #[.int .i64 f.p, .slice adh f.h.length caph, .int .i64 f.r, .slice adc f.nc capc, .slice adi f.cd.length capi] 47) (.cells #[.int .u8 (op : Int), .int .i64 a, .int .i64 b, .int .i64 c] 51)
  rw [← hW0] at q0 q1 q2
  have hz0 : W0.heap.size = w.heap.size + 1 + 1 + 1 := by rw [hW0]; simp
  have Q0 := Lib.hid q0
  have Q1 := Lib.hid q1
  have Q2 := Lib.hid q2
  have hs0 : w.heap.size < W0.heap.size := by omega
  have hs1 : w.heap.size + 1 < W0.heap.size := by omega
  have hs2 : w.heap.size + 1 + 1 < W0.heap.size := by omega
  rw [← hW0]
  clear hW0 q0 q1 q2 hz0
  go_cut [7, 8] (fun s7 s8 wc => ∃ R P, Hid (ZSl wc s7 R) ∧ Hid (ZSl wc s8 P) ∧ Hid (Below W0.heap.size W0 wc) ∧ Hid (fitsF fs f ⟨op, a, b, c⟩ = (R.all (inR f.r) && P.all (inR f.cd.length))))
  case first =>
    have m0 : W0.cell? ⟨w.heap.size, 0, none⟩ = some (.slice ad fs.length cap) := by simp [World.cell?, Q0.out]
    have f0 : W0.cell? ⟨w.heap.size + 1, 0, none⟩ = some (.int .i64 f.p) := by simp [World.cell?, Q1.out]
    have f1 : W0.cell? ⟨w.heap.size + 1, 1, none⟩ = some (.slice adh f.h.length caph) := by simp [World.cell?, Q1.out]
    have f2 : W0.cell? ⟨w.heap.size + 1, 2, none⟩ = some (.int .i64 f.r) := by simp [World.cell?, Q1.out]
    have f3 : W0.cell? ⟨w.heap.size + 1, 3, none⟩ = some (.slice adc f.nc capc) := by simp [World.cell?, Q1.out]
    have f4 : W0.cell? ⟨w.heap.size + 1, 4, none⟩ = some (.slice adi f.cd.length capi) := by simp [World.cell?, Q1.out]
    have x0 : W0.cell? ⟨w.heap.size + 1 + 1, 0, none⟩ = some (.int .u8 (op : Int)) := by simp [World.cell?, Q2.out]
    have x1 : W0.cell? ⟨w.heap.size + 1 + 1, 1, none⟩ = some (.int .i64 a) := by simp [World.cell?, Q2.out]
    have x2 : W0.cell? ⟨w.heap.size + 1 + 1, 2, none⟩ = some (.int .i64 b) := by simp [World.cell?, Q2.out]
    have x3 : W0.cell? ⟨w.heap.size + 1 + 1, 3, none⟩ = some (.int .i64 c) := by simp [World.cell?, Q2.out]
    have HBA : Hid (∀ o, Below W0.heap.size W0 (W0.alloc o)) := fun o => bl0 _ _
    have HBW : Hid (∀ o, Below w.heap.size w (W0.alloc o)) := fun o => HB0.out.trans ((bl0 W0 o).mono HB0.out.size)
    rcases (show op = 0 ∨ op = 1 ∨ op = 2 ∨ op = 3 ∨ op = 4 ∨ op = 5 ∨ op = 6 ∨ op = 7 ∨ op = 8 ∨ op = 9 ∨ op = 10 ∨ op = 11 ∨ op = 12 ∨ op = 13 ∨ op = 14 ∨ op = 15 ∨ op = 16 ∨ op = 17 ∨ op = 18 ∨ op = 19 ∨ op = 20 ∨ op = 21 ∨ 22 ≤ op from by omega) with rfl | rfl | rfl | rfl | rfl | rfl | rfl | rfl | rfl | rfl | rfl | rfl | rfl | rfl | rfl | rfl | rfl | rfl | rfl | rfl | rfl | rfl | ho
    · have HF0 : Hid (fitsF fs f ⟨0, a, b, c⟩ = ([a].all (inR f.r) && [b].all (inR f.nc))) := rfl
      by_cases hb0 : b < 0
      · have HR : Hid (fitsF fs f ⟨0, a, b, c⟩ = false) := by refine Lib.hid ?_; rw [HF0.out]; simp [inR, show ¬ (0 ≤ b) from by omega]
        go_wp2
        go_ret
        exact ⟨ret_bool (by rw [HR.out]; rfl), HBW.out _⟩
      by_cases hb1 : (f.nc : Int) ≤ b
      · have HR : Hid (fitsF fs f ⟨0, a, b, c⟩ = false) := by refine Lib.hid ?_; rw [HF0.out]; simp [inR, show ¬ (b < (f.nc : Int)) from by omega]
        go_wp2
        go_ret
        exact ⟨ret_bool (by rw [HR.out]; rfl), HBW.out _⟩
      have HR : Hid (fitsF fs f ⟨0, a, b, c⟩ = ([a].all (inR f.r) && ([] : List Int).all (inR f.cd.length))) := by refine Lib.hid ?_; rw [HF0.out]; simp [inR, show 0 ≤ b from by omega, show b < (f.nc : Int) from by omega]
      go_wp2_with fail
      go_meet
      exact ⟨[a], [], one_int, zsl_nil _, HBA.out _, HR.out⟩
    · have HR : Hid (fitsF fs f ⟨1, a, b, c⟩ = ([a, b].all (inR f.r) && ([] : List Int).all (inR f.cd.length))) := by refine Lib.hid ?_; rw [List.all_nil, Bool.and_true]; rfl
      go_wp2_with fail
      go_meet
      exact ⟨[a, b], [], two_int, zsl_nil _, HBA.out _, HR.out⟩
    · have HR : Hid (fitsF fs f ⟨2, a, b, c⟩ = ([a].all (inR f.r) && ([] : List Int).all (inR f.cd.length))) := by refine Lib.hid ?_; rw [List.all_nil, Bool.and_true]; rfl
      go_wp2_with fail
      go_meet
      exact ⟨[a], [], one_int, zsl_nil _, HBA.out _, HR.out⟩
    · have HR : Hid (fitsF fs f ⟨3, a, b, c⟩ = ([a, b, c].all (inR f.r) && ([] : List Int).all (inR f.cd.length))) := by refine Lib.hid ?_; rw [List.all_nil, Bool.and_true]; rfl
      go_wp2_with fail
      go_meet
      exact ⟨[a, b, c], [], three_int, zsl_nil _, HBA.out _, HR.out⟩
    · have HR : Hid (fitsF fs f ⟨4, a, b, c⟩ = ([a, b, c].all (inR f.r) && ([] : List Int).all (inR f.cd.length))) := by refine Lib.hid ?_; rw [List.all_nil, Bool.and_true]; rfl
      go_wp2_with fail
      go_meet
      exact ⟨[a, b, c], [], three_int, zsl_nil _, HBA.out _, HR.out⟩
    · by_cases hb0 : b < 1
      · have HR : Hid (fitsF fs f ⟨5, a, b, c⟩ = false) := by
          refine Lib.hid ?_
          show closesF fs f.r a b = false
          by_cases hbz : b = 0
          · simp [closesF, hbz]
          · simp [closesF, inR, show ¬ (0 ≤ b) from by omega]
        go_wp2
        go_ret
        exact ⟨ret_bool (by rw [HR.out]; rfl), HB0.out⟩
      by_cases hb1 : (fs.length : Int) ≤ b
      · have HR : Hid (fitsF fs f ⟨5, a, b, c⟩ = false) := by
          refine Lib.hid ?_
          show closesF fs f.r a b = false
          simp [closesF, inR, show ¬ (b < (fs.length : Int)) from by omega]
        go_wp2
        go_ret
        exact ⟨ret_bool (by rw [HR.out]; rfl), HB0.out⟩
      obtain ⟨n, rfl⟩ : ∃ n : Nat, b = (n : Int) := ⟨b.toNat, by omega⟩
      obtain ⟨fb, hfb⟩ : ∃ fb, fs[n]? = some fb := ⟨_, List.getElem?_eq_getElem (by omega)⟩
      have HR : Hid (fitsF fs f ⟨5, a, (n : Int), c⟩ = ((a :: fb.h).all (inR f.r) && ([] : List Int).all (inR f.cd.length))) := by
        refine Lib.hid ?_
        show closesF fs f.r a (n : Int) = _
        rw [List.all_nil, Bool.and_true, ← close_all]
        unfold closesF
        rw [show heldOf fs (n : Int) = fb.h from by unfold heldOf; rw [Int.toNat_natCast, hfb]; rfl, decide_eq_false (show ¬ ((n : Int) = 0) from by omega), show inR (fs.length : Int) (n : Int) = true from by unfold inR; rw [decide_eq_true (show (0 : Int) ≤ (n : Int) from by omega), decide_eq_true (show (n : Int) < (fs.length : Int) from by omega)]; rfl]
        rfl
      have hgl := HG.out (by omega)
      obtain ⟨gf, of, rfl, hgf0, AF⟩ := hgl
      obtain ⟨hvb, cvb, ivb, VB, _, cb0, _, _, _⟩ := AF n fb hfb
      have hgf : gf < W0.heap.size := Nat.lt_of_lt_of_le hgf0 HB0.out.size
      have cb : W0.cell? ⟨gf, of + n * 5 + 1, none⟩ = some hvb := (vcell (HB0.out.block _ hgf0)).trans cb0
      have HVB : Hid (ZSl W0 hvb fb.h) := VB.h.up HB0.out
      have HVN : Hid (∀ l cap, hvb = .slice none l cap → cap = 0) := VB.n
      have HBL : Hid (fb.h.length ≤ 1000000) := (HOK.out fb (List.mem_of_getElem? hfb)).hl
      have hidx : 0 ≤ (n : Int) ∧ (n : Int) < (fs.length : Int) := ⟨by omega, by omega⟩
      clear AF VB hfb cb0
      go_wp2_with fail
      refine region_sh (fun | 0 => some (.pointer (some ⟨w.heap.size + 1 + 1, 1, none⟩)) | 1 => some (.int .i64 a) | 2 => some (.slice (some ⟨W0.heap.size, 0, none⟩) 1 1) | 3 => some (.pointer (some ⟨w.heap.size, 0, none⟩)) | 4 => some (.slice (some ⟨gf, of, none⟩) fs.length cap) | 5 => some (.pointer (some ⟨w.heap.size + 1 + 1, 2, none⟩)) | 6 => some (.int .i64 (n : Int)) | 7 => some (.pointer (some ⟨gf, of + n * 5, none⟩)) | 8 => some (.pointer (some ⟨gf, of + n * 5 + 1, none⟩)) | 9 => some (hvb) | _ => none) (fun l a9 W => JP (.cells #[.int .i64 a] 3) W0 (a :: fb.h) l a9 W) (by kernel_rfl) (by kernel_rfl) (by kernel_rfl) (JP.start) ?_ ?_
      · intro hon q hq LL a1 W hC hl hBh hS hJ K hK
        have hqn : q < 12 := hq
        clear hq
        rcases (show q = 0 ∨ q = 1 ∨ q = 2 ∨ q = 3 ∨ q = 4 ∨ q = 5 ∨ q = 6 ∨ q = 7 ∨ q = 8 ∨ q = 9 ∨ q = 10 ∨ q = 11 from by omega) with rfl | rfl | rfl | rfl | rfl | rfl | rfl | rfl | rfl | rfl | rfl | rfl
        · have e5 := (eval_tmp a1 5).symm.trans ((hS.kept 5 (by kernel_rfl)).trans rfl)
          refine wpOp_step rfl (fun K' hK' => ?_)
          go_simp
          exact hK' _ _ (hK _ _ (hS.put hon (i := 0) rfl rfl (fun u hu => by cases hu; rfl)) (hJ.pure (by decide) (by decide) (by decide) (by decide) (by decide)))
        · have e76 := (eval_tmp a1 76).symm.trans (hS.get hBh (i := 1) rfl 0 (by simp) rfl rfl rfl)
          have qx1 : W.cell? ⟨w.heap.size + 1 + 1, 1, none⟩ = some (.int .i64 a) := (vcell (hJ.b.block _ hs2)).trans x1
          refine wpOp_step rfl (fun K' hK' => ?_)
          go_simp
          exact hK' _ _ (hK _ _ (hS.put hon (i := 1) rfl rfl (fun u hu => by cases hu; rfl)) (hJ.pure (by decide) (by decide) (by decide) (by decide) (by decide)))
        · have e77 := (eval_tmp a1 77).symm.trans (hS.get hBh (i := 2) rfl 1 (by simp) rfl rfl rfl)
          have hl10 := closed_not hC (i := 10) (j := 2) hl rfl (g := .data) (by simp) rfl
          have hl11 := closed_not hC (i := 11) (j := 10) hl10 rfl (g := .data) (by simp) rfl
          refine wpOp_step rfl (fun K' hK' => ?_)
          go_simp
          rw [hJ.s hl]
          exact hK' _ _ (hK _ _ (hS.put hon (i := 2) rfl rfl (fun u hu => by cases hu; rfl)) (hJ.make hl hl10 hl11))
        · have e3 := (eval_tmp a1 3).symm.trans ((hS.kept 3 (by kernel_rfl)).trans rfl)
          refine wpOp_step rfl (fun K' hK' => ?_)
          go_simp
          exact hK' _ _ (hK _ _ (hS.put hon (i := 3) rfl rfl (fun u hu => by cases hu; rfl)) (hJ.pure (by decide) (by decide) (by decide) (by decide) (by decide)))
        · have e79 := (eval_tmp a1 79).symm.trans (hS.get hBh (i := 4) rfl 3 (by simp) rfl rfl rfl)
          have qm0 : W.cell? ⟨w.heap.size, 0, none⟩ = some (.slice (some ⟨gf, of, none⟩) fs.length cap) := (vcell (hJ.b.block _ hs0)).trans m0
          refine wpOp_step rfl (fun K' hK' => ?_)
          go_simp
          exact hK' _ _ (hK _ _ (hS.put hon (i := 4) rfl rfl (fun u hu => by cases hu; rfl)) (hJ.pure (by decide) (by decide) (by decide) (by decide) (by decide)))
        · have e5 := (eval_tmp a1 5).symm.trans ((hS.kept 5 (by kernel_rfl)).trans rfl)
          refine wpOp_step rfl (fun K' hK' => ?_)
          go_simp
          exact hK' _ _ (hK _ _ (hS.put hon (i := 5) rfl rfl (fun u hu => by cases hu; rfl)) (hJ.pure (by decide) (by decide) (by decide) (by decide) (by decide)))
        · have e81 := (eval_tmp a1 81).symm.trans (hS.get hBh (i := 6) rfl 5 (by simp) rfl rfl rfl)
          have qx2 : W.cell? ⟨w.heap.size + 1 + 1, 2, none⟩ = some (.int .i64 (n : Int)) := (vcell (hJ.b.block _ hs2)).trans x2
          refine wpOp_step rfl (fun K' hK' => ?_)
          go_simp
          exact hK' _ _ (hK _ _ (hS.put hon (i := 6) rfl rfl (fun u hu => by cases hu; rfl)) (hJ.pure (by decide) (by decide) (by decide) (by decide) (by decide)))
        · have e80 := (eval_tmp a1 80).symm.trans (hS.get hBh (i := 7) rfl 4 (by simp) rfl rfl rfl)
          have e82 := (eval_tmp a1 82).symm.trans (hS.get hBh (i := 7) rfl 6 (by simp) rfl rfl rfl)
          refine wpOp_step rfl (fun K' hK' => ?_)
          go_simp
          exact hK' _ _ (hK _ _ (hS.put hon (i := 7) rfl rfl (fun u hu => by cases hu; rfl)) (hJ.pure (by decide) (by decide) (by decide) (by decide) (by decide)))
        · have e83 := (eval_tmp a1 83).symm.trans (hS.get hBh (i := 8) rfl 7 (by simp) rfl rfl rfl)
          refine wpOp_step rfl (fun K' hK' => ?_)
          go_simp
          exact hK' _ _ (hK _ _ (hS.put hon (i := 8) rfl rfl (fun u hu => by cases hu; rfl)) (hJ.pure (by decide) (by decide) (by decide) (by decide) (by decide)))
        · have e84 := (eval_tmp a1 84).symm.trans (hS.get hBh (i := 9) rfl 8 (by simp) rfl rfl rfl)
          have qcb : W.cell? ⟨gf, of + n * 5 + 1, none⟩ = some (hvb) := (vcell (hJ.b.block _ hgf)).trans cb
          refine wpOp_step rfl (fun K' hK' => ?_)
          go_simp
          exact hK' _ _ (hK _ _ (hS.put hon (i := 9) rfl rfl (fun u hu => by cases hu; rfl)) (hJ.pure (by decide) (by decide) (by decide) (by decide) (by decide)))
        · have e78 := (hS.get hBh (i := 10) rfl 2 (by simp) rfl rfl rfl)
          have e85 := (hS.get hBh (i := 10) rfl 9 (by simp) rfl rfl rfl)
          have hl2 : LL 2 = true := hBh _ rfl ⟨2, .data⟩ (by simp) rfl
          have hl11 := closed_not hC (i := 11) (j := 10) hl rfl (g := .data) (by simp) rfl
          obtain ⟨v', W', hr, h1, h2⟩ := run_app_ints (P := Tryz.prog) rfl (hJ.r hl2 hl) (HVB.out.up hJ.b) HVN.out HBL.out 43
          refine wpOp_run (v := v') (w' := W') rfl rfl (by simp [execOp, resolve, invoke, builtin, e78, e85, hr, Result.andThen]) ?_
          exact hK _ _ (hS.put hon (i := 10) rfl rfl (fun u hu => by cases hu)) (hJ.app (by rw [hS.size]; exact Nat.le_of_ble_eq_true rfl) hl2 hl11 h2 h1)
        · have hl10 : LL 10 = true := hBh _ rfl ⟨10, .data⟩ (by simp) rfl
          have hv := hJ.v hl10
          refine wpOp_run (v := a1.eval (.tmp 86)) (w' := W) rfl rfl (by simp [execOp, Result.andThen]) ?_
          exact hK _ _ (hS.put hon (i := 11) rfl rfl (fun u hu => by cases hu)) (hJ.hand (by rw [hS.size]; exact Nat.le_of_ble_eq_true rfl) hl10 hv)
      · intro LL a1 wz hl hS hJ
        have hfr := hS.frame [76, 77, 78, 79, 80, 81, 82, 83, 84, 85, 86, 7] rfl
        obtain ⟨zz, hz⟩ : ∃ z : Nat → Value, z = fun k => a1.eval (.tmp k) := ⟨_, rfl⟩
        rw [← hz] at hfr
        have z7 : Hid (ZSl wz (zz 7) (a :: fb.h)) := by rw [hz]; exact hJ.z (hl 11 (by decide))
        have HBZ : Hid (Below W0.heap.size W0 wz) := hJ.b
        first | refine (‹∀ (a : Act) (w : World), Code.wp Tryz.prog _ _ a w → _› a1 wz ?_) | skip
        rw [hfr]
        clear hfr hz hS hJ hl
        simp only [over, List.setIfInBounds_toArray, List.set_cons_zero, List.set_cons_succ]
        generalize zz 7 = s7 at z7 ⊢
        go_wp2_with fail
        go_meet
        exact ⟨a :: fb.h, [], z7.out, zsl_nil _, HBZ.out, HR.out⟩
    · by_cases h0 : c < 0
      · have HR : Hid (fitsF fs f ⟨6, a, b, c⟩ = false) := by refine Lib.hid ?_; simp only [fitsF, decide_eq_false (show ¬ 0 ≤ c from by omega), Bool.false_and]
        go_wp2
        go_ret
        exact ⟨ret_bool (by rw [HR.out]; rfl), HBW.out _⟩
      have HR : Hid (fitsF fs f ⟨6, a, b, c⟩ = ([a, b, wrap64 (b + c)].all (inR f.r) && ([] : List Int).all (inR f.cd.length))) := by refine Lib.hid ?_; rw [List.all_nil, Bool.and_true]; simp only [fitsF, decide_eq_true (show 0 ≤ c from by omega), Bool.true_and]
      go_wp2_with fail
      go_meet
      exact ⟨[a, b, wrap64 (b + c)], [], three_int, zsl_nil _, HBA.out _, HR.out⟩
    · have HR : Hid (fitsF fs f ⟨7, a, b, c⟩ = ([a, b].all (inR f.r) && ([] : List Int).all (inR f.cd.length))) := by refine Lib.hid ?_; rw [List.all_nil, Bool.and_true]; rfl
      go_wp2_with fail
      go_meet
      exact ⟨[a, b], [], two_int, zsl_nil _, HBA.out _, HR.out⟩
    · have HR : Hid (fitsF fs f ⟨8, a, b, c⟩ = ([a, b].all (inR f.r) && ([] : List Int).all (inR f.cd.length))) := by refine Lib.hid ?_; rw [List.all_nil, Bool.and_true]; rfl
      go_wp2_with fail
      go_meet
      exact ⟨[a, b], [], two_int, zsl_nil _, HBA.out _, HR.out⟩
    · have HR : Hid (fitsF fs f ⟨9, a, b, c⟩ = ([a, b, c].all (inR f.r) && ([] : List Int).all (inR f.cd.length))) := by refine Lib.hid ?_; rw [List.all_nil, Bool.and_true]; rfl
      go_wp2_with fail
      go_meet
      exact ⟨[a, b, c], [], three_int, zsl_nil _, HBA.out _, HR.out⟩
    · have HR : Hid (fitsF fs f ⟨10, a, b, c⟩ = ([a, b, c].all (inR f.r) && ([] : List Int).all (inR f.cd.length))) := by refine Lib.hid ?_; rw [List.all_nil, Bool.and_true]; rfl
      go_wp2_with fail
      go_meet
      exact ⟨[a, b, c], [], three_int, zsl_nil _, HBA.out _, HR.out⟩
    · have HR : Hid (fitsF fs f ⟨11, a, b, c⟩ = ([a, b, c].all (inR f.r) && ([] : List Int).all (inR f.cd.length))) := by refine Lib.hid ?_; rw [List.all_nil, Bool.and_true]; rfl
      go_wp2_with fail
      go_meet
      exact ⟨[a, b, c], [], three_int, zsl_nil _, HBA.out _, HR.out⟩
    · have HR : Hid (fitsF fs f ⟨12, a, b, c⟩ = ([a, b, c].all (inR f.r) && ([] : List Int).all (inR f.cd.length))) := by refine Lib.hid ?_; rw [List.all_nil, Bool.and_true]; rfl
      go_wp2_with fail
      go_meet
      exact ⟨[a, b, c], [], three_int, zsl_nil _, HBA.out _, HR.out⟩
    · have HR : Hid (fitsF fs f ⟨13, a, b, c⟩ = ([a, b, c].all (inR f.r) && ([] : List Int).all (inR f.cd.length))) := by refine Lib.hid ?_; rw [List.all_nil, Bool.and_true]; rfl
      go_wp2_with fail
      go_meet
      exact ⟨[a, b, c], [], three_int, zsl_nil _, HBA.out _, HR.out⟩
    · have HR : Hid (fitsF fs f ⟨14, a, b, c⟩ = ([a, b, c].all (inR f.r) && ([] : List Int).all (inR f.cd.length))) := by refine Lib.hid ?_; rw [List.all_nil, Bool.and_true]; rfl
      go_wp2_with fail
      go_meet
      exact ⟨[a, b, c], [], three_int, zsl_nil _, HBA.out _, HR.out⟩
    · have HR : Hid (fitsF fs f ⟨15, a, b, c⟩ = (([] : List Int).all (inR f.r) && [a].all (inR f.cd.length))) := by refine Lib.hid ?_; simp [fitsF]
      go_wp2_with fail
      go_meet
      exact ⟨[], [a], zsl_nil _, one_int, HBA.out _, HR.out⟩
    · have HR : Hid (fitsF fs f ⟨16, a, b, c⟩ = (([] : List Int).all (inR f.r) && [a].all (inR f.cd.length))) := by refine Lib.hid ?_; simp [fitsF]
      go_wp2_with fail
      go_meet
      exact ⟨[], [a], zsl_nil _, one_int, HBA.out _, HR.out⟩
    · have HR : Hid (fitsF fs f ⟨17, a, b, c⟩ = ([a].all (inR f.r) && [b].all (inR f.cd.length))) := by refine Lib.hid ?_; simp [fitsF]
      go_wp2_with fail
      have HB2 : Hid (∀ o p, Below W0.heap.size W0 ((W0.alloc o).alloc p).drew) := fun o p => (bl2 W0 o p).drew
      go_region
      all_goals (go_wp2_with fail; go_meet; first | exact ⟨[a], [b], two1, two2, HB2.out _ _, HR.out⟩ | exact ⟨[a], [b], two2, two1, HB2.out _ _, HR.out⟩)
    · have HR : Hid (fitsF fs f ⟨18, a, b, c⟩ = ([a].all (inR f.r) && ([] : List Int).all (inR f.cd.length))) := by refine Lib.hid ?_; rw [List.all_nil, Bool.and_true]; rfl
      go_wp2_with fail
      go_meet
      exact ⟨[a], [], one_int, zsl_nil _, HBA.out _, HR.out⟩
    · have HR : Hid (fitsF fs f ⟨19, a, b, c⟩ = ([a].all (inR f.r) && ([] : List Int).all (inR f.cd.length))) := by refine Lib.hid ?_; rw [List.all_nil, Bool.and_true]; rfl
      go_wp2_with fail
      go_meet
      exact ⟨[a], [], one_int, zsl_nil _, HBA.out _, HR.out⟩
    · have HR : Hid (fitsF fs f ⟨20, a, b, c⟩ = ([a].all (inR f.r) && [b].all (inR f.cd.length))) := by refine Lib.hid ?_; simp [fitsF]
      go_wp2_with fail
      have HB2 : Hid (∀ o p, Below W0.heap.size W0 ((W0.alloc o).alloc p).drew) := fun o p => (bl2 W0 o p).drew
      go_region
      all_goals (go_wp2_with fail; go_meet; first | exact ⟨[a], [b], two1, two2, HB2.out _ _, HR.out⟩ | exact ⟨[a], [b], two2, two1, HB2.out _ _, HR.out⟩)
    · have HR : Hid (fitsF fs f ⟨21, a, b, c⟩ = (([] : List Int).all (inR f.r) && ([] : List Int).all (inR f.cd.length))) := rfl
      go_wp2_with fail
      go_meet
      exact ⟨[], [], zsl_nil _, zsl_nil _, Below.refl _ _, HR.out⟩
    · have HR : Hid (fitsF fs f ⟨op, a, b, c⟩ = false) := by
        obtain ⟨k, rfl⟩ : ∃ k, op = k + 22 := ⟨op - 22, by omega⟩
        rfl
      have n0 : ((op : Int) == 0) = false := by simp; omega
      have n1 : ((op : Int) == 1) = false := by simp; omega
      have n2 : ((op : Int) == 2) = false := by simp; omega
      have n3 : ((op : Int) == 3) = false := by simp; omega
      have n4 : ((op : Int) == 4) = false := by simp; omega
      have n5 : ((op : Int) == 5) = false := by simp; omega
      have n6 : ((op : Int) == 6) = false := by simp; omega
      have n7 : ((op : Int) == 7) = false := by simp; omega
      have n8 : ((op : Int) == 8) = false := by simp; omega
      have n9 : ((op : Int) == 9) = false := by simp; omega
      have n10 : ((op : Int) == 10) = false := by simp; omega
      have n11 : ((op : Int) == 11) = false := by simp; omega
      have n12 : ((op : Int) == 12) = false := by simp; omega
      have n13 : ((op : Int) == 13) = false := by simp; omega
      have n14 : ((op : Int) == 14) = false := by simp; omega
      have n15 : ((op : Int) == 15) = false := by simp; omega
      have n16 : ((op : Int) == 16) = false := by simp; omega
      have n17 : ((op : Int) == 17) = false := by simp; omega
      have n18 : ((op : Int) == 18) = false := by simp; omega
      have n19 : ((op : Int) == 19) = false := by simp; omega
      have n20 : ((op : Int) == 20) = false := by simp; omega
      have n21 : ((op : Int) == 21) = false := by simp; omega
      clear ho
      go_wp2
      go_ret
      exact ⟨ret_bool (by rw [HR.out]; rfl), HB0.out⟩
  case rest =>
    obtain ⟨R, P, H7, H8, HBC, HFF⟩ := hcut
    obtain ⟨ad7, cap7, rfl, hc7, hx7, hg7⟩ := H7.out
    obtain ⟨ad8, cap8, rfl, hc8, hx8, hg8⟩ := H8.out
    unfold maxLen at hx7 hx8
    have HG7 := Lib.hid hg7
    have HG8 := Lib.hid hg8
    have hbf := (HBC.out.block _ hs1).trans Q1.out
    have f2 : wc.cell? ⟨w.heap.size + 1, 2, none⟩ = some (.int .i64 f.r) := by simp [World.cell?, hbf]
    have f4 : wc.cell? ⟨w.heap.size + 1, 4, none⟩ = some (.slice adi f.cd.length capi) := by simp [World.cell?, hbf]
    have HBE : Hid (Below w.heap.size w wc) := HB0.out.trans (HBC.out.mono HB0.out.size)
    clear hg7 hg8 hbf
    go_wp2_with fail
    go_loopw [121] (fun i wr => ∃ k : Nat, i = .int .i64 (k : Int) ∧ k ≤ R.length ∧ wr = wc ∧ Hid ((R.take k).all (inR f.r) = true))
      (fun i _ => R.length - (intOf i).toNat)
    case atStart => exact ⟨0, rfl, Nat.zero_le _, rfl, rfl⟩
    case round =>
      obtain ⟨k, rfl, hk, rfl, HK⟩ := hrel
      by_cases hlt : k < R.length
      · obtain ⟨y, hy⟩ : ∃ y, R[k]? = some y := ⟨_, List.getElem?_eq_getElem hlt⟩
        obtain ⟨g, o, rfl, gl, A⟩ := HG7.out (by omega)
        have hq := A k y hy
        have hidx : 0 ≤ (k : Int) ∧ (k : Int) < (R.length : Int) := ⟨by omega, by omega⟩
        by_cases h0 : y < 0
        · have HZ : Hid (fitsF fs f ⟨op, a, b, c⟩ = false) := by
            have h1 := all_hit (n := f.r) hy (by simp [inR]; omega)
            rw [HFF.out, h1]; rfl
          clear A hy
          go_wp2
          go_ret
          exact ⟨ret_bool (by rw [HZ.out]; rfl), HBE.out⟩
        · by_cases hn : f.r ≤ y
          · have HZ : Hid (fitsF fs f ⟨op, a, b, c⟩ = false) := by
              have h1 := all_hit (n := f.r) hy (by simp [inR]; omega)
              rw [HFF.out, h1]; rfl
            clear A hy
            go_wp2
            go_ret
            exact ⟨ret_bool (by rw [HZ.out]; rfl), HBE.out⟩
          · have HZ : Hid ((R.take (k + 1)).all (inR f.r) = true) := all_take hy HK.out (by simp [inR]; omega)
            clear A hy
            go_wp2_with fail
            go_roundw
            case rel => exact ⟨k + 1, by go_num, by omega, by first | rfl | trivial, HZ⟩
            case measure => simp [intOf]; omega
      · obtain rfl : k = R.length := by omega
        have HFG : Hid (fitsF fs f ⟨op, a, b, c⟩ = P.all (inR f.cd.length)) := by
          have h1 := HK.out
          rw [List.take_length] at h1
          rw [HFF.out, h1]; rfl
        go_wp2_with fail
        go_loopw [136] (fun i ws => ∃ k : Nat, i = .int .i64 (k : Int) ∧ k ≤ P.length ∧ ws = wr ∧ Hid ((P.take k).all (inR f.cd.length) = true))
          (fun i _ => P.length - (intOf i).toNat)
        case atStart => exact ⟨0, rfl, Nat.zero_le _, rfl, rfl⟩
        case round =>
          obtain ⟨k, rfl, hk, rfl, HK2⟩ := hrel
          by_cases hlt : k < P.length
          · obtain ⟨y, hy⟩ : ∃ y, P[k]? = some y := ⟨_, List.getElem?_eq_getElem hlt⟩
            obtain ⟨g, o, rfl, gl, A⟩ := HG8.out (by omega)
            have hq := A k y hy
            have hidx : 0 ≤ (k : Int) ∧ (k : Int) < (P.length : Int) := ⟨by omega, by omega⟩
            by_cases h0 : y < 0
            · have HZ : Hid (fitsF fs f ⟨op, a, b, c⟩ = false) := by
                have h1 := all_hit (n := f.cd.length) hy (by simp [inR]; omega)
                rw [HFG.out, h1]; rfl
              clear A hy
              go_wp2
              go_ret
              exact ⟨ret_bool (by rw [HZ.out]; rfl), HBE.out⟩
            · by_cases hn : (f.cd.length : Int) ≤ y
              · have HZ : Hid (fitsF fs f ⟨op, a, b, c⟩ = false) := by
                  have h1 := all_hit (n := f.cd.length) hy (by simp [inR]; omega)
                  rw [HFG.out, h1]; rfl
                clear A hy
                go_wp2
                go_ret
                exact ⟨ret_bool (by rw [HZ.out]; rfl), HBE.out⟩
              · have HZ : Hid ((P.take (k + 1)).all (inR f.cd.length) = true) := all_take hy HK2.out (by simp [inR]; omega)
                clear A hy
                go_wp2_with fail
                go_roundw
                case rel => exact ⟨k + 1, by go_num, by omega, by first | rfl | trivial, HZ⟩
                case measure => simp [intOf]; omega
          · obtain rfl : k = P.length := by omega
            have HZ : Hid (fitsF fs f ⟨op, a, b, c⟩ = true) := by
              have h1 := HK2.out
              rw [List.take_length] at h1
              rw [HFG.out, h1]; rfl
            go_wp2
            go_ret
            exact ⟨ret_bool (by rw [HZ.out]; rfl), HBE.out⟩
end Go.Proofs.YtpboencfnjmmbaaGreatDoor
