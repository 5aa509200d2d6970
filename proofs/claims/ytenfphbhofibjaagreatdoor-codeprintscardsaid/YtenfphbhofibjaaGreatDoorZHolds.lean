/-
 arena.Holds: the Refs that an object names, its fields' in the order of their keys; nothing that was there is turned.
 Conditions: as the theorem says (numbers far below the kinds' ends).
-/
import Derived.Test.YtenfphbhofibjaaGreatDoorZJVb
import Derived.Test.YtenfphbhofibjaaGreatDoorZArena
import Derived.Test.YtenfphbhofibjaaGreatDoorZLaw
set_option maxRecDepth 100000
set_option maxHeartbeats 2000000
set_option linter.unusedVariables false
namespace Go.Proofs.YtenfphbhofibjaaGreatDoor
open Go.ChangeShapes Go.WideShapes Go.ChangeAt Go.RowKit Go.Maps Go.Sort Go.Shelf Go.Lib
def namesOf (m : List (Vl × Vl)) (held : List Vl) (br : Int) (c : Vl) (ta : Int) : List Int :=
 (sortK (m.map Prod.fst)).map (fun k => refOf (lookV m k)) ++ held.map refOf ++ [br, refOf c, ta]
theorem ob_cells {w : World} {b : Nat} {o : Ob} (h : w.heap[b]? = some (.cells o.cells 178 (0, 0))) : w.cell? ⟨b, 3, none⟩ = some (.map o.fm) ∧ w.cell? ⟨b, 6, none⟩ = some o.hd ∧ w.cell? ⟨b, 7, none⟩ = some (.int .u64 o.br) ∧ w.cell? ⟨b, 8, none⟩ = some (.int .u8 o.ck) ∧ w.cell? ⟨b, 9, none⟩ = some (.int .i64 o.cn) ∧ w.cell? ⟨b, 10, none⟩ = some (.string o.cs) ∧ w.cell? ⟨b, 12, none⟩ = some (.int .u64 o.ta) := by
 refine ⟨?_, ?_, ?_, ?_, ?_, ?_, ?_⟩ <;> (rw [cell_of_row _ _ _ _ _ _ h]; rfl)
theorem entersRef (args : Array Value) (w : World) : (callFunc 164 args).run Tryz.prog w = .ok (.enter 164 args) w := by kernel_rfl
def refRow (zs : List Int) : List Value := zs.map (Value.int .u64)
theorem refs_one (zs : List Int) (x : Int) : refRow zs ++ [.int .u64 x] = refRow (zs ++ [x]) := by simp [refRow]
theorem refs_three (zs : List Int) (x y z : Int) : refRow zs ++ [.int .u64 x, .int .u64 y, .int .u64 z] = refRow (zs ++ [x, y, z]) := by simp [refRow]
def firsts (l : List Vl) (f : Vl → Int) (k : Nat) : List Int := (l.take k).map f
theorem firsts_succ {l : List Vl} {f : Vl → Int} {k : Nat} {x : Vl} (h : l[k]? = some x) : firsts l f (k + 1) = firsts l f k ++ [f x] := by
 unfold firsts
 rw [List.take_add_one, h]; simp
theorem firsts_all (l : List Vl) (f : Vl → Int) (k : Nat) (h : l.length ≤ k) : firsts l f k = l.map f := by rw [firsts, List.take_of_length_le h]
def nameAt (m : List (Vl × Vl)) (x : Vl) : Int := refOf (lookV m x)
theorem held_step {base k n : Nat} {w wr w7 : World} {A B C : Obj} {u v : Value} {xs ys : List Value} (h1 : wr.ownsRow base 157 1 u k xs) (h2 : wr.ownsRow base 176 3 v n ys) (hb : Below base w wr) (hg : (((wr.alloc A).alloc B).alloc C).drew.grownBy w7 u.ownBlock) (hbs : base ≤ wr.heap.size := by omega) :
 w7.ownsRow base 176 3 v n ys ∧ Below base w w7 := by
 refine ⟨(((h2.alloc A).alloc B).alloc C).drew.kept hg (own_own h2 h1 (by decide)), ?_⟩
 have b3 := ((hb.alloc hbs A).alloc (by simp; omega) B).alloc (by simp; omega) C
 exact (⟨b3.os, b3.tape, b3.output, b3.size, b3.block⟩ : Below base w (((wr.alloc A).alloc B).alloc C).drew).grown hg (by simp; omega) (fun j e => (h1.lt j e).1)
theorem row_kept {b2 e size n : Nat} {w w' : World} {v : Value} {xs : List Value} (h : w.ownsRow b2 e size v n xs) (hk : ∀ k, k < w.heap.size → w'.heap[k]? = w.heap[k]?) : w'.ownsRow b2 e size v n xs := by
 refine ⟨h.1, ?_⟩
 rcases h.2 with h0 | ⟨g, cap, cur, rfl, hb, hg, r⟩
 ·exact .inl h0
 ·exact .inr ⟨g, cap, cur, rfl, hb, (hk g (lt_of_block hg)).trans hg, r⟩
theorem held_step2 {base k : Nat} {w wr w7 : World} {A B C : Obj} {u : Value} {xs : List Value} (h1 : wr.ownsRow base 157 1 u k xs) (hb : Below base w wr) (hg : (((wr.alloc A).alloc B).alloc C).grownBy w7 u.ownBlock) (hbs : base ≤ wr.heap.size := by omega) :
 Below base w w7 :=
 (((hb.alloc hbs A).alloc (by simp; omega) B).alloc (by simp; omega) C).grown hg (by simp; omega) (fun j e => (h1.lt j e).1)
theorem held_step3 {base k : Nat} {w wr w7 : World} {A B : Obj} {u : Value} {xs : List Value} (h1 : wr.ownsRow base 157 1 u k xs) (hb : Below base w wr) (hg : ((wr.alloc A).alloc B).drew.grownBy w7 u.ownBlock) (hbs : base ≤ wr.heap.size := by omega) :
 Below base w w7 := by
 have b3 := (hb.alloc hbs A).alloc (by simp; omega) B
 exact (⟨b3.os, b3.tape, b3.output, b3.size, b3.block⟩ : Below base w ((wr.alloc A).alloc B).drew).grown hg (by simp; omega) (fun j e => (h1.lt j e).1)
theorem names_row {w : World} {base : Nat} {v : Value} {m : List (Vl × Vl)} {held : List Vl} {br ta : Int} {c : Vl} {K : List Vl} {Z : List Int} (hZ : Z = K.map (nameAt m)) (hl : Z.length = m.length) (hK : K = sortK (m.map Prod.fst)) (ho : w.ownsRow base 157 1 v (m.length + held.length + 3) (refRow (Z ++ held.map refOf) ++ [.int .u64 br, .int .u64 (refOf c), .int .u64 ta])) :
 w.ownsRow base 157 1 v (namesOf m held br c ta).length ((namesOf m held br c ta).map (Value.int .u64)) ∧ namesOf m held br c ta ≠ [] ∧ (namesOf m held br c ta).length = m.length + held.length + 3 := by
 rw [refs_three, hZ, hK] at ho
 have hl2 : (namesOf m held br c ta).length = m.length + held.length + 3 := by simp [namesOf, sortK_length]; omega
 refine ⟨?_, by simp [namesOf], hl2⟩
 rw [hl2]
 exact ho
theorem holds_any {b2 b : Nat} {w : World} {o : Ob} {m : List (Vl × Vl)} {held : List Vl} (hO : w.heap[b]? = some (.cells o.cells 178 (0, 0))) (hm : FldsO w o.fm m) (hh : w.ownsRow b2 176 3 o.hd held.length (flat held))
 (hl1 : m.length ≤ 100000) (hl2 : held.length ≤ 100000) :
 Calls Tryz.prog 128 #[.pointer (some ⟨b, 0, none⟩)] w fun e w' => ∃ v, e = .returned v ∧ w'.ownsRow w.heap.size 157 1 v ((namesOf m held o.br ⟨o.ck, o.cn, o.cs⟩ o.ta).filter fun x => !(x == 0)).length (((namesOf m held o.br ⟨o.ck, o.cn, o.cs⟩ o.ta).filter fun x => !(x == 0)).map (Value.int .u64)) ∧ Below w.heap.size w w' := by
 have hbl := lt_of_block hO
 obtain ⟨x3, x6, x7, x8, x9, x10, x12⟩ := ob_cells hO
 have hob : ∀ w', Below w.heap.size w w' → w'.heap[b]? = some (.cells o.cells 178 (0, 0)) := fun w' h => (h.block b hbl).trans hO
 have hmb : ∀ w', Below w.heap.size w w' → FldsO w' o.fm m := fun w' h => hm.kept fun c hc => by
  rcases hm with ⟨h1, _⟩ | ⟨c', h1, h2⟩
  ·rw [h1] at hc; cases hc
  ·rw [h1] at hc; cases hc; exact h.block c h2.lt
 have HOB : Hid (∀ w', Below w.heap.size w w' → w'.heap[b]? = some (.cells o.cells 178 (0, 0))) := hob
 have HMB : Hid (∀ w', Below w.heap.size w w' → FldsO w' o.fm m) := hmb
 have HH : Hid (w.ownsRow b2 176 3 o.hd held.length (flat held)) := hh
 obtain ⟨K, hK⟩ : ∃ K, K = sortK (m.map Prod.fst) := ⟨_, rfl⟩
 have hKl : K.length = m.length := by rw [hK, sortK_length]; simp
 have HKK : Hid (K = sortK (m.map Prod.fst)) := hK
 clear hob hmb hm hh hO hK
 go_enter Tryz.func128, Tryz.ntmps128
 go_wp2_with fail
 refine (keys_call _ _).mono ?_
 rintro e w1 ⟨rfl, hw1⟩
 have hb1 : Below w.heap.size w w1 := by rw [hw1]; exact (Below.refl _ _).alloc (Nat.le_refl _) _
 have hc1 : w1.cell? ⟨w.heap.size, 0, none⟩ = some (.map o.fm) := by rw [hw1]; simp
 have hs1 : w1.heap.size = w.heap.size + 1 := by rw [hw1]; simp
 clear hw1
 go_wp2_with fail
 refine (sorted_call (HMB.out _ hb1) (by omega) (by omega) hc1).mono ?_
 rintro e w2 ⟨kv, rfl, hk2, hb2⟩
 have hb2 : Below w.heap.size w w2 := hb1.trans (hb2.mono (by omega))
 rw [← HKK.out] at hk2
 have hk2 : w2.ownsRow w.heap.size 176 3 kv m.length (flat K) := ownsRow_base_a hk2 (by omega)
 obtain ⟨ak, ck, rfl, hck1, hck2⟩ := row_shape hk2
 unfold maxLen at hck2
 clear hc1 hs1 hb1
 go_wp2_with fail
 go_loopw [17, 3] (fun i nm wr => ∃ k : Nat, k ≤ m.length ∧ i = .int .i64 k ∧ wr.ownsRow w.heap.size 157 1 nm k (refRow (firsts K (nameAt m) k)) ∧ wr.ownsRow w.heap.size 176 3 (.slice ak m.length ck) m.length (flat K) ∧ Below w.heap.size w wr)
  (fun i _ _ => m.length - (intOf i).toNat)
 case atStart => exact ⟨0, Nat.zero_le _, rfl, World.ownsRow_nil _ _ _ _, hk2, hb2⟩
 case round =>
  clear hk2 hb2
  obtain ⟨k, hk, rfl, hn, hkr, hbr⟩ := hrel
  by_cases hlt : k < m.length
  ·obtain ⟨x, hx⟩ : ∃ x, K[k]? = some x := ⟨_, List.getElem?_eq_getElem (by omega)⟩
   obtain ⟨g, cap, cur, hsl, hc1, hc2, hgb, hgg⟩ := row_at hkr (by omega)
   cases hsl
   have f0 := (hkr.cellAt (k * 3) (by omega)).trans (flat_get hx).1
   have f1 := (hkr.cellAt (k * 3 + 1) (by omega)).trans (flat_get hx).2.1
   have f2 := (hkr.cellAt (k * 3 + 2) (by omega)).trans (flat_get hx).2.2
   have hob := HOB.out _ hbr
   have hbw : b < wr.heap.size := lt_of_block hob
   have y3 := (ob_cells hob).1
   have hxw : x ∈ m.map Prod.fst := by
    have := List.mem_of_getElem? hx
    rw [HKK.out] at this
    exact (List.mergeSort_perm _ _).mem_iff.1 this
   obtain ⟨c, hfm, hfl⟩ : ∃ c, o.fm = some c ∧ Flds wr c m := by
    rcases HMB.out _ hbr with ⟨_, h2⟩ | h2
    ·rw [h2] at hlt; simp at hlt
    ·exact h2
   rw [hfm] at y3
   obtain ⟨D, hD⟩ := hfl
   have hwf : x.wf := by obtain ⟨p, hp, rfl⟩ := List.mem_map.1 hxw; exact hD.wf p hp
   have hlk : ∀ o, (Instr.lookup 173 (.map (some c)) (.agg #[.int .u8 x.k, .int .i64 x.n, .string x.s]) false).run Tryz.prog (wr.alloc o).drew = .ok (.agg #[.int .u8 (lookV m x).k, .int .i64 (lookV m x).n, .string (lookV m x).s]) (wr.alloc o).drew := fun o => (hD.kept (w' := (wr.alloc o).drew) (Below.heap_alloc _ _ _ hD.own.lt)).look hwf
   have hidx : 0 ≤ (k : Int) ∧ (k : Int) < (m.length : Int) := ⟨by omega, by omega⟩
   have HT : Hid (firsts K (nameAt m) (k + 1) = firsts K (nameAt m) k ++ [refOf (lookV m x)]) := firsts_succ hx
   have HN : Hid (wr.ownsRow w.heap.size 157 1 _ k _) := hn
   have HKR : Hid (wr.ownsRow w.heap.size 176 3 (.slice (some ⟨g, 0, none⟩) m.length ck) m.length (flat K)) := hkr
   have hbs := hbr.size
   have yA : ∀ o, (wr.alloc o).cell? ⟨b, 3, none⟩ = some (.map (some c)) := fun o => (World.cell?_alloc_past _ _ _ hbw).trans y3
   generalize lookV m x = y at hlk HT
   obtain ⟨kx, nx, sx⟩ := x
   obtain ⟨ky, ny, sy⟩ := y
   simp only at f0 f1 f2 hlk HT
   obtain ⟨ti, hti, hz0, hz1, hz2⟩ := info_parts Tryz.info157
   clear hD hxw hx hob hkr hgg hn hwf hfm
   go_wp2_with fail
   go_region_law (first
    | (refine step_append_own rfl (.tmp 21) (.tmp 29) 143 rfl w.heap.size 157 ti (.int .u64 0) 1 8 Tryz.underlying143 hti hz0 hz1 hz2 rfl (by decide) u3 k _ (by simp [Act.eval]) (by exact (((HN.out.alloc _).drew).alloc _).alloc _) ⟨wr.heap.size + 1 + 1, 0, none⟩ 1 1 [.int .u64 (refOf ⟨ky, ny, sy⟩)] (by simp [Act.eval]) rfl (by exact fun j u hj => by have := one_news (w := (wr.alloc (.cells #[.int .u8 kx, .int .i64 nx, .string sx] 176)).alloc (.cells #[.int .u8 ky, .int .i64 ny, .string sy] 176)) (t := 157) j u hj; simpa using this) (by intro u hu; simp at hu; subst hu; rfl) (by unfold maxLen; omega) (by omega) (by simp; omega) ?_; intro v' w7 hown' hgrow)
    | (refine step_call1R rfl (.tmp 27) 164 176 rfl (.agg #[.int .u8 ky, .int .i64 ny, .string sy]) _ (by simp [Act.eval]) entersRef (ref_any ky ny sy _) ?_; rintro w8 rfl))
   all_goals
    obtain ⟨g1, g2⟩ := held_step HN.out HKR.out hbr hgrow
    rw [refs_one, ← HT.out] at hown'
    clear hgrow HN HKR hbr
    go_wp2_with fail
    go_roundw
    case rel => exact ⟨k + 1, by omega, by go_num, hown', g1, g2⟩
    case measure => simp [intOf]; omega
  ·obtain rfl : k = m.length := by omega
   clear hlt hkr hk
   have hob := HOB.out _ hbr
   obtain ⟨y3, y6, y7, y8, y9, y10, y12⟩ := ob_cells hob
   have hbw : b < wr.heap.size := lt_of_block hob
   rw [firsts_all _ _ _ (by omega)] at hn
   obtain ⟨Z, hZ⟩ : ∃ Z, Z = K.map (nameAt m) := ⟨_, rfl⟩
   have HZl : Hid (Z.length = m.length) := by show _ = _; rw [hZ]; simp [hKl]
   rw [← hZ] at hn
   obtain ⟨W0, hW0⟩ : ∃ W0, W0 = wr := ⟨_, rfl⟩
   subst hW0
   have hhd : W0.ownsRow b2 176 3 o.hd held.length (flat held) := row_kept HH.out (fun k hk => hbr.block k hk)
   obtain ⟨ah, ch, hhv, hch1, hch2⟩ := row_shape hhd
   rw [hhv] at y6 hhd
   unfold maxLen at hch2
   have HZ : Hid (Z = K.map (nameAt m)) := hZ
   have hbs0 := hbr.size
   clear hZ
   go_wp2_with fail
   go_loopw [37, 3] (fun i nm wr => ∃ k : Nat, k ≤ held.length ∧ i = .int .i64 k ∧ wr.ownsRow w.heap.size 157 1 nm (m.length + k) (refRow (Z ++ firsts held refOf k)) ∧ Below w.heap.size w wr)
    (fun i _ _ => held.length - (intOf i).toNat)
   case atStart => exact ⟨0, Nat.zero_le _, rfl, by simpa [firsts] using hn, hbr⟩
   case round =>
    clear hn hbr hob y3 y6 y7 y8 y9 y10 y12 hbw
    obtain ⟨k, hk, rfl, hn, hbr⟩ := hrel
    have hhd2 : wr.ownsRow b2 176 3 (.slice ah held.length ch) held.length (flat held) := by rw [← hhv]; exact row_kept HH.out (fun k hk => hbr.block k hk)
    have hbs := hbr.size
    by_cases hlt : k < held.length
    ·obtain ⟨x, hx⟩ : ∃ x, held[k]? = some x := ⟨_, List.getElem?_eq_getElem (by omega)⟩
     obtain ⟨g, cap, cur, hsl, hc1, hc2, hgb, hgg⟩ := row_at hhd2 (by omega)
     cases hsl
     have f0 := (hhd2.cellAt (k * 3) (by omega)).trans (flat_get hx).1
     have f1 := (hhd2.cellAt (k * 3 + 1) (by omega)).trans (flat_get hx).2.1
     have f2 := (hhd2.cellAt (k * 3 + 2) (by omega)).trans (flat_get hx).2.2
     have hidx : 0 ≤ (k : Int) ∧ (k : Int) < (held.length : Int) := ⟨by omega, by omega⟩
     have HT : Hid (firsts held refOf (k + 1) = firsts held refOf k ++ [refOf x]) := firsts_succ hx
     obtain ⟨kx, nx, sx⟩ := x
     simp only at f0 f1 f2
     obtain ⟨ti, hti, hz0, hz1, hz2⟩ := info_parts Tryz.info157
     clear hx hgg hhd2 hhd
     go_wp2_with fail
     refine (ref_any kx nx sx _).mono ?_
     rintro e w8 ⟨rfl, rfl⟩
     go_wp2_with (at_builtin; refine wpList_append_own _ rfl (.tmp 41) (.tmp 44) 143 rfl w.heap.size 157 ti _ 1 8 Tryz.underlying143 hti hz0 hz1 hz2 rfl (by decide) u3 (m.length + k) _ rfl (((hn.alloc _).alloc _).alloc _) ⟨wr.heap.size + 1 + 1, 0, none⟩ 1 1 [.int .u64 (refOf ⟨kx, nx, sx⟩)] rfl rfl (fun j u hj => by have := one_news (w := (wr.alloc (.cells #[.int .u8 kx, .int .i64 nx, .string sx] 176)).alloc (.cells #[.int .u8 kx, .int .i64 nx, .string sx] 176)) (t := 157) j u hj; simpa using this) (by intro u hu; simp at hu; subst hu; rfl) (by unfold maxLen; omega) (by omega) (by simp; omega) ?_)
     intro v' w7 hown' hgrow _
     have g2 := held_step2 hn hbr hgrow
     rw [refs_one, List.append_assoc, ← HT.out] at hown'
     clear hgrow hn hbr
     go_wp2_with fail
     go_roundw
     case rel => exact ⟨k + 1, by omega, by go_num, hown', g2⟩
     case measure => simp [intOf]; omega
    ·obtain rfl : k = held.length := by omega
     clear hlt hk hhd2 hhd
     have hob := HOB.out _ hbr
     obtain ⟨y3, y6, y7, y8, y9, y10, y12⟩ := ob_cells hob
     have hbw : b < wr.heap.size := lt_of_block hob
     rw [firsts_all _ _ _ (Nat.le_refl _)] at hn
     obtain ⟨ti, hti, hz0, hz1, hz2⟩ := info_parts Tryz.info157
     have yA : ∀ ob j, (wr.alloc ob).cell? ⟨b, j, none⟩ = wr.cell? ⟨b, j, none⟩ := fun ob j => World.cell?_alloc_past _ _ _ hbw
     clear hob y3 y6 hhv
     go_wp2_with fail
     go_region_law (first
      | (refine step_append_own rfl (.tmp 47) (.tmp 61) 143 rfl w.heap.size 157 ti (.int .u64 0) 1 8 Tryz.underlying143 hti hz0 hz1 hz2 rfl (by decide) u3 (m.length + held.length) _ (by simp [Act.eval]) (by exact ((hn.drew).alloc _).alloc _) ⟨wr.heap.size + 1, 0, none⟩ 3 3 [.int .u64 o.br, .int .u64 (refOf ⟨o.ck, o.cn, o.cs⟩), .int .u64 o.ta] (by simp [Act.eval]) rfl (by exact fun j u hj => by have := three_news (w := wr.alloc (.cells #[.int .u8 o.ck, .int .i64 o.cn, .string o.cs] 176)) (t := 157) j u hj; simpa using this) (by intro u hu; simp at hu; rcases hu with hu | hu | hu <;> (subst hu; rfl)) (by unfold maxLen; omega) (by omega) (by simp; omega) ?_; intro v' w7 hown' hgrow)
      | (refine step_call1R rfl (.tmp 55) 164 176 rfl (.agg #[.int .u8 o.ck, .int .i64 o.cn, .string o.cs]) _ (by simp [Act.eval]) entersRef (ref_any o.ck o.cn o.cs _) ?_; rintro w8 rfl))
     all_goals
      have g2 := held_step3 hn hbr hgrow
      obtain ⟨g3, g4, g5⟩ := names_row HZ.out HZl.out HKK.out hown'
      clear hgrow hn hbr hown'
      go_wp2_with fail
      refine (delNone g3 (by omega) g4).mono ?_
      rintro e w9 ⟨v9, rfl, h9, hg9⟩
      have b9 := g2.grown hg9 g2.size (fun j e => (g3.lt j e).1)
      clear hg9 g3
      go_wp2
      go_ret
      exact ⟨v9, rfl, h9, b9⟩
end Go.Proofs.YtenfphbhofibjaaGreatDoor
