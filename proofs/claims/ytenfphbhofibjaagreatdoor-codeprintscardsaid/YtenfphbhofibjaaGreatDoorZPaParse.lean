/-
 The program's Parse: what it answers of any text that is not too long: the statements that the grammar reads, or where the text goes wrong, and why; a fault that the parser panics with is recovered.
 Conditions: what the parser's module promises (hmod); the text has at most 8192 bytes; the library's ErrRange as it is laid.
-/
import Derived.Test.YtenfphbhofibjaaGreatDoorZPbJ
import Derived.Test.YtenfphbhofibjaaGreatDoorZPbC
import Derived.Test.YtenfphbhofibjaaGreatDoorZLx6
set_option maxRecDepth 100000
set_option maxHeartbeats 4000000
set_option linter.unusedVariables false
namespace Go.Proofs.YtenfphbhofibjaaGreatDoor
open Go.RowKit LM TM PM
def PAns (w : World) (s : ByteArray) (en : Ending) (w' : World) : Prop :=
 Below w.heap.size w w' ∧
 match lexR 0 s.data.toList with
 | .bad a r => en = .returned (.tuple #[.slice none 0 0, .int .i64 (a : Int), .int .i64 (if r then 6 else 1)])
 | .toks ts =>
  match moduleG ts with
  | .ok l _ => ∃ v, en = .returned (.tuple #[v, .int .i64 0, .int .i64 0]) ∧ Lie (RS v l) w.heap.size w'.heap.size w'
  | .bad a e => en = .returned (.tuple #[.slice none 0 0, .int .i64 (a : Int), .int .i64 (e : Int)])
theorem earlyP {w W1 : World} {x0 x1 x2 u v : Value} {t0 t1 t2 : TypeId} {Q : World → Prop} (h0 : W1.heap[w.heap.size]? = some (.cells #[x0] t0 (0, 0))) (h1 : W1.heap[w.heap.size + 1]? = some (.cells #[x1] t1 (0, 0))) (h2 : W1.heap[w.heap.size + 1 + 1]? = some (.cells #[x2] t2 (0, 0))) (hb : Below w.heap.size w W1)
 (hQ : ∀ W, Below w.heap.size w W → W.cell? ⟨w.heap.size, 0, none⟩ = some (.slice none 0 0) → W.cell? ⟨w.heap.size + 1, 0, none⟩ = some u → W.cell? ⟨w.heap.size + 1 + 1, 0, none⟩ = some v → Q W) :
 Q (((((W1.setCell ⟨w.heap.size + 1, 0, none⟩ u).setCell ⟨w.heap.size + 1 + 1, 0, none⟩ v).setCell ⟨w.heap.size, 0, none⟩ (.slice none 0 0)).setCell ⟨w.heap.size + 1, 0, none⟩ u).setCell ⟨w.heap.size + 1 + 1, 0, none⟩ v).drew := by
 have ho : ∀ (W : World) (k b : Nat) (x : Value), k ≠ b → (W.setCell ⟨b, 0, none⟩ x).heap[k]? = W.heap[k]? := fun W k b x hk => Below.heap_setCell _ _ _ _ hk
 have g : w.grownBy (((((W1.setCell ⟨w.heap.size + 1, 0, none⟩ u).setCell ⟨w.heap.size + 1 + 1, 0, none⟩ v).setCell ⟨w.heap.size, 0, none⟩ (.slice none 0 0)).setCell ⟨w.heap.size + 1, 0, none⟩ u).setCell ⟨w.heap.size + 1 + 1, 0, none⟩ v) none := gr_new (gr_new (gr_new (gr_new (gr_new ⟨hb.os, hb.tape, hb.output, hb.size, fun k hk _ => hb.block k hk⟩ (by omega) _ _) (by omega) _ _) (Nat.le_refl _) _ _) (by omega) _ _) (by omega) _ _
 have k0 : (((((W1.setCell ⟨w.heap.size + 1, 0, none⟩ u).setCell ⟨w.heap.size + 1 + 1, 0, none⟩ v).setCell ⟨w.heap.size, 0, none⟩ (.slice none 0 0)).setCell ⟨w.heap.size + 1, 0, none⟩ u).setCell ⟨w.heap.size + 1 + 1, 0, none⟩ v).heap[w.heap.size]? = some (.cells #[.slice none 0 0] t0 (0, 0)) := by
  rw [ho _ _ _ _ (by omega), ho _ _ _ _ (by omega)]
  exact blk_set ((ho _ _ _ _ (by omega)).trans ((ho _ _ _ _ (by omega)).trans h0))
 have k1 : (((((W1.setCell ⟨w.heap.size + 1, 0, none⟩ u).setCell ⟨w.heap.size + 1 + 1, 0, none⟩ v).setCell ⟨w.heap.size, 0, none⟩ (.slice none 0 0)).setCell ⟨w.heap.size + 1, 0, none⟩ u).setCell ⟨w.heap.size + 1 + 1, 0, none⟩ v).heap[w.heap.size + 1]? = some (.cells #[u] t1 (0, 0)) := by
  rw [ho _ _ _ _ (by omega)]
  exact blk_set ((ho _ _ _ _ (by omega)).trans ((ho _ _ _ _ (by omega)).trans (blk_set h1)))
 have k2 : (((((W1.setCell ⟨w.heap.size + 1, 0, none⟩ u).setCell ⟨w.heap.size + 1 + 1, 0, none⟩ v).setCell ⟨w.heap.size, 0, none⟩ (.slice none 0 0)).setCell ⟨w.heap.size + 1, 0, none⟩ u).setCell ⟨w.heap.size + 1 + 1, 0, none⟩ v).heap[w.heap.size + 1 + 1]? = some (.cells #[v] t2 (0, 0)) :=
  blk_set ((ho _ _ _ _ (by omega)).trans ((ho _ _ _ _ (by omega)).trans (blk_set ((ho _ _ _ _ (by omega)).trans h2))))
 obtain ⟨X, hX⟩ : ∃ X, ((((W1.setCell ⟨w.heap.size + 1, 0, none⟩ u).setCell ⟨w.heap.size + 1 + 1, 0, none⟩ v).setCell ⟨w.heap.size, 0, none⟩ (.slice none 0 0)).setCell ⟨w.heap.size + 1, 0, none⟩ u).setCell ⟨w.heap.size + 1 + 1, 0, none⟩ v = X := ⟨_, rfl⟩
 rw [hX] at g k0 k1 k2 ⊢
 clear hX ho
 exact hQ _ ⟨g.os, g.tape, g.output, g.size, fun k hk => g.block k hk (by simp)⟩ (by show X.cell? _ = _; simp [World.cell?, k0]) (by show X.cell? _ = _; simp [World.cell?, k1]) (by show X.cell? _ = _; simp [World.cell?, k2])
theorem caught_is {w W : World} {x0 x1 x2 : Value} {t0 t1 t2 : TypeId} {a e : Nat} (h0 : W.heap[w.heap.size]? = some (.cells #[x0] t0 (0, 0))) (h1 : W.heap[w.heap.size + 1]? = some (.cells #[x1] t1 (0, 0))) (h2 : W.heap[w.heap.size + 1 + 1]? = some (.cells #[x2] t2 (0, 0))) (hb : Below w.heap.size w W) :
 (caught W w.heap.size (w.heap.size + 1) (w.heap.size + 1 + 1) a e).cell? ⟨w.heap.size, 0, none⟩ = some (.slice none 0 0) ∧ (caught W w.heap.size (w.heap.size + 1) (w.heap.size + 1 + 1) a e).cell? ⟨w.heap.size + 1, 0, none⟩ = some (.int .i64 (a : Int)) ∧ (caught W w.heap.size (w.heap.size + 1) (w.heap.size + 1 + 1) a e).cell? ⟨w.heap.size + 1 + 1, 0, none⟩ = some (.int .i64 (e : Int)) ∧ Below w.heap.size w (caught W w.heap.size (w.heap.size + 1) (w.heap.size + 1 + 1) a e) := by
 have ho : ∀ (W : World) (k b : Nat) (x : Value), k ≠ b → (W.setCell ⟨b, 0, none⟩ x).heap[k]? = W.heap[k]? := fun W k b x hk => Below.heap_setCell _ _ _ _ hk
 have l0 := lt_of_block h0
 have l1 := lt_of_block h1
 have l2 := lt_of_block h2
 have g : w.grownBy (((W.setCell ⟨w.heap.size, 0, none⟩ (.slice none 0 0)).setCell ⟨w.heap.size + 1, 0, none⟩ (.int .i64 (a : Int))).setCell ⟨w.heap.size + 1 + 1, 0, none⟩ (.int .i64 (e : Int))) none := gr_new (gr_new (gr_new ⟨hb.os, hb.tape, hb.output, hb.size, fun k hk _ => hb.block k hk⟩ (Nat.le_refl _) _ _) (by omega) _ _) (by omega) _ _
 have k0 : (((W.setCell ⟨w.heap.size, 0, none⟩ (.slice none 0 0)).setCell ⟨w.heap.size + 1, 0, none⟩ (.int .i64 (a : Int))).setCell ⟨w.heap.size + 1 + 1, 0, none⟩ (.int .i64 (e : Int))).heap[w.heap.size]? = some (.cells #[.slice none 0 0] t0 (0, 0)) := by
  rw [ho _ _ _ _ (by omega), ho _ _ _ _ (by omega)]
  exact blk_set h0
 have k1 : (((W.setCell ⟨w.heap.size, 0, none⟩ (.slice none 0 0)).setCell ⟨w.heap.size + 1, 0, none⟩ (.int .i64 (a : Int))).setCell ⟨w.heap.size + 1 + 1, 0, none⟩ (.int .i64 (e : Int))).heap[w.heap.size + 1]? = some (.cells #[.int .i64 (a : Int)] t1 (0, 0)) := by
  rw [ho _ _ _ _ (by omega)]
  exact blk_set ((ho _ _ _ _ (by omega)).trans h1)
 have k2 : (((W.setCell ⟨w.heap.size, 0, none⟩ (.slice none 0 0)).setCell ⟨w.heap.size + 1, 0, none⟩ (.int .i64 (a : Int))).setCell ⟨w.heap.size + 1 + 1, 0, none⟩ (.int .i64 (e : Int))).heap[w.heap.size + 1 + 1]? = some (.cells #[.int .i64 (e : Int)] t2 (0, 0)) := blk_set ((ho _ _ _ _ (by omega)).trans ((ho _ _ _ _ (by omega)).trans h2))
 unfold caught
 obtain ⟨X, hX⟩ : ∃ X, ((W.setCell ⟨w.heap.size, 0, none⟩ (.slice none 0 0)).setCell ⟨w.heap.size + 1, 0, none⟩ (.int .i64 (a : Int))).setCell ⟨w.heap.size + 1 + 1, 0, none⟩ (.int .i64 (e : Int)) = X := ⟨_, rfl⟩
 rw [hX] at g k0 k1 k2 ⊢
 clear hX ho
 have q0 := block_alloc k0 (.cells #[.int .i64 (a : Int), .int .i64 (e : Int)] 104)
 have q1 := block_alloc k1 (.cells #[.int .i64 (a : Int), .int .i64 (e : Int)] 104)
 have q2 := block_alloc k2 (.cells #[.int .i64 (a : Int), .int .i64 (e : Int)] 104)
 have ga := gr_alloc g (.cells #[.int .i64 (a : Int), .int .i64 (e : Int)] 104)
 obtain ⟨Y, hY⟩ : ∃ Y, X.alloc (.cells #[.int .i64 (a : Int), .int .i64 (e : Int)] 104) = Y := ⟨_, rfl⟩
 rw [hY] at q0 q1 q2 ga ⊢
 exact ⟨by show Y.cell? _ = _; simp [World.cell?, q0], by show Y.cell? _ = _; simp [World.cell?, q1], by show Y.cell? _ = _; simp [World.cell?, q2], ⟨ga.os, ga.tape, ga.output, ga.size, fun k hk => ga.block k hk (by simp)⟩⟩
theorem done_is {w W : World} {x0 x1 x2 : Value} {t0 t1 t2 : TypeId} (h0 : W.heap[w.heap.size]? = some (.cells #[x0] t0 (0, 0))) (h1 : W.heap[w.heap.size + 1]? = some (.cells #[x1] t1 (0, 0))) (h2 : W.heap[w.heap.size + 1 + 1]? = some (.cells #[x2] t2 (0, 0))) (hb : Below w.heap.size w W) (u0 u1 u2 : Value) :
 (((W.setCell ⟨w.heap.size, 0, none⟩ u0).setCell ⟨w.heap.size + 1, 0, none⟩ u1).setCell ⟨w.heap.size + 1 + 1, 0, none⟩ u2).cell? ⟨w.heap.size, 0, none⟩ = some u0 ∧ (((W.setCell ⟨w.heap.size, 0, none⟩ u0).setCell ⟨w.heap.size + 1, 0, none⟩ u1).setCell ⟨w.heap.size + 1 + 1, 0, none⟩ u2).cell? ⟨w.heap.size + 1, 0, none⟩ = some u1 ∧ (((W.setCell ⟨w.heap.size, 0, none⟩ u0).setCell ⟨w.heap.size + 1, 0, none⟩ u1).setCell ⟨w.heap.size + 1 + 1, 0, none⟩ u2).cell? ⟨w.heap.size + 1 + 1, 0, none⟩ = some u2 ∧ Below w.heap.size w (((W.setCell ⟨w.heap.size, 0, none⟩ u0).setCell ⟨w.heap.size + 1, 0, none⟩ u1).setCell ⟨w.heap.size + 1 + 1, 0, none⟩ u2) ∧ (∀ k, w.heap.size + 3 ≤ k → (((W.setCell ⟨w.heap.size, 0, none⟩ u0).setCell ⟨w.heap.size + 1, 0, none⟩ u1).setCell ⟨w.heap.size + 1 + 1, 0, none⟩ u2).heap[k]? = W.heap[k]?) ∧ (((W.setCell ⟨w.heap.size, 0, none⟩ u0).setCell ⟨w.heap.size + 1, 0, none⟩ u1).setCell ⟨w.heap.size + 1 + 1, 0, none⟩ u2).heap.size = W.heap.size := by
 have ho : ∀ (W : World) (k b : Nat) (x : Value), k ≠ b → (W.setCell ⟨b, 0, none⟩ x).heap[k]? = W.heap[k]? := fun W k b x hk => Below.heap_setCell _ _ _ _ hk
 have g : w.grownBy (((W.setCell ⟨w.heap.size, 0, none⟩ u0).setCell ⟨w.heap.size + 1, 0, none⟩ u1).setCell ⟨w.heap.size + 1 + 1, 0, none⟩ u2) none := gr_new (gr_new (gr_new ⟨hb.os, hb.tape, hb.output, hb.size, fun k hk _ => hb.block k hk⟩ (Nat.le_refl _) _ _) (by omega) _ _) (by omega) _ _
 have k0 : (((W.setCell ⟨w.heap.size, 0, none⟩ u0).setCell ⟨w.heap.size + 1, 0, none⟩ u1).setCell ⟨w.heap.size + 1 + 1, 0, none⟩ u2).heap[w.heap.size]? = some (.cells #[u0] t0 (0, 0)) := by
  rw [ho _ _ _ _ (by omega), ho _ _ _ _ (by omega)]
  exact blk_set h0
 have k1 : (((W.setCell ⟨w.heap.size, 0, none⟩ u0).setCell ⟨w.heap.size + 1, 0, none⟩ u1).setCell ⟨w.heap.size + 1 + 1, 0, none⟩ u2).heap[w.heap.size + 1]? = some (.cells #[u1] t1 (0, 0)) := by
  rw [ho _ _ _ _ (by omega)]
  exact blk_set ((ho _ _ _ _ (by omega)).trans h1)
 have k2 : (((W.setCell ⟨w.heap.size, 0, none⟩ u0).setCell ⟨w.heap.size + 1, 0, none⟩ u1).setCell ⟨w.heap.size + 1 + 1, 0, none⟩ u2).heap[w.heap.size + 1 + 1]? = some (.cells #[u2] t2 (0, 0)) := blk_set ((ho _ _ _ _ (by omega)).trans ((ho _ _ _ _ (by omega)).trans h2))
 have k3 : ∀ k, w.heap.size + 3 ≤ k → (((W.setCell ⟨w.heap.size, 0, none⟩ u0).setCell ⟨w.heap.size + 1, 0, none⟩ u1).setCell ⟨w.heap.size + 1 + 1, 0, none⟩ u2).heap[k]? = W.heap[k]? := fun k hk => by rw [ho _ _ _ _ (by omega), ho _ _ _ _ (by omega), ho _ _ _ _ (by omega)]
 have k4 : (((W.setCell ⟨w.heap.size, 0, none⟩ u0).setCell ⟨w.heap.size + 1, 0, none⟩ u1).setCell ⟨w.heap.size + 1 + 1, 0, none⟩ u2).heap.size = W.heap.size := by simp [World.setCell]
 obtain ⟨X, hX⟩ : ∃ X, ((W.setCell ⟨w.heap.size, 0, none⟩ u0).setCell ⟨w.heap.size + 1, 0, none⟩ u1).setCell ⟨w.heap.size + 1 + 1, 0, none⟩ u2 = X := ⟨_, rfl⟩
 rw [hX] at g k0 k1 k2 k3 k4 ⊢
 exact ⟨by simp [World.cell?, k0], by simp [World.cell?, k1], by simp [World.cell?, k2], ⟨g.os, g.tape, g.output, g.size, fun k hk => g.block k hk (by simp)⟩, k3, k4⟩
theorem three_blk {w W : World} {a b c : Obj} (hb : Below (((w.alloc a).alloc b).alloc c).heap.size (((w.alloc a).alloc b).alloc c) W) : W.heap[w.heap.size]? = some a ∧ W.heap[w.heap.size + 1]? = some b ∧ W.heap[w.heap.size + 1 + 1]? = some c ∧ Below w.heap.size w W ∧ w.heap.size + 3 ≤ W.heap.size := by
 have hs := hb.size
 simp only [World.size_alloc] at hs
 have e1 : w.heap.size + 1 = (w.alloc a).heap.size := by simp
 have e2 : w.heap.size + 1 + 1 = ((w.alloc a).alloc b).heap.size := by simp
 refine ⟨?_, ?_, ?_, ?_, by omega⟩
 ·rw [hb.block _ (by simp only [World.size_alloc]; omega), Below.heap_alloc _ _ _ (by simp only [World.size_alloc]; omega), Below.heap_alloc _ _ _ (by simp only [World.size_alloc]; omega)]
  exact heap_alloc_new _ _
 ·rw [hb.block _ (by simp only [World.size_alloc]; omega), Below.heap_alloc _ _ _ (by simp only [World.size_alloc]; omega), e1]
  exact heap_alloc_new _ _
 ·rw [hb.block _ (by simp only [World.size_alloc]; omega), e2]
  exact heap_alloc_new _ _
 ·exact (((((Below.refl w.heap.size w).alloc (Nat.le_refl _) a).alloc (by simp) b).alloc (by simp only [World.size_alloc]; omega) c)).trans ⟨hb.os, hb.tape, hb.output, hb.size, fun k hk => hb.block k (by simp only [World.size_alloc]; omega)⟩
theorem parse_any (hmod : ∀ (pb : Nat) (w : World) (ts : List Tok), PAt w pb ts 0 → GoodT ts → Calls Tryz.prog 63 #[.pointer (some ⟨pb, 0, none⟩)] w fun en w' => Ret (moduleG ts) w pb 0 (VLS w) en w') (s : ByteArray) (hs : s.size ≤ 8192) (w : World) (hL : Lv w) :
 Calls Tryz.prog 32 #[.string s] w fun en w' => PAns w s en w' := by
 have hmf : ∀ (fn : Fn) (first cap : Array Value) (w : World), (Instr.makeFunc fn first cap).run Tryz.prog w = .ok (.func fn first cap) w := fun _ _ _ _ => rfl
 have HMOD := Lib.hid hmod
 have HLV := Lib.hid hL
 clear hmod hL
 go_enter_defers Tryz.func32, Tryz.ntmps32
 go_wp2_with fail
 refine (split_sp s hs _ (HLV.out.below ((((Below.refl _ _).alloc (Nat.le_refl _) _).alloc (by simp) _).alloc (by simp; omega) _))).mono ?_
 rintro e W1 h
 cases hR : lexR 0 s.data.toList with
 | bad a r =>
  rw [hR] at h
  cases h with
  | bad _ _ hb =>
   obtain ⟨B0, B1, B2, hbw, hs3⟩ := three_blk hb
   have r0 : W1.cell? ⟨w.heap.size, 0, none⟩ = some (.slice none 0 0) := by simp [World.cell?, B0]
   have r1 : W1.cell? ⟨w.heap.size + 1, 0, none⟩ = some (.int .i64 0) := by simp [World.cell?, B1]
   have r2 : W1.cell? ⟨w.heap.size + 1 + 1, 0, none⟩ = some (.int .i64 0) := by simp [World.cell?, B2]
   have f0 : ∀ i, W1.frozen? ⟨w.heap.size, i, none⟩ = false := fun i => by simp [World.frozen?, B0]
   have f1 : ∀ i, W1.frozen? ⟨w.heap.size + 1, i, none⟩ = false := fun i => by simp [World.frozen?, B1]
   have f2 : ∀ i, W1.frozen? ⟨w.heap.size + 1 + 1, i, none⟩ = false := fun i => by simp [World.frozen?, B2]
   have HB0 := Lib.hid B0
   have HB1 := Lib.hid B1
   have HB2 := Lib.hid B2
   have HBW := Lib.hid hbw
   clear B0 B1 B2 hbw hb
   have hl0 : w.heap.size < W1.heap.size := by omega
   have hl1 : w.heap.size + 1 < W1.heap.size := by omega
   have hl2 : w.heap.size + 1 + 1 < W1.heap.size := by omega
   have HRR := Lib.hid hR
   clear hR
   cases r with
   | true =>
    simp only [if_true]
    go_wp2_with fail
    go_region
    all_goals go_wp2_with fail
    refine earlyP HB0.out HB1.out HB2.out HBW.out (fun W hb y0 y1 y2 => ?_)
    exact ⟨.tuple #[.slice none 0 0, .int .i64 (a : Int), .int .i64 6], by simp [results, Tryz.results32, go_sem, y0, y1, y2], hb, by rw [HRR.out]; rfl⟩
   | false =>
    simp only [Bool.false_eq_true, if_false]
    go_wp2_with fail
    go_region
    all_goals go_wp2_with fail
    refine earlyP HB0.out HB1.out HB2.out HBW.out (fun W hb y0 y1 y2 => ?_)
    exact ⟨.tuple #[.slice none 0 0, .int .i64 (a : Int), .int .i64 1], by simp [results, Tryz.results32, go_sem, y0, y1, y2], hb, by rw [HRR.out]; rfl⟩
 | toks l =>
  rw [hR] at h
  cases h with
  | toks _ g cap hl hc hm hg ht hb =>
   obtain ⟨B0, B1, B2, hbw, hs3⟩ := three_blk hb
   have r0 : W1.cell? ⟨w.heap.size, 0, none⟩ = some (.slice none 0 0) := by simp [World.cell?, B0]
   have r1 : W1.cell? ⟨w.heap.size + 1, 0, none⟩ = some (.int .i64 0) := by simp [World.cell?, B1]
   have r2 : W1.cell? ⟨w.heap.size + 1 + 1, 0, none⟩ = some (.int .i64 0) := by simp [World.cell?, B2]
   have f0 : ∀ i, W1.frozen? ⟨w.heap.size, i, none⟩ = false := fun i => by simp [World.frozen?, B0]
   have f1 : ∀ i, W1.frozen? ⟨w.heap.size + 1, i, none⟩ = false := fun i => by simp [World.frozen?, B1]
   have f2 : ∀ i, W1.frozen? ⟨w.heap.size + 1 + 1, i, none⟩ = false := fun i => by simp [World.frozen?, B2]
   have HB0 := Lib.hid B0
   have HB1 := Lib.hid B1
   have HB2 := Lib.hid B2
   have HBW := Lib.hid hbw
   clear B0 B1 B2 hbw hb
   have hl0 : w.heap.size < W1.heap.size := by omega
   have hl1 : w.heap.size + 1 < W1.heap.size := by omega
   have hl2 : w.heap.size + 1 + 1 < W1.heap.size := by omega
   obtain ⟨hG, hlen⟩ := lexR_good (by simpa using hs) hR
   have HG := Lib.hid hG
   have HT := Lib.hid ht
   have HRR := Lib.hid hR
   have HM := Lib.hid hm
   have hg3 : w.heap.size + 3 ≤ g := by simpa using hg
   clear hR hG ht hg hm
   go_wp2_with fail
   refine (signs_any _).mono ?_
   rintro en W2 ⟨b0, b1, b2, b3, rfl, m0, m1, m2, m3, hgs, hlt⟩
   have hk : ∀ k, k < W1.heap.size → k ≠ w.heap.size + 1 → k ≠ w.heap.size + 1 + 1 → W2.heap[k]? = W1.heap[k]? := fun k hk h1 h2 => (hgs.block k (by simp [World.setCell]; omega) (by simp)).trans ((Below.heap_setCell _ _ _ _ h2).trans (Below.heap_setCell _ _ _ _ h1))
   have hsz : W1.heap.size ≤ W2.heap.size := by have := hgs.size; simpa [World.setCell] using this
   have C0 : Hid (W2.heap[w.heap.size]? = some (.cells #[.slice none 0 0] 24 (0, 0))) := (hk _ (by omega) (by omega) (by omega)).trans HB0.out
   have C1 : Hid (W2.heap[w.heap.size + 1]? = some (.cells #[.int .i64 0] 3 (0, 0))) := (hgs.block _ (by simp [World.setCell]; omega) (by simp)).trans ((Below.heap_setCell _ _ _ _ (by show w.heap.size + 1 ≠ w.heap.size + 1 + 1; omega)).trans (blk_set HB1.out))
   have C2 : Hid (W2.heap[w.heap.size + 1 + 1]? = some (.cells #[.int .i64 0] 52 (0, 0))) := (hgs.block _ (by simp [World.setCell]; omega) (by simp)).trans (blk_set ((Below.heap_setCell _ _ _ _ (by show w.heap.size + 1 + 1 ≠ w.heap.size + 1; omega)).trans HB2.out))
   have hos : W2.os = W1.os := by rw [hgs.os, sd_os, sd_os]
   have htp : W2.tape = W1.tape := by rw [hgs.tape, sd_tape, sd_tape]
   have hou : W2.output = W1.output := by rw [hgs.output, sd_output, sd_output]
   have CB : Hid (Below w.heap.size w W2) := ⟨hos.trans HBW.out.os, htp.trans HBW.out.tape, hou.trans HBW.out.output, by omega, fun k hk2 => (hk k (by omega) (by omega) (by omega)).trans (HBW.out.block k hk2)⟩
   have hgl : g < W1.heap.size := HT.out.1
   have CT : Hid (ToksAt W2 g 0 l) := fun j t hj => by
    obtain ⟨q0, q1, q2, q3⟩ := HT.out.2 j t hj
    have hb := hk g hgl (by omega) (by omega)
    simp only [Nat.zero_add]
    exact ⟨(cell_kept hb).trans q0, (cell_kept hb).trans q1, (cell_kept hb).trans q2, (cell_kept hb).trans q3⟩
   have CM : Hid (SignMap W2 b0 0 ∧ SignMap W2 b1 1 ∧ SignMap W2 b2 2 ∧ SignMap W2 b3 3) := ⟨m0, m1, m2, m3⟩
   clear hk hgs m0 m1 m2 m3 hos htp hou r0 r1 r2 f0 f1 f2
   go_wp2_with fail
   refine (HMOD.out W2.heap.size _ l ⟨g, 0, cap, b0, b1, b2, b3, heap_alloc_new _ _, hc, HM.out, by omega, CT.out.kept (Below.heap_alloc _ _ _ (by omega)), ⟨CM.out.1.kept (Below.heap_alloc _ _ _ hlt.1), CM.out.2.1.kept (Below.heap_alloc _ _ _ hlt.2.1), CM.out.2.2.1.kept (Below.heap_alloc _ _ _ hlt.2.2.1), CM.out.2.2.2.kept (Below.heap_alloc _ _ _ hlt.2.2.2)⟩, hlt, by omega⟩ HG.out).mono ?_
   rintro en W3 hR
   cases hx : moduleG l with
   | bad a e =>
    rw [hx] at hR
    obtain ⟨rfl, hb3⟩ := hR
    have k3 : ∀ k, k < W2.heap.size → W3.heap[k]? = W2.heap[k]? := fun k hk => (hb3.block k hk).trans (Below.heap_alloc _ _ _ hk)
    have hs3' : W2.heap.size + 1 ≤ W3.heap.size := by have := hb3.size; simpa using this
    have hos3 : W3.os = W2.os := hb3.os
    have htp3 : W3.tape = W2.tape := hb3.tape
    have hou3 : W3.output = W2.output := hb3.output
    have D0 : Hid (W3.heap[w.heap.size]? = some (.cells #[.slice none 0 0] 24 (0, 0))) := (k3 _ (by omega)).trans C0.out
    have D1 : Hid (W3.heap[w.heap.size + 1]? = some (.cells #[.int .i64 0] 3 (0, 0))) := (k3 _ (by omega)).trans C1.out
    have D2 : Hid (W3.heap[w.heap.size + 1 + 1]? = some (.cells #[.int .i64 0] 52 (0, 0))) := (k3 _ (by omega)).trans C2.out
    have DB : Hid (Below w.heap.size w W3) := ⟨hos3.trans CB.out.os, htp3.trans CB.out.tape, hou3.trans CB.out.output, by omega, fun k hk => (k3 k (by omega)).trans (CB.out.block k hk)⟩
    refine leaves_cons (f := 61) (args := #[.pointer (some ⟨w.heap.size, 0, none⟩), .pointer (some ⟨w.heap.size + 1, 0, none⟩), .pointer (some ⟨w.heap.size + 1 + 1, 0, none⟩)]) (by simp) (by simp [go_sem]) ?_
    refine (pc_panicking w.heap.size (w.heap.size + 1) (w.heap.size + 1 + 1) a e W3 [] D0.out D1.out D2.out (by omega) (by omega) (by omega)).mono ?_
    rintro e1 u' w'' ⟨rfl, rfl, hw⟩
    obtain ⟨y0, y1, y2, hbz⟩ := caught_is D0.out D1.out D2.out DB.out (a := a) (e := e)
    rw [← hw] at y0 y1 y2 hbz
    exact ⟨.tuple #[.slice none 0 0, .int .i64 (a : Int), .int .i64 (e : Int)], by simp [results, Tryz.results32, go_sem, y0, y1, y2], hbz, by rw [HRR.out]; show match moduleG l with | .ok l _ => _ | .bad a e => _; rw [hx]⟩
   | ok x ts' =>
    rw [hx] at hR
    obtain ⟨⟨v, rfl, hLv⟩, hP3, hg3'⟩ := hR
    obtain ⟨pa, pc, rfl, _⟩ := hLv.at'
    have k3 : ∀ k, k < W2.heap.size → W3.heap[k]? = W2.heap[k]? := fun k hk => (hg3'.block k (by simp; omega) (by simp; omega)).trans (Below.heap_alloc _ _ _ hk)
    have hs3' : W2.heap.size + 1 ≤ W3.heap.size := by have := hg3'.size; simpa using this
    have hos3 : W3.os = W2.os := hg3'.os
    have htp3 : W3.tape = W2.tape := hg3'.tape
    have hou3 : W3.output = W2.output := hg3'.output
    have D0 : W3.heap[w.heap.size]? = some (.cells #[.slice none 0 0] 24 (0, 0)) := (k3 _ (by omega)).trans C0.out
    have D1 : W3.heap[w.heap.size + 1]? = some (.cells #[.int .i64 0] 3 (0, 0)) := (k3 _ (by omega)).trans C1.out
    have D2 : W3.heap[w.heap.size + 1 + 1]? = some (.cells #[.int .i64 0] 52 (0, 0)) := (k3 _ (by omega)).trans C2.out
    have DB : Hid (Below w.heap.size w W3) := ⟨hos3.trans CB.out.os, htp3.trans CB.out.tape, hou3.trans CB.out.output, by omega, fun k hk => (k3 k (by omega)).trans (CB.out.block k hk)⟩
    have r0 : W3.cell? ⟨w.heap.size, 0, none⟩ = some (.slice none 0 0) := by simp [World.cell?, D0]
    have r1 : W3.cell? ⟨w.heap.size + 1, 0, none⟩ = some (.int .i64 0) := by simp [World.cell?, D1]
    have r2 : W3.cell? ⟨w.heap.size + 1 + 1, 0, none⟩ = some (.int .i64 0) := by simp [World.cell?, D2]
    have f0 : ∀ i, W3.frozen? ⟨w.heap.size, i, none⟩ = false := fun i => by simp [World.frozen?, D0]
    have f1 : ∀ i, W3.frozen? ⟨w.heap.size + 1, i, none⟩ = false := fun i => by simp [World.frozen?, D1]
    have f2 : ∀ i, W3.frozen? ⟨w.heap.size + 1 + 1, i, none⟩ = false := fun i => by simp [World.frozen?, D2]
    have E0 := Lib.hid D0
    have E1 := Lib.hid D1
    have E2 := Lib.hid D2
    have HLV3 := Lib.hid hLv
    have HX := Lib.hid hx
    clear k3 D0 D1 D2 hLv hP3 hg3' hos3 htp3 hou3 hx
    go_wp2_with fail
    refine leaves_cons (f := 61) (args := #[.pointer (some ⟨w.heap.size, 0, none⟩), .pointer (some ⟨w.heap.size + 1, 0, none⟩), .pointer (some ⟨w.heap.size + 1 + 1, 0, none⟩)]) (by simp) (by simp [go_sem]) ?_
    refine (pc_idle w.heap.size (w.heap.size + 1) (w.heap.size + 1 + 1) _).mono ?_
    rintro e1 u' w'' ⟨rfl, rfl, hw⟩
    obtain ⟨y0, y1, y2, hbz, hoz, hzz⟩ := done_is E0.out E1.out E2.out DB.out (.slice pa x.length pc) (.int .i64 0) (.int .i64 0)
    rw [← hw] at y0 y1 y2 hbz hoz hzz
    have hlie : Lie (RS (.slice pa x.length pc) x) w.heap.size w''.heap.size w'' := by
     have h9 := HLV3.out.keep (w' := w'') (by omega) (fun k h1 h2 => hoz k (by simp only [World.size_alloc] at h1; omega))
     exact h9.wider (by simp only [World.size_alloc]; omega) (by omega) (Nat.le_refl _)
    exact ⟨.tuple #[.slice pa x.length pc, .int .i64 0, .int .i64 0], by simp [results, Tryz.results32, go_sem, y0, y1, y2], hbz, by rw [HRR.out]; show match moduleG l with | .ok l _ => _ | .bad a e => _; rw [HX.out]; exact ⟨_, rfl, hlie⟩⟩
end Go.Proofs.YtenfphbhofibjaaGreatDoor
