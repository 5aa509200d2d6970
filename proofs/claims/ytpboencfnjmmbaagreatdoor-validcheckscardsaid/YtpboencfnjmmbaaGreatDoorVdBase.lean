/-
  Package valid: its functions as plain data, what lies in memory, and the small calls.
  Conditions: as each theorem says.
-/
import Derived.Test.YtpboencfnjmmbaaGreatDoorBase
import Derived.Test.YtpboencfnjmmbaaGreatDoorJRgn
import Derived.Test.YtpboencfnjmmbaaGreatDoorLaw
import Derived.Lib.Hide
import Derived.WalkMore
import Derived.OneCell
namespace Go.Proofs.YtpboencfnjmmbaaGreatDoor
open Go.RowKit
set_option linter.unusedVariables false
set_option linter.unusedSimpArgs false
def Z64 (n : Int) : Prop := -9223372036854775808 ≤ n ∧ n ≤ 9223372036854775807
/-- An instruction, a function as plain data. -/
structure VI where
  op : Nat
  a : Int
  b : Int
  c : Int
structure VF where
  p : Int
  h : List Int
  r : Int
  nc : Nat
  cd : List VI
def VI.ok (x : VI) : Prop := x.op < 256 ∧ Z64 x.a ∧ Z64 x.b ∧ Z64 x.c
def VI.v (x : VI) : Value := .agg #[.int .u8 (x.op : Int), .int .i64 x.a, .int .i64 x.b, .int .i64 x.c]
structure VF.ok (f : VF) : Prop where
  p : Z64 f.p
  r : Z64 f.r
  h : ∀ n ∈ f.h, Z64 n
  nc : f.nc ≤ maxLen
  hl : f.h.length ≤ 1000000
  cd : ∀ x ∈ f.cd, x.ok
theorem vcell {w w' : World} {g o : Nat} (h : w'.heap[g]? = w.heap[g]?) : w'.cell? ⟨g, o, none⟩ = w.cell? ⟨g, o, none⟩ := World.cell?_of_block (w := w) h
/-- A slice whose cells lie in a block that is there. -/
def VSl (w : World) (v : Value) (n : Nat) (A : Nat → Nat → Prop) : Prop := ∃ ad cap, v = .slice ad n cap ∧ n ≤ cap ∧ cap ≤ maxLen ∧ (0 < n → ∃ g o, ad = some ⟨g, o, none⟩ ∧ g < w.heap.size ∧ A g o)
theorem VSl.up {w w' : World} {v : Value} {n : Nat} {A B : Nat → Nat → Prop} (h : VSl w v n A) (hs : w.heap.size ≤ w'.heap.size) (hA : ∀ g o, g < w.heap.size → A g o → B g o) : VSl w' v n B := by
  obtain ⟨ad, cap, h1, h2, h3, h4⟩ := h
  refine ⟨ad, cap, h1, h2, h3, fun hn => ?_⟩
  obtain ⟨g, o, e1, e2, e3⟩ := h4 hn
  exact ⟨g, o, e1, Nat.lt_of_lt_of_le e2 hs, hA g o e2 e3⟩
def ZsAt (w : World) (l : List Int) (g o : Nat) : Prop := ∀ k n, l[k]? = some n → w.cell? ⟨g, o + k, none⟩ = some (.int .i64 n)
def IsAt (w : World) (l : List VI) (g o : Nat) : Prop := ∀ j x, l[j]? = some x → w.cell? ⟨g, o + j * 4, none⟩ = some (.int .u8 (x.op : Int)) ∧ w.cell? ⟨g, o + j * 4 + 1, none⟩ = some (.int .i64 x.a) ∧ w.cell? ⟨g, o + j * 4 + 2, none⟩ = some (.int .i64 x.b) ∧ w.cell? ⟨g, o + j * 4 + 3, none⟩ = some (.int .i64 x.c)
def ZSl (w : World) (v : Value) (l : List Int) : Prop := VSl w v l.length (ZsAt w l)
def ISs (w : World) (v : Value) (l : List VI) : Prop := VSl w v l.length (IsAt w l)
theorem ZSl.up {w w' : World} {v : Value} {l : List Int} (h : ZSl w v l) (hb : Below w.heap.size w w') : ZSl w' v l :=
  VSl.up h hb.size fun g o hg hA k n hk => (vcell (hb.block g hg)).trans (hA k n hk)
theorem ISs.up {w w' : World} {v : Value} {l : List VI} (h : ISs w v l) (hb : Below w.heap.size w w') : ISs w' v l :=
  VSl.up h hb.size fun g o hg hA j x hj => by
    obtain ⟨h1, h2, h3, h4⟩ := hA j x hj
    have e : ∀ o, w'.cell? ⟨g, o, none⟩ = w.cell? ⟨g, o, none⟩ := fun o => vcell (hb.block g hg)
    exact ⟨(e _).trans h1, (e _).trans h2, (e _).trans h3, (e _).trans h4⟩
/-- A function's five cells. -/
structure VFin (w : World) (f : VF) (hv cv iv : Value) : Prop where
  h : ZSl w hv f.h
  c : ∃ ad cap, cv = .slice ad f.nc cap
  i : ISs w iv f.cd
  n : ∀ l cap, hv = .slice none l cap → cap = 0
theorem VFin.up {w w' : World} {f : VF} {hv cv iv : Value} (h : VFin w f hv cv iv) (hb : Below w.heap.size w w') : VFin w' f hv cv iv := ⟨h.h.up hb, h.c, h.i.up hb, h.n⟩
def VFin.cells (f : VF) (hv cv iv : Value) : Array Value := #[.int .i64 f.p, hv, .int .i64 f.r, cv, iv]
def FsAt (w : World) (l : List VF) (g o : Nat) : Prop := ∀ j f, l[j]? = some f → ∃ hv cv iv, VFin w f hv cv iv ∧ w.cell? ⟨g, o + j * 5, none⟩ = some (.int .i64 f.p) ∧ w.cell? ⟨g, o + j * 5 + 1, none⟩ = some hv ∧ w.cell? ⟨g, o + j * 5 + 2, none⟩ = some (.int .i64 f.r) ∧ w.cell? ⟨g, o + j * 5 + 3, none⟩ = some cv ∧ w.cell? ⟨g, o + j * 5 + 4, none⟩ = some iv
def FSl (w : World) (v : Value) (l : List VF) : Prop := VSl w v l.length (FsAt w l)
theorem FSl.up {w w' : World} {v : Value} {l : List VF} (h : FSl w v l) (hb : Below w.heap.size w w') : FSl w' v l :=
  VSl.up h hb.size fun g o hg hA j f hj => by
    obtain ⟨hv, cv, iv, h0, h1, h2, h3, h4, h5⟩ := hA j f hj
    have e : ∀ o, w'.cell? ⟨g, o, none⟩ = w.cell? ⟨g, o, none⟩ := fun o => vcell (hb.block g hg)
    exact ⟨hv, cv, iv, h0.up hb, (e _).trans h1, (e _).trans h2, (e _).trans h3, (e _).trans h4, (e _).trans h5⟩
/-- A region that draws its order and lays one block, at its operation i. -/
structure JB (i : Nat) (row : Obj) (w0 : World) (l : Nat → Bool) (a : Act) (W : World) : Prop where
  b : Below w0.heap.size w0 W
  s : l i = false → W.heap.size = w0.heap.size
  r : l i = true → W.heap[w0.heap.size]? = some row
theorem JB.start {i : Nat} {row : Obj} {w0 : World} {a : Act} : JB i row w0 (fun _ => false) a w0.drew := ⟨(Below.refl _ _).drew, fun _ => rfl, fun h => by cases h⟩
theorem JB.pure {i : Nat} {row : Obj} {w0 W : World} {l : Nat → Bool} {a a' : Act} (h : JB i row w0 l a W) {j : Nat} (hj : i ≠ j) : JB i row w0 (more l j) a' W :=
  ⟨h.b, fun e => h.s (by rwa [more_ne l hj] at e), fun e => h.r (by rwa [more_ne l hj] at e)⟩
theorem JB.make {i : Nat} {row : Obj} {w0 W : World} {l : Nat → Bool} {a a' : Act} (h : JB i row w0 l a W) (hl : l i = false) : JB i row w0 (more l i) a' (W.alloc row) :=
  ⟨h.b.alloc h.b.size _, fun e => (by rw [more_self] at e; cases e), fun _ => (by rw [← h.s hl]; exact heap_alloc_new _ _)⟩
theorem JB.call {i : Nat} {row : Obj} {w0 W W' : World} {l : Nat → Bool} {a a' : Act} (h : JB i row w0 l a W) {j : Nat} (hj : i ≠ j) (hl : l i = true) (hb : Below W.heap.size W W') : JB i row w0 (more l j) a' W' :=
  ⟨h.b.trans (hb.mono h.b.size), fun e => (by rw [more_ne l hj, hl] at e; cases e), fun _ => (hb.block _ (lt_of_block (h.r hl))).trans (h.r hl)⟩
def inR (n i : Int) : Bool := decide (0 ≤ i) && decide (i < n)
theorem all_take {l : List Int} {n x : Int} {k : Nat} (hk : l[k]? = some x) (h : (l.take k).all (inR n) = true) (hx : inR n x = true) : (l.take (k + 1)).all (inR n) = true := by
  rw [List.take_add_one, hk, List.all_append, h]
  simp [hx]
theorem all_hit {l : List Int} {n x : Int} {k : Nat} (hk : l[k]? = some x) (hx : inR n x = false) : l.all (inR n) = false := by
  rw [Bool.eq_false_iff]
  intro h
  rw [List.all_eq_true.1 h x (List.mem_of_getElem? hk)] at hx
  cases hx
set_option maxRecDepth 100000 in
set_option maxHeartbeats 2000000 in
theorem within_any {n : Int} {v : Value} {l : List Int} {w : World} (h : ZSl w v l) :
    Calls Tryz.prog 64 #[.int .i64 n, v] w fun e w' => e = .returned (.bool (l.all (inR n))) ∧ w' = w := by
  obtain ⟨ad, cap, rfl, hc1, hx1, hg1⟩ := h
  unfold maxLen at hx1
  have HG := Lib.hid hg1
  clear hg1
  go_enter Tryz.func64, Tryz.ntmps64
  go_wp2_with fail
  go_loopw [9] (fun i wr => ∃ k : Nat, i = .int .i64 (k : Int) ∧ k ≤ l.length ∧ wr = w ∧ Hid ((l.take k).all (inR n) = true))
    (fun i _ => l.length - (intOf i).toNat)
  case atStart => exact ⟨0, rfl, Nat.zero_le _, rfl, rfl⟩
  case round =>
    obtain ⟨k, rfl, hk, rfl, HK⟩ := hrel
    by_cases hlt : k < l.length
    · obtain ⟨x, hx⟩ : ∃ x, l[k]? = some x := ⟨_, List.getElem?_eq_getElem hlt⟩
      obtain ⟨g, o, rfl, gl, A⟩ := HG.out (by omega)
      have hq := A k x hx
      have hidx : 0 ≤ (k : Int) ∧ (k : Int) < (l.length : Int) := ⟨by omega, by omega⟩
      by_cases h0 : x < 0
      · have HZ : Hid (l.all (inR n) = false) := all_hit hx (by simp [inR]; omega)
        clear A hx
        go_wp2
        go_ret
        exact ⟨ret_bool HZ.out.symm, rfl⟩
      · by_cases hn : n ≤ x
        · have HZ : Hid (l.all (inR n) = false) := all_hit hx (by simp [inR]; omega)
          clear A hx
          go_wp2
          go_ret
          exact ⟨ret_bool HZ.out.symm, rfl⟩
        · have HZ : Hid ((l.take (k + 1)).all (inR n) = true) := all_take hx HK.out (by simp [inR]; omega)
          clear A hx
          go_wp2_with fail
          go_roundw
          case rel => exact ⟨k + 1, by go_num, by omega, by first | rfl | trivial, HZ⟩
          case measure => simp [intOf]; omega
    · obtain rfl : k = l.length := by omega
      have HZ : Hid (l.all (inR n) = true) := by have := HK.out; rwa [List.take_length] at this
      go_wp2
      go_ret
      exact ⟨ret_bool HZ.out.symm, rfl⟩
end Go.Proofs.YtpboencfnjmmbaaGreatDoor
