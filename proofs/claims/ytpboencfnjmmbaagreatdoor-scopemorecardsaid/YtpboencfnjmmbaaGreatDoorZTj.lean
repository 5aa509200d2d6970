/-
 Six cells of one block, stored one by one.
 Conditions: as each theorem says. (No program is named here.)
-/
import Derived.Test.YtpboencfnjmmbaaGreatDoorZJTk
set_option maxRecDepth 100000
set_option maxHeartbeats 4000000
set_option linter.unusedVariables false
namespace Go.Proofs.YtpboencfnjmmbaaGreatDoor
open Go.RowKit TM
def six6 (w : World) (g : Nat) (a b c d e f : Value) : World := (((((w.setCell ⟨g, 0, none⟩ a).setCell ⟨g, 1, none⟩ b).setCell ⟨g, 2, none⟩ c).setCell ⟨g, 3, none⟩ d).setCell ⟨g, 4, none⟩ e).setCell ⟨g, 5, none⟩ f
section
variable {w : World} {g : Nat} {a b c d e f : Value}
theorem six6_other {k : Nat} (h : k ≠ g) : (six6 w g a b c d e f).heap[k]? = w.heap[k]? := by
 unfold six6
 rw [Below.heap_setCell _ _ _ _ h, Below.heap_setCell _ _ _ _ h, Below.heap_setCell _ _ _ _ h, Below.heap_setCell _ _ _ _ h, Below.heap_setCell _ _ _ _ h, Below.heap_setCell _ _ _ _ h]
theorem six6_block {x0 x1 x2 x3 x4 x5 : Value} {t : TypeId} (h : w.heap[g]? = some (.cells #[x0, x1, x2, x3, x4, x5] t (0, 0))) : (six6 w g a b c d e f).heap[g]? = some (.cells #[a, b, c, d, e, f] t (0, 0)) := by
 unfold six6
 exact setF (setF (setF (setF (setF (setF h)))))
theorem six6_cell {x0 x1 x2 x3 x4 x5 : Value} {t : TypeId} (h : w.heap[g]? = some (.cells #[x0, x1, x2, x3, x4, x5] t (0, 0))) : (six6 w g a b c d e f).cell? ⟨g, 0, none⟩ = some a ∧ (six6 w g a b c d e f).cell? ⟨g, 1, none⟩ = some b ∧ (six6 w g a b c d e f).cell? ⟨g, 2, none⟩ = some c ∧ (six6 w g a b c d e f).cell? ⟨g, 3, none⟩ = some d ∧ (six6 w g a b c d e f).cell? ⟨g, 4, none⟩ = some e ∧ (six6 w g a b c d e f).cell? ⟨g, 5, none⟩ = some f := by
 have hb := six6_block (a := a) (b := b) (c := c) (d := d) (e := e) (f := f) h
 simp [World.cell?, hb]
theorem sc_os (w : World) (p : Addr) (v : Value) : (w.setCell p v).os = w.os := rfl
theorem six6_os : (six6 w g a b c d e f).os = w.os := by unfold six6; rw [sc_os, sc_os, sc_os, sc_os, sc_os, sc_os]
theorem sc_tape (w : World) (p : Addr) (v : Value) : (w.setCell p v).tape = w.tape := rfl
theorem six6_tape : (six6 w g a b c d e f).tape = w.tape := by unfold six6; rw [sc_tape, sc_tape, sc_tape, sc_tape, sc_tape, sc_tape]
theorem sc_output (w : World) (p : Addr) (v : Value) : (w.setCell p v).output = w.output := rfl
theorem six6_output : (six6 w g a b c d e f).output = w.output := by unfold six6; rw [sc_output, sc_output, sc_output, sc_output, sc_output, sc_output]
theorem six6_size : (six6 w g a b c d e f).heap.size = w.heap.size := by simp [six6, World.setCell]
end
end Go.Proofs.YtpboencfnjmmbaaGreatDoor
namespace Go.Proofs.YtpboencfnjmmbaaGreatDoor
open Go.RowKit TM
def numF (op : Nat) (x : XX) : Int := if op = 3 then (x.n : Int) * (if x.a % 3 = 2 then 1099511627776 else 1) else 0
def textF (op : Nat) (x : XX) : ByteArray := if op = 4 then tx x.s else if op = 5 then nm x.s else ⟨#[]⟩
def paramsF (op : Nat) (x : XX) : List ByteArray := if op = 17 then (List.range (x.a % 3)).map (fun i => nm ((x.s + i) % 256)) else []
def manyF (op : Nat) (x : XX) : Nat := if op = 6 ∨ op = 7 then 1 else if op = 15 then 1 + x.a % 3 else if op = 16 then 2 * (x.a % 3) else if 8 ≤ op ∧ op ≤ 14 then 2 else 0
structure Kb (m g : Nat) (w w' : World) : Prop where
 os : w'.os = w.os
 tape : w'.tape = w.tape
 output : w'.output = w.output
 size : w.heap.size ≤ w'.heap.size
 keep : ∀ k, k < w.heap.size → k ≠ m → k ≠ g → w'.heap[k]? = w.heap[k]?
theorem Kb.refl (m g : Nat) (w : World) : Kb m g w w := ⟨rfl, rfl, rfl, Nat.le_refl _, fun _ _ _ _ => rfl⟩
structure Mid (w wc : World) (mb g4 ge op : Nat) (num : Int) (text : ByteArray) (params : List ByteArray) (body : List TS) (X : List XX) (L : Int) (vn vb : Value) : Prop where
 box : wc.heap[ge]? = some (.cells #[.int .i64 (op : Int), .int .i64 num, .string text, .slice none 0 0, vn, vb] 65 (0, 0))
 par : SlAt (fun g => ge < g ∧ g < wc.heap.size) vn params.length (fun g o => StrAt wc g o params)
 bod : SlAt (fun g => ge < g ∧ g < wc.heap.size) vb body.length (fun g o => SsAt (fun g => ge < g ∧ g < wc.heap.size) wc g o body)
 mkr : MkAt wc mb X L
 res : wc.heap[g4]? = some (.cells #[.int .i64 0, .int .i64 0, .string ⟨#[]⟩, .slice none 0 0, .slice none 0 0, .slice none 0 0] 65 (0, 0))
 gr : w.grownBy wc (some mb)
def valK (vp : Value) (mb ge : Nat) (D : Int) : Nat → Option Value
 | 0 => some (.pointer (some ⟨ge, 3, none⟩))
 | 1 => some vp
 | 2 => some (.pointer (some ⟨mb, 0, none⟩))
 | 3 => some (.int .i64 D)
 | 4 => some (.int .i64 (D - 1))
 | 8 => some (.pointer (some ⟨ge, 3, none⟩))
 | _ => none
theorem range_snoc (ES : Nat → TE) (j : Nat) : (List.range (j + 1)).map ES = (List.range j).map ES ++ [ES j] := by rw [List.range_succ]; simp
theorem row_cells {w : World} {base : Nat} {e : TypeId} {size g n cap : Nat} {xs : List Value} (h : w.ownsRow base e size (.slice (some ⟨g, 0, none⟩) n cap) n xs) : ∀ (j : Nat) (u : Value), xs[j]? = some u → w.cell? ⟨g, 0 + j, none⟩ = some u := fun j u hj => by
 have := h.cells (g := g) rfl j u hj
 by_cases h0 : j = 0
 ·subst h0; simpa [Addr.add] using this
 ·simpa [Addr.add, h0] using this
theorem fin_expr {w wc wr W' : World} {mb g4 ge op n capr : Nat} {num : Int} {text : ByteArray} {params : List ByteArray} {body : List TS} {X2 X : List XX} {L2 L : Int} {vn vb : Value} {ao : Option Addr} {cs : List Value} {es : List TE}
 (hmid : Mid w wc mb g4 ge op num text params body X2 L2 vn vb) (hrow : wr.ownsRow wc.heap.size 65 6 (.slice ao n capr) n cs) (hes : EsC (fun k => wc.heap.size ≤ k ∧ k < wr.heap.size ∧ (Value.slice ao n capr).ownBlock ≠ some k) wr es cs) (hlen : es.length = n) (hmk : MkAt wr mb X L) (hkb : Kb mb ge wc wr)
 (hW : ∀ k, k ≠ g4 → W'.heap[k]? = wr.heap[k]?) (hs : W'.heap.size = wr.heap.size) (ho : W'.os = wr.os) (ht : W'.tape = wr.tape) (hu : W'.output = wr.output) (hm4 : mb < g4) (hw4 : w.heap.size ≤ g4) (h4e : g4 < ge) (hop : op ≤ 17) (hnum : 0 ≤ num ∧ num ≤ 9223372036854775807) :
 MkAt W' mb X L ∧ w.grownBy W' (some mb) ∧ EIn (Fresh w.heap.size W'.heap.size) W' (.mk op num text es params body) (.slice ao n capr) vn vb := by
 have hgx : ge < wc.heap.size := lt_of_block hmid.box
 have hsz := hkb.size
 have hin : ∀ k, (ge < k ∧ k < wc.heap.size) → Fresh w.heap.size W'.heap.size k ∧ W'.heap[k]? = wc.heap[k]? := fun k hk => ⟨⟨by omega, by omega⟩, (hW k (by omega)).trans (hkb.keep k hk.2 (by omega) (by omega))⟩
 refine ⟨hmk.kept fun k hk => hW k (by omega), ⟨ho.trans (hkb.os.trans hmid.gr.os), ht.trans (hkb.tape.trans hmid.gr.tape), hu.trans (hkb.output.trans hmid.gr.output), by have := hmid.gr.size; omega, fun k hk hn => ?_⟩, ⟨hop, hnum.1, hnum.2⟩, ?_, ?_, ?_⟩
 ·have hkm : k ≠ mb := fun e => hn (by rw [e])
  have hg := hmid.gr.size
  rw [hW k (by omega), hkb.keep k (by omega) hkm (by omega), hmid.gr.block k hk hn]
 ·obtain ⟨ao', cap', hv, h1, h2⟩ := row_shape hrow
  cases hv
  refine ⟨ao, capr, by rw [hlen], by rw [hlen]; exact h1, h2, fun hn => ?_⟩
  obtain ⟨g, cap2, cur2, hv2, _, _, hbg, hblk⟩ := row_at hrow (by omega)
  cases hv2
  have hgl := lt_of_block hblk
  refine ⟨g, 0, rfl, ⟨by omega, by omega⟩, EsC.at (cs := cs) (EsC.kept (fun k hk => ⟨⟨by have := hk.1; omega, by have := hk.2.1; omega⟩, hW k (by have := hk.1; omega)⟩) hes) fun j u hj => ?_⟩
  rw [cell_kept (hW g (by omega))]
  exact row_cells hrow j u hj
 ·exact hmid.par.imp (fun k hk => (hin k hk).1) fun g o hg hA => StrAt.kept (hin g hg).2 params o hA
 ·exact hmid.bod.imp (fun k hk => (hin k hk).1) fun g o hg hA => SsAt.kept hin body hg hA
end Go.Proofs.YtpboencfnjmmbaaGreatDoor
namespace Go.Proofs.YtpboencfnjmmbaaGreatDoor
open Go.RowKit TM
structure Ua (wr W : World) (mb : Nat) (Y : List XX) (L : Int) (e : TS) (x y z : Value) : Prop where
 mkr : MkAt W mb Y L
 gr : wr.grownBy W (some mb)
 inn : SIn (Fresh wr.heap.size W.heap.size) W e x y z
theorem Ua.app {w wr W W2 : World} {mb bs : Nat} {Y : List XX} {L : Int} {e : TS} {x y z vp v : Value} {j : Nat} {cs : List Value} {l : List TS} {o : Obj} (h : Ua wr W mb Y L e x y z) (hr : wr.ownsRow bs 60 6 vp j cs) (hmb : mb < bs) (hbs : bs ≤ wr.heap.size)
 (hes : SsC (fun k => bs ≤ k ∧ k < wr.heap.size ∧ vp.ownBlock ≠ some k) wr l cs) (hw : w.grownBy wr (some mb)) (hwb : w.heap.size ≤ bs)
 (hg : (W.alloc o).grownBy W2 vp.ownBlock) (ho : v.ownBlock = vp.ownBlock ∨ v.ownBlock = some (W.alloc o).heap.size) :
 MkAt W2 mb Y L ∧ w.grownBy W2 (some mb) ∧ SsC (fun k => bs ≤ k ∧ k < W2.heap.size ∧ v.ownBlock ≠ some k) W2 (l ++ [e]) (cs ++ sixS e x y z) := by
 have hlt : ∀ k, vp.ownBlock = some k → bs ≤ k ∧ k < wr.heap.size := fun k hk => hr.lt k hk
 have hs1 : wr.heap.size ≤ W.heap.size := h.gr.size
 have hs2 : W.heap.size + 1 ≤ W2.heap.size := by have := hg.size; simpa using this
 have hk2 : ∀ k, k < W.heap.size → vp.ownBlock ≠ some k → W2.heap[k]? = W.heap[k]? := fun k hk hn => by
  rw [hg.block k (by simp; omega) (fun e1 => hn e1.symm), Below.heap_alloc _ _ _ hk]
 have hvo : ∀ k, v.ownBlock = some k → vp.ownBlock = some k ∨ W.heap.size ≤ k := fun k hk => by
  rcases ho with h1 | h1
  ·exact .inl (h1.symm.trans hk)
  ·rw [h1] at hk; cases hk; exact .inr (by simp)
 refine ⟨h.mkr.kept fun k hk => hk2 k (Nat.lt_of_le_of_lt hk h.mkr.lt) (fun e1 => by have := (hlt k e1).1; omega), ⟨?_, ?_, ?_, ?_, fun k hk hn => ?_⟩, ?_⟩
 ·exact hg.os.trans (h.gr.os.trans hw.os)
 ·exact hg.tape.trans (h.gr.tape.trans hw.tape)
 ·exact hg.output.trans (h.gr.output.trans hw.output)
 ·have := hw.size; omega
 ·have hwz := hw.size
  rw [hk2 k (by omega) (fun e1 => by have := (hlt k e1).1; omega), h.gr.block k (by omega) hn, hw.block k hk hn]
 ·refine SsC.snoc ?_ (SsC.kept (fun k hk => ?_) hes)
  ·refine SIn.kept (P := Fresh wr.heap.size W.heap.size) (fun k hk => ?_) e h.inn
   have h1 : wr.heap.size ≤ k := hk.1
   have h2 : k < W.heap.size := hk.2
   refine ⟨⟨by omega, by omega, fun e1 => ?_⟩, hk2 k h2 (fun e1 => by have := (hlt k e1).2; omega)⟩
   rcases hvo k e1 with h5 | h5
   ·have := (hlt k h5).2; omega
   ·omega
  ·have h1 := hk.1
   have h2 := hk.2.1
   have h3 := hk.2.2
   have hkm : some k ≠ some mb := fun e1 => by have h9 : k = mb := Option.some.inj e1; omega
   refine ⟨⟨h1, by omega, fun e1 => ?_⟩, (hk2 k (by omega) h3).trans (h.gr.block k h2 hkm)⟩
   rcases hvo k e1 with h5 | h5
   ·exact h3 h5
   ·omega
theorem rangeS_snoc (SS : Nat → TS) (j : Nat) : (List.range (j + 1)).map SS = (List.range j).map SS ++ [SS j] := by rw [List.range_succ]; simp
theorem sl_of_row {w : World} {bs n : Nat} {v : Value} {cs : List Value} {l : List TS} {P : Nat → Prop} (hr : w.ownsRow bs 60 6 v n cs) (hl : l.length = n) (hes : SsC (fun k => bs ≤ k ∧ k < w.heap.size ∧ v.ownBlock ≠ some k) w l cs) (hP : ∀ k, bs ≤ k → k < w.heap.size → P k) : SlAt P v l.length (fun g o => SsAt P w g o l) := by
 obtain ⟨ao, cap, rfl, h1, h2⟩ := row_shape hr
 refine ⟨ao, cap, by rw [hl], by rw [hl]; exact h1, h2, fun hn => ?_⟩
 obtain ⟨g, cap2, cur2, hv2, _, _, hbg, hblk⟩ := row_at hr (by omega)
 cases hv2
 exact ⟨g, 0, rfl, hP g hbg (lt_of_block hblk), SsC.at (cs := cs) (SsC.kept (fun k hk => ⟨hP k hk.1 hk.2.1, rfl⟩) hes) (row_cells hr)⟩
theorem stmts_walk {D : Int} {n m : Nat} (hn : n ≤ 2) (hmn : m ≤ n) (XS : Nat → List XX) (LF : Nat → Int) (SS : Nat → TS) (hpos : ∀ j, j < m → 0 < LF j) (hend : m = n ∨ LF m ≤ 0) {w : World} {mb : Nat} (hm : MkAt w mb (XS 0) (LF 0))
 (hstep : ∀ j, j < m → ∀ W, MkAt W mb (XS j) (LF j) → Calls Tryz.prog 46 #[.pointer (some ⟨mb, 0, none⟩), .int .i64 D] W fun en w' => ∃ a b c, en = .returned (stV (SS j) a b c) ∧ MkAt w' mb (XS (j + 1)) (LF (j + 1)) ∧ W.grownBy w' (some mb) ∧ SIn (Fresh W.heap.size w'.heap.size) w' (SS j) a b c) :
 Calls Tryz.prog 75 #[.pointer (some ⟨mb, 0, none⟩), .int .i64 D, .int .i64 (n : Int)] w fun en w' => ∃ v, en = .returned v ∧ MkAt w' mb (XS m) (LF m) ∧ w.grownBy w' (some mb) ∧ SlAt (Fresh w.heap.size w'.heap.size) v ((List.range m).map SS).length (fun g o => SsAt (Fresh w.heap.size w'.heap.size) w' g o ((List.range m).map SS)) := by
 have hmw : mb < w.heap.size := hm.lt
 have HM := Lib.hid hm
 have HSTEP := Lib.hid hstep
 have HPOS := Lib.hid hpos
 have HEND := Lib.hid hend
 clear hm hstep hpos hend
 go_enter Tryz.func75, Tryz.ntmps75
 go_wp2_with fail
 go_loopw [9, 7] (fun i vp wr => ∃ (j : Nat) (cs : List Value), i = .int .i64 (j : Int) ∧ j ≤ m ∧ Hid (wr.ownsRow w.heap.size 60 6 vp j cs) ∧ Hid (SsC (fun k => w.heap.size ≤ k ∧ k < wr.heap.size ∧ vp.ownBlock ≠ some k) wr ((List.range j).map SS) cs) ∧ Hid (MkAt wr mb (XS j) (LF j)) ∧ Hid (w.grownBy wr (some mb)))
  (fun i _ _ => n - (intOf i).toNat)
 case atStart => exact ⟨0, [], rfl, Nat.zero_le _, World.ownsRow_nil _ _ _ _, rfl, HM, grown_refl _ _⟩
 case round =>
  obtain ⟨j, cs, rfl, hjm, HROW, HES, HMJ, HG⟩ := hrel
  have hbw : w.heap.size ≤ wr.heap.size := HG.out.size
  obtain ⟨ad, cap, hmb, _⟩ := HMJ.out
  have c1 : wr.cell? ⟨mb, 1, none⟩ = some (.int .i64 (LF j)) := by simp [World.cell?, hmb]
  have hmbl : mb < wr.heap.size := lt_of_block hmb
  clear hmb
  by_cases hlt : j < m
  ·have hlf := HPOS.out j hlt
   have hd : decide (LF j ≤ 0) = false := by simp; omega
   have hjn : decide ((j : Int) < (n : Int)) = true := by simp; omega
   go_wp2_with fail
   refine (HSTEP.out j hlt _ HMJ.out).mono ?_
   rintro en W ⟨x, y, z, rfl, h1, h2, h3⟩
   have HU : Hid (Ua wr W mb (XS (j + 1)) (LF (j + 1)) (SS j) x y z) := ⟨h1, h2, h3⟩
   obtain ⟨kd, nm2, xs2, bd2, el2, ps2, hEj⟩ : ∃ kd nm xs bd el ps, SS j = .mk kd nm xs bd el ps := by cases h : SS j; exact ⟨_, _, _, _, _, _, rfl⟩
   have HEJ := Lib.hid hEj
   have h3b := h3
   rw [hEj] at h3b
   obtain ⟨_, ⟨pa2, pc2, rfl, _⟩, ⟨na2, nc2, rfl, _⟩, ⟨ba2, bc2, rfl, _⟩⟩ := h3b
   have hrow2 : W.ownsRow w.heap.size 60 6 u7 j cs := by
    refine ⟨HROW.out.1, ?_⟩
    rcases HROW.out.2 with h0 | ⟨k, cap3, cu, hv3, hk, hh, r⟩
    ·exact .inl h0
    ·exact .inr ⟨k, cap3, cu, hv3, hk, (h2.block k (lt_of_block hh) (by simp; omega)).trans hh, r⟩
   have HROW2 := Lib.hid hrow2
   have hsW : w.heap.size ≤ W.heap.size := Nat.le_trans hbw h2.size
   rw [hEj]
   unfold stV
   clear h1 h2 h3 hrow2 hEj
   obtain ⟨i0, hi, hz0, hz1, hz2⟩ := info_parts infoStmt
   go_wp2_with (at_builtin; refine wpList_append_own2 rfl (.tmp 16) (.tmp 20) 41 rfl w.heap.size 60 i0 _ 6 104 Tryz.underlying41 hi hz0 hz1 hz2 rfl (by decide) _ j cs rfl (HROW2.out.alloc _) ⟨W.heap.size, 0, none⟩ 1 1 [.int .i64 (kd : Int), .string nm2, .slice pa2 xs2.length pc2, .slice na2 bd2.length nc2, .slice ba2 el2.length bc2, .int .i64 ps2] rfl rfl (fun q u hq => by match q, hq with | 0, hq => simp at hq; subst hq; simp [Addr.add] | 1, hq => simp at hq; subst hq; simp [Addr.add] | 2, hq => simp at hq; subst hq; simp [Addr.add] | 3, hq => simp at hq; subst hq; simp [Addr.add] | 4, hq => simp at hq; subst hq; simp [Addr.add] | 5, hq => simp at hq; subst hq; simp [Addr.add] | q + 6, hq => simp at hq) (by intro u hu; simp at hu; rcases hu with rfl | rfl | rfl | rfl | rfl | rfl <;> rfl) (by decide) (by unfold maxLen; omega) (by omega) (by simp; omega) ?_)
   intro v7 w7 hown7 hgr7 ho7
   have hall := HU.out.app HROW.out hmw hbw HES.out HG.out (Nat.le_refl _) hgr7 (by simpa using ho7)
   obtain ⟨a1, a2, a3⟩ := hall
   have HA1 := Lib.hid a1
   have HA2 := Lib.hid a2
   have HA3 : Hid (SsC (fun k => w.heap.size ≤ k ∧ k < w7.heap.size ∧ v7.ownBlock ≠ some k) w7 ((List.range (j + 1)).map SS) (cs ++ sixS (SS j) (.slice pa2 xs2.length pc2) (.slice na2 bd2.length nc2) (.slice ba2 el2.length bc2))) := by show SsC _ _ _ _; rw [rangeS_snoc]; exact a3
   have HR7 : Hid (w7.ownsRow w.heap.size 60 6 v7 (j + 1) (cs ++ sixS (SS j) (.slice pa2 xs2.length pc2) (.slice na2 bd2.length nc2) (.slice ba2 el2.length bc2))) := by show World.ownsRow _ _ _ _ _ _ _; rw [HEJ.out]; exact hown7
   clear hown7 hgr7 ho7 a1 a2 a3 HROW HES HMJ HG HU HROW2
   go_wp2_with fail
   go_roundw
   case rel => exact ⟨j + 1, _, by go_num, by omega, HR7, HA3, HA1, HA2⟩
   case measure => simp [intOf]; omega
  ·have hje : j = m := by omega
   subst hje
   have HSL : Hid (SlAt (Fresh w.heap.size wr.heap.size) _ ((List.range j).map SS).length (fun g o => SsAt (Fresh w.heap.size wr.heap.size) wr g o ((List.range j).map SS))) := sl_of_row HROW.out (by simp) HES.out fun k h1 h2 => ⟨h1, h2⟩
   by_cases hjn : j = n
   ·subst hjn
    go_wp2_with fail
    go_ret
    exact ⟨u7, rfl, HMJ.out, HG.out, by simpa using HSL.out⟩
   ·have hjn2 : decide ((j : Int) < (n : Int)) = true := by simp; omega
    have hlf : LF j ≤ 0 := by rcases HEND.out with h | h <;> omega
    have hd : decide (LF j ≤ 0) = true := by simp; omega
    go_wp2_with fail
    all_goals first
     | (exfalso; omega)
     | (go_ret; exact ⟨u7, rfl, HMJ.out, HG.out, by simpa using HSL.out⟩)
end Go.Proofs.YtpboencfnjmmbaaGreatDoor
