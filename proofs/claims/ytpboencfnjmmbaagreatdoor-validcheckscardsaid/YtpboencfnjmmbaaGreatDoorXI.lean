/-
  Rows whose room isn't known: their parts; rows of a text's bytes.
  Conditions: as each theorem says. (No program is named here.)
-/
import Derived.Test.YtpboencfnjmmbaaGreatDoorXH
namespace Go.Ex
set_option linter.unusedVariables false
open Go.RowKit
section
variable {C : Cx} {p : Rn}

def natO (d : Nat) : Option Value → Option Nat
  | none => some d
  | some (.int _ n) => if 0 ≤ n then some n.toNat else none
  | _ => none

/-- A part of a row whose room isn't known. -/
def aslice (P : Program) (t : TypeId) (v : Value) (lo hi : Option Value) (s : St) : Option (Value × St) :=
  match P.underlying t, v with
  | some (.slice e), .slice (some a) l _ => match P.info? e, natO 0 lo, natO l hi with
    | some i, some m, some n => if decide (m ≤ n) && decide (n ≤ l) && (m == 0 || decide (m < l)) then some (.slice (some (a.add (m * i.size))) (n - m) unk, s) else none
    | _, _, _ => none
  | _, _ => none

theorem natO_low {d n y : Nat} {x x' : Option Value} {c : BoundsCode} (h : OV p x x') (k : natO d x = some n) (hy : n ≤ y) (w : World) (P : Program) :
    (match x' with | some v => Instr.sliceBound v y c | none => (Pure.pure d : Sem Nat)).run P w = .ok n w := by
  cases x with
  | none => cases x' with
    | none => cases k; rfl
    | some _ => exact h.elim
  | some v => cases x' with
    | none => exact h.elim
    | some v' =>
      cases v <;> first | (cases k; done) | skip
      rename_i j m
      have hv : v' = .int j m := leaf_eq rfl h
      subst hv
      simp only [natO] at k
      split at k <;> cases k
      rename_i h0
      have : 0 ≤ m ∧ m ≤ (y : Int) := ⟨h0, by omega⟩
      simp [Instr.sliceBound, Go.asIntOf, this]

theorem SimV.slice {t : TypeId} {v v' : Value} {lo lo' hi hi' : Option Value} (hk : known v = false) (hv : VR p v v') (h1 : OV p lo lo') (h2 : OV p hi hi') : SimV C p (aslice C.P t v lo hi) (Instr.sliceAt t v' lo' hi' none) := by
  intro s w hw r s' hr
  unfold aslice at hr
  split at hr <;> (try (cases hr; done))
  rename_i e a l c ht
  split at hr <;> (try (cases hr; done))
  rename_i i m n hi hm hn
  split at hr <;> (try (cases hr; done))
  rename_i hok
  cases hr
  simp only [Bool.and_eq_true, Bool.or_eq_true, beq_iff_eq, decide_eq_true_eq] at hok
  obtain ⟨⟨hmn, hnl⟩, hml⟩ := hok
  obtain ⟨b, c', rfl, hab, hc⟩ := hv.inv
  have hc : l ≤ c' ∧ ∃ k, p a.block = some (b.block, k) ∧ c' ≤ k := by
    rcases hc with ⟨_, h⟩ | ⟨_, hc⟩
    · simp only [known, bne_eq_false_iff_eq] at hk
      omega
    · exact hc
  obtain ⟨hlc, K, hpK, hcK⟩ := hc
  have hrun : (Instr.sliceAt t (.slice (some b) l c') lo' hi' none).run C.P w = .ok (.slice (some (if c' = m then b else b.add (m * i.size))) (n - m) (c' - m)) w := by
    have g2 := natO_low (c := .sliceAcap) (y := c') h2 hn (by omega) w C.P
    have g1 := natO_low (c := .sliceB) (y := n) h1 hm hmn w C.P
    unfold Instr.sliceAt
    simp only [Sem.run_bind, run_underlying ht, Result.andThen_ok]
    unfold Instr.slice
    simp only [Sem.run_bind, run_underlying ht, Result.andThen_ok]
    unfold Instr.sliceBounds
    cases hi' <;> cases lo' <;> simp_all [Go.sizeOf, typeInfo]
    all_goals (split <;> rfl)
  refine ⟨p, w, _, Le.refl _, hw, ?_, hrun⟩
  have hadd := hab.add (m * i.size)
  have hmc : c' = m → m = 0 := by intro e; rcases hml with h | h <;> omega
  have : (if c' = m then b else b.add (m * i.size)) = b.add (m * i.size) := by
    split
    · rename_i e
      rw [hmc e]; simp [Addr.add]
    · rfl
  rw [this]
  have hbl : (a.add (m * i.size)).block = a.block ∧ (b.add (m * i.size)).block = b.block := by
    unfold Addr.add; constructor <;> split <;> rfl
  exact (VR.cl _).slU _ _ _ _ K (by rw [hbl.1, hbl.2]; exact hpK) hadd.2.1 hadd.2.2 (by omega) (by omega)

/-- A row of a text's bytes. -/
def abytes (P : Program) (d : TypeId) (x : Value) (s : St) : Option (Value × St) :=
  match P.underlying d, x with
  | some (.slice e), .string b => match P.underlying e with
    | some (.int .u8) => agrow e (b.data.map fun b => .int .u8 b.toNat) 1 b.size s
    | _ => none
  | _, _ => none
theorem SimV.bytes {sd d : TypeId} {x x' : Value} (hs : C.P.underlying sd = some .string) (hx : VR p x x') : SimV C p (abytes C.P d x) (Go.convert sd d x') := by
  intro s w hw r s' hr
  unfold abytes at hr
  split at hr <;> (try (cases hr; done))
  rename_i e b ht
  split at hr <;> (try (cases hr; done))
  rename_i he
  unfold agrow at hr
  split at hr <;> (try (cases hr; done))
  rename_i htop
  cases hr
  obtain rfl : x' = .string b := leaf_eq rfl hx
  have hcap := grownCap_ge w b.size 0 e
  have hrun : (Go.convert sd d (.string b)).run C.P w = .ok (.slice (some ⟨w.heap.size, 0, none⟩) b.size (grownCap w b.size 0 e)) ((w.drew.alloc (.cells ((b.data.map fun b => Value.int .u8 b.toNat) ++ Array.replicate (grownCap w b.size 0 e - b.size) (.int .u8 0)) e)).freeze ⟨w.heap.size, grownCap w b.size 0 e, none⟩ 1) := by
    unfold Go.convert
    simp only [Sem.run_bind, run_underlying hs, run_underlying ht, run_underlying he, Result.andThen_ok]
    unfold Conv.stringToBytes
    simp only [Sem.run_bind, run_choose, Question.forced, Bool.false_eq_true, if_false, Result.andThen_ok, Go.newRow, run_newObj]
    unfold markStringish
    rw [show (Question.appendCap b.size 0 e).cut (w.tape w.drawn (Question.appendCap b.size 0 e)) = grownCap w b.size 0 e from rfl]
    generalize grownCap w b.size 0 e = K at *
    have hsz : (b.data.map fun b => Value.int .u8 b.toNat).size = b.size := by rw [Array.size_map]; rfl
    generalize (b.data.map fun b => Value.int .u8 b.toNat) = el at *
    simp only [Sem.run_bind, run_shape, Result.andThen_ok, Sem.run_pure]
    have hs : World.shape? { heap := w.heap.push (.cells (el ++ Array.replicate (K - b.size) (Value.int .u8 0)) e), tape := w.tape, drawn := w.drawn + 1, os := w.os, output := w.output } w.heap.size = some (e, K) := by
      simp only [World.shape?, Array.getElem?_push_size, Array.size_append, Array.size_replicate, hsz]
      congr 2; omega
    rw [hs]
    rfl
  generalize hK : grownCap w b.size 0 e = K at *
  have hle := hw.drew.extend htop w.heap.size K
  have hsz : (b.data.map fun b => Value.int .u8 b.toNat).size = b.size := by rw [Array.size_map]; rfl
  have hw1 := hw.drew.fresh htop (k := K) (o := .cells (b.data.map fun b => .int .u8 b.toNat) e (1, 1)) (o' := .cells ((b.data.map fun b => Value.int .u8 b.toNat) ++ Array.replicate (K - b.size) (.int .u8 0)) e) (by
    refine .inl ⟨_, (0, 0), rfl, ?_, fun i u v a b => ?_, fun j _ h => Nat.not_lt_zero _ h.2, .inr ⟨rfl, ?_⟩⟩
    · rw [Array.size_append]; exact Nat.le_add_right _ _
    · have hi := (Array.getElem?_eq_some_iff.1 a).1
      rw [Array.getElem?_append, if_pos hi, a] at b
      cases b
      simp only [Array.getElem?_map, Option.map_eq_some_iff] at a
      obtain ⟨x, _, rfl⟩ := a
      exact VR.int _ _ _
    · simp only [Array.size_append, hsz, Array.size_replicate]; omega)
  refine ⟨_, _, _, hle, ?_, ?_, hrun⟩
  · generalize hel : (b.data.map fun b => Value.int .u8 b.toNat) ++ Array.replicate (K - b.size) (Value.int .u8 0) = el at *
    obtain ⟨b0, k0, o0, f1, f2, f3⟩ := hw1.heap s.ctr (.cells (b.data.map fun b => .int .u8 b.toNat) e (1, 1)) (by simp only [St.fresh, Tr.get_put, if_pos])
    rw [ext_self] at f1; cases f1
    have hbl : (w.drew.alloc (.cells el e)).heap[w.heap.size]? = some (.cells el e) := heap_alloc_new w.drew _
    have f2 : some (Obj.cells el e) = some o0 := hbl.symm.trans f2
    cases f2
    obtain ⟨c', fr', e1, g1, g2, g3, g4⟩ := f3.oc (by simp)
    cases e1
    have hG : C.G ≤ s.ctr := hw.ctr
    have hbase := hw.base
    have hfr : ((w.drew.alloc (.cells el e)).freeze ⟨w.heap.size, K, none⟩ 1).heap[w.heap.size]? = some (.cells el e (K, K + 1)) := by
      simp only [World.freeze, Nat.one_ne_zero, if_false, Array.getElem?_modify, if_pos, hbl, Option.map_some]
      rfl
    have hoth : ∀ i, i ≠ w.heap.size → ((w.drew.alloc (.cells el e)).freeze ⟨w.heap.size, K, none⟩ 1).heap[i]? = (w.drew.alloc (.cells el e)).heap[i]? := by
      intro i hi
      simp only [World.freeze, Nat.one_ne_zero, if_false, Array.getElem?_modify]
      rw [if_neg (fun h => hi h.symm)]
    have hsz2 : ((w.drew.alloc (.cells el e)).freeze ⟨w.heap.size, K, none⟩ 1).heap.size = (w.drew.alloc (.cells el e)).heap.size := by
      simp only [World.freeze, Nat.one_ne_zero, if_false, Array.size_modify]
    have := hw1.write (n := s.ctr) (o0 := .cells (b.data.map fun b => .int .u8 b.toNat) e (1, 1)) (ext_self _ _ _ _) (by simp only [St.fresh, Tr.get_put, if_pos]) hG (w' := (w.drew.alloc (.cells el e)).freeze ⟨w.heap.size, K, none⟩ 1) ⟨rfl, rfl, rfl, Nat.le_of_eq hsz2.symm, fun i hi => hoth i (by omega)⟩ hsz2 hfr hoth (o := .cells (b.data.map fun b => .int .u8 b.toNat) e (1, 1)) (.inl ⟨_, _, rfl, g1, g2, fun j hj h => by
      have hel2 : el.size = K := by rw [← hel, Array.size_append, hsz, Array.size_replicate]; omega
      have := h.1; simp only at this; omega, g4⟩)
    refine this.congr (fun n => ?_) rfl rfl
    simp only [St.write, St.fresh, Tr.get_put]
    split
    · rfl
    · rfl
  · exact (VR.cl _).slU _ _ _ _ K (ext_self _ _ _ _) rfl rfl (by omega) (Nat.le_refl _)
end
end Go.Ex
