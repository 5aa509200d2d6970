/-
 TkBase, TkDefs, TkReg, joined.
 Conditions: as each theorem says.
-/
import Derived.Test.YtpboencfnjmmbaaGreatDoorZTrE
import Derived.Test.YtpboencfnjmmbaaGreatDoorZMem
set_option maxRecDepth 100000
set_option maxHeartbeats 2000000
set_option linter.unusedVariables false
namespace Go.Proofs.YtpboencfnjmmbaaGreatDoor
open Go.RowKit TM
structure XX where
 d : Nat := 0
 a : Nat := 0
 n : Nat := 0
 s : Nat := 0
def XX.ok (x : XX) : Prop := x.d ≤ 255 ∧ x.a ≤ 255 ∧ x.n ≤ 65535 ∧ x.s ≤ 255
def xV (x : XX) : Value := .agg #[.int .u8 (x.d : Int), .int .u8 (x.a : Int), .int .u16 (x.n : Int), .int .u8 (x.s : Int)]
def hd (xs : List XX) : XX := xs.headD {}
theorem hd_ok {xs : List XX} (h : ∀ x ∈ xs, x.ok) : (hd xs).ok := by
 cases xs with
 | nil => exact ⟨by decide, by decide, by decide, by decide⟩
 | cons x xs => exact h x (by simp)
theorem tail_ok {xs : List XX} (h : ∀ x ∈ xs, x.ok) : ∀ x ∈ xs.tail, x.ok := fun x hx => h x (List.mem_of_mem_tail hx)
def XAt (w : World) (g o : Nat) (xs : List XX) : Prop := ∀ j x, xs[j]? = some x → w.cell? ⟨g, o + j * 4, none⟩ = some (.int .u8 (x.d : Int)) ∧ w.cell? ⟨g, o + j * 4 + 1, none⟩ = some (.int .u8 (x.a : Int)) ∧ w.cell? ⟨g, o + j * 4 + 2, none⟩ = some (.int .u16 (x.n : Int)) ∧ w.cell? ⟨g, o + j * 4 + 3, none⟩ = some (.int .u8 (x.s : Int))
def MkAt (w : World) (mb : Nat) (xs : List XX) (left : Int) : Prop :=
 ∃ ad cap, w.heap[mb]? = some (.cells #[.slice ad xs.length cap, .int .i64 left] 99 (0, 0)) ∧ xs.length ≤ cap ∧ cap ≤ maxLen ∧ (0 < xs.length → ∃ g o, ad = some ⟨g, o, none⟩ ∧ g < mb ∧ XAt w g o xs)
theorem XAt.kept {w w' : World} {g o : Nat} {xs : List XX} (h : XAt w g o xs) (hg : w'.heap[g]? = w.heap[g]?) : XAt w' g o xs := fun j x hj => by
 obtain ⟨h0, h1, h2, h3⟩ := h j x hj
 exact ⟨(cell_kept hg).trans h0, (cell_kept hg).trans h1, (cell_kept hg).trans h2, (cell_kept hg).trans h3⟩
theorem MkAt.lt {w : World} {mb : Nat} {xs : List XX} {left : Int} (h : MkAt w mb xs left) : mb < w.heap.size := by
 obtain ⟨_, _, h1, _⟩ := h
 exact lt_of_block h1
theorem MkAt.kept {w w' : World} {mb : Nat} {xs : List XX} {left : Int} (h : MkAt w mb xs left) (hk : ∀ k, k ≤ mb → w'.heap[k]? = w.heap[k]?) : MkAt w' mb xs left := by
 obtain ⟨ad, cap, h1, h2, h3, h4⟩ := h
 refine ⟨ad, cap, (hk mb (Nat.le_refl _)).trans h1, h2, h3, fun hn => ?_⟩
 obtain ⟨g, o, e1, e2, e4⟩ := h4 hn
 exact ⟨g, o, e1, e2, e4.kept (hk g (by omega))⟩
theorem MkAt.below {w w' : World} {mb : Nat} {xs : List XX} {left : Int} (h : MkAt w mb xs left) (hb : Below w.heap.size w w') : MkAt w' mb xs left := h.kept fun k hk => hb.block k (Nat.lt_of_le_of_lt hk h.lt)
theorem set1 {w : World} {b : Nat} {x y v : Value} {t : TypeId} (h : w.heap[b]? = some (.cells #[x, y] t (0, 0))) : (w.setCell ⟨b, 1, none⟩ v).heap[b]? = some (.cells #[x, v] t (0, 0)) := by
 simp only [World.setCell, Array.getElem?_modify, h]
 rfl
theorem set0 {w : World} {b : Nat} {x y v : Value} {t : TypeId} (h : w.heap[b]? = some (.cells #[x, y] t (0, 0))) : (w.setCell ⟨b, 0, none⟩ v).heap[b]? = some (.cells #[v, y] t (0, 0)) := by
 simp only [World.setCell, Array.getElem?_modify, h]
 rfl
theorem grown_set {w w' : World} {b : Nat} (h : w.grownBy w' (some b)) (i : Nat) (v : Value) : w.grownBy (w'.setCell ⟨b, i, none⟩ v) (some b) :=
 ⟨h.os, h.tape, h.output, by simp [World.setCell]; exact h.size, fun k hk hn => (Below.heap_setCell _ _ _ _ (fun e => hn (by simp [e]))).trans (h.block k hk hn)⟩
theorem grown_refl (w : World) (r : Option Nat) : w.grownBy w r := ⟨rfl, rfl, rfl, Nat.le_refl _, fun _ _ _ => rfl⟩
theorem grown_below {w w' w2 : World} {r : Option Nat} (h : w.grownBy w' r) (hb : Below w'.heap.size w' w2) : w.grownBy w2 r :=
 ⟨hb.os.trans h.os, hb.tape.trans h.tape, hb.output.trans h.output, Nat.le_trans h.size hb.size, fun k hk hn => (hb.block k (Nat.lt_of_lt_of_le hk h.size)).trans (h.block k hk hn)⟩
theorem grown_alloc {w w' : World} {r : Option Nat} (h : w.grownBy w' r) (o : Obj) : w.grownBy (w'.alloc o) r := grown_below h ((Below.refl _ _).alloc (Nat.le_refl _) o)
theorem grown_trans {w w' w2 : World} {r : Option Nat} (h : w.grownBy w' r) (k : w'.grownBy w2 r) : w.grownBy w2 r :=
 ⟨k.os.trans h.os, k.tape.trans h.tape, k.output.trans h.output, Nat.le_trans h.size k.size, fun j hj hn => (k.block j (Nat.lt_of_lt_of_le hj h.size) hn).trans (h.block j hj hn)⟩
theorem next_any {w : World} {mb : Nat} {xs : List XX} {left : Int} (h : MkAt w mb xs left) (hl0 : -1000000000 ≤ left) (hl1 : left ≤ 1000000000) :
 Calls Tryz.prog 73 #[.pointer (some ⟨mb, 0, none⟩)] w fun e w' => e = .returned (xV (hd xs)) ∧ MkAt w' mb xs.tail (left - 1) ∧ w.grownBy w' (some mb) := by
 have hmb := h.lt
 obtain ⟨ad, cap, h1, h2, h3, h4⟩ := h
 have c0 : w.cell? ⟨mb, 0, none⟩ = some (.slice ad xs.length cap) := by simp [World.cell?, h1]
 have c1 : w.cell? ⟨mb, 1, none⟩ = some (.int .i64 left) := by simp [World.cell?, h1]
 have f0 : ∀ i, w.frozen? ⟨mb, i, none⟩ = false := fun i => by simp [World.frozen?, h1]
 have H1 := Lib.hid h1
 clear h1
 have H3 : Hid (cap ≤ maxLen) := h3
 unfold maxLen at h3
 cases xs with
 | nil =>
  go_enter Tryz.func73, Tryz.ntmps73
  go_wp2
  refine bodyPost_ret (v := xV (hd [])) (by simp [results, Tryz.results73, go_sem, xV, hd]) rfl ⟨rfl, ⟨ad, cap, ?_, h2, H3.out, fun h => absurd h (by simp)⟩, ?_⟩
  ·exact block_alloc (set1 H1.out) _
  ·exact grown_alloc (grown_set (grown_refl _ _) 1 _) _
 | cons x xs =>
  obtain ⟨g, o, rfl, hgm0, hX⟩ := h4 (by simp)
  have hgm : g ≠ mb := by omega
  have hgl : g < w.heap.size := by omega
  obtain ⟨q0, q1, q2, q3⟩ := hX 0 x rfl
  simp only [Nat.zero_mul, Nat.add_zero] at q0 q1 q2 q3
  have HX : Hid (XAt w g o (x :: xs)) := hX
  have HL2 : Hid (xs.length + 1 ≤ cap) := h2
  clear hX h4
  go_enter Tryz.func73, Tryz.ntmps73
  go_wp2
  all_goals refine bodyPost_ret (v := xV (hd (x :: xs))) (by simp [results, Tryz.results73, go_sem, xV, hd]) rfl ⟨rfl, ⟨_, _, block_alloc (block_alloc (set0 (set1 H1.out)) _) _, ?_, ?_, fun h => ⟨g, _, rfl, hgm0, ?_⟩⟩, ?_⟩
  all_goals first
   | exact grown_alloc (grown_alloc (grown_set (grown_set (grown_refl _ _) 1 _) 0 _) _) _
   | exact Nat.zero_le _
   | (have h5 := HL2.out; simp only [List.tail_cons] at *; omega)
   | (have h5 := HL2.out; omega)
   | (have := H3.out; unfold maxLen at *; omega)
   | (simp [World.setCell]; omega)
   | (intro j y hj
      have hh := HX.out (j + 1) y hj
      rw [show o + (j + 1) * 4 = o + 4 + j * 4 from by omega] at hh
      have hb : ∀ (A C : Obj) (u v : Value), ((((w.setCell ⟨mb, 1, none⟩ u).setCell ⟨mb, 0, none⟩ v).alloc A).alloc C).heap[g]? = w.heap[g]? := fun A C u v => by
       rw [Below.heap_alloc _ _ _ (by simp [World.setCell]; omega), Below.heap_alloc _ _ _ (by simp [World.setCell]; omega), Below.heap_setCell _ _ _ _ (by simpa using hgm), Below.heap_setCell _ _ _ _ (by simpa using hgm)]
      exact ⟨(cell_kept (hb _ _ _ _)).trans hh.1, (cell_kept (hb _ _ _ _)).trans hh.2.1, (cell_kept (hb _ _ _ _)).trans hh.2.2.1, (cell_kept (hb _ _ _ _)).trans hh.2.2.2⟩)
   | (exfalso; have h5 := HL2.out; simp only [List.tail_cons] at *; omega)
   | (exfalso; have h5 := HL2.out; omega)
def lnmL : List ByteArray := [⟨#[97]⟩, ⟨#[98]⟩, ⟨#[99]⟩, ⟨#[100]⟩, ⟨#[102]⟩, ⟨#[108, 101, 110]⟩, ⟨#[120, 49]⟩, ⟨#[95, 121]⟩]
def txL : List ByteArray := [⟨#[]⟩, ⟨#[107]⟩, ⟨#[97]⟩, ⟨#[115, 101, 97, 108]⟩, ⟨#[116, 119, 111, 32, 119, 111, 114, 100, 115]⟩, ⟨#[113, 34, 92, 10, 122]⟩]
def nm (n : Nat) : ByteArray := lnmL.getD (n % 8) ⟨#[]⟩
def tx (n : Nat) : ByteArray := txL.getD (n % 6) ⟨#[]⟩
theorem name_any (n : Nat) (h : n ≤ 255) (w : World) : Calls Tryz.prog 33 #[.int .u8 (n : Int)] w fun e w' => e = .returned (.string (nm n)) ∧ Below w.heap.size w w' := by
 have h8 : n % 8 < 8 := Nat.mod_lt _ (by decide)
 have htm : ((n : Int)).tmod 8 = ((n % 8 : Nat) : Int) := by rw [Int.tmod_eq_emod_of_nonneg (by omega)]; omega
 have hmm : (n : Int) % 8 = ((n % 8 : Nat) : Int) := by omega
 unfold nm
 generalize n % 8 = q at *
 rcases (show q = 0 ∨ q = 1 ∨ q = 2 ∨ q = 3 ∨ q = 4 ∨ q = 5 ∨ q = 6 ∨ q = 7 from by omega) with rfl | rfl | rfl | rfl | rfl | rfl | rfl | rfl
 all_goals
  go_enter Tryz.func33, Tryz.ntmps33
  go_wp2
  go_ret
  exact ⟨rfl, (Below.refl _ _).alloc (Nat.le_refl _) _⟩
theorem ltext_any (n : Nat) (h : n ≤ 255) (w : World) : Calls Tryz.prog 104 #[.int .u8 (n : Int)] w fun e w' => e = .returned (.string (tx n)) ∧ Below w.heap.size w w' := by
 have h8 : n % 6 < 6 := Nat.mod_lt _ (by decide)
 have htm : ((n : Int)).tmod 6 = ((n % 6 : Nat) : Int) := by rw [Int.tmod_eq_emod_of_nonneg (by omega)]; omega
 have hmm : (n : Int) % 6 = ((n % 6 : Nat) : Int) := by omega
 unfold tx
 generalize n % 6 = q at *
 rcases (show q = 0 ∨ q = 1 ∨ q = 2 ∨ q = 3 ∨ q = 4 ∨ q = 5 from by omega) with rfl | rfl | rfl | rfl | rfl | rfl
 all_goals
  go_enter Tryz.func104, Tryz.ntmps104
  go_wp2
  go_ret
  exact ⟨rfl, (Below.refl _ _).alloc (Nat.le_refl _) _⟩
end Go.Proofs.YtpboencfnjmmbaaGreatDoor
namespace Go.Proofs.YtpboencfnjmmbaaGreatDoor
open Go.RowKit TM
theorem nm_mem (n : Nat) : nm n ∈ lnmL := by
 have h8 : n % 8 < 8 := Nat.mod_lt _ (by decide)
 unfold nm
 generalize n % 8 = q at h8 ⊢
 rcases (show q = 0 ∨ q = 1 ∨ q = 2 ∨ q = 3 ∨ q = 4 ∨ q = 5 ∨ q = 6 ∨ q = 7 from by omega) with rfl | rfl | rfl | rfl | rfl | rfl | rfl | rfl <;> simp [lnmL]
theorem tx_mem (n : Nat) : tx n ∈ txL := by
 have h8 : n % 6 < 6 := Nat.mod_lt _ (by decide)
 unfold tx
 generalize n % 6 = q at h8 ⊢
 rcases (show q = 0 ∨ q = 1 ∨ q = 2 ∨ q = 3 ∨ q = 4 ∨ q = 5 from by omega) with rfl | rfl | rfl | rfl | rfl | rfl <;> simp [txL]
mutual
def wfE : TE → Prop
 | .mk op num text parts params body => (op ≤ 17 ∧ 0 ≤ num ∧ num ≤ 9223372036854775807) ∧ (op = 6 ∨ op = 7 → parts.length = 1) ∧ (8 ≤ op ∧ op ≤ 14 → parts.length = 2) ∧ (op = 15 → 1 ≤ parts.length) ∧ (op = 16 → parts.length % 2 = 0) ∧ (op ≤ 5 ∨ op = 17 → parts = []) ∧ (op ≠ 3 → num = 0) ∧ (op = 4 → text ∈ txL) ∧ (op = 5 → text ∈ lnmL) ∧ (op ≠ 4 → op ≠ 5 → text = ⟨#[]⟩) ∧ (op ≠ 17 → params = [] ∧ body = []) ∧ (∀ p ∈ params, p ∈ lnmL) ∧ wfEs parts ∧ wfSs body
def wfEs : List TE → Prop
 | [] => True
 | e :: l => wfE e ∧ wfEs l
def wfS : TS → Prop
 | .mk kind name exprs body els pos => kind ≤ 8 ∧ (kind = 2 → exprs.length = 3) ∧ (kind ≠ 2 ∧ kind ≠ 7 → exprs.length = 1) ∧ (kind = 7 → exprs = []) ∧ (kind = 0 ∨ kind = 1 ∨ kind = 7 → name ∈ lnmL) ∧ (kind ≠ 0 → kind ≠ 1 → kind ≠ 7 → name = ⟨#[]⟩) ∧ (kind ≠ 3 → kind ≠ 4 → kind ≠ 7 → body = []) ∧ (kind ≠ 3 → kind ≠ 7 → els = []) ∧ pos = 0 ∧ wfEs exprs ∧ wfSs body ∧ wfSs els
def wfSs : List TS → Prop
 | [] => True
 | s :: l => wfS s ∧ wfSs l
end
mutual
def dpE : TE → Nat
 | .mk _ _ _ parts _ body => 1 + max (dpEs parts) (dpSs body)
def dpEs : List TE → Nat
 | [] => 0
 | e :: l => max (dpE e) (dpEs l)
def dpS : TS → Nat
 | .mk _ _ exprs body els _ => 1 + max (dpEs exprs) (max (dpSs body) (dpSs els))
def dpSs : List TS → Nat
 | [] => 0
 | s :: l => max (dpS s) (dpSs l)
end
theorem wfEs_all : ∀ {l : List TE}, (∀ e ∈ l, wfE e) → wfEs l
 | [], _ => trivial
 | e :: l, h => ⟨h e (by simp), wfEs_all fun x hx => h x (by simp [hx])⟩
theorem wfSs_all : ∀ {l : List TS}, (∀ e ∈ l, wfS e) → wfSs l
 | [], _ => trivial
 | e :: l, h => ⟨h e (by simp), wfSs_all fun x hx => h x (by simp [hx])⟩
theorem dpEs_all {n : Nat} : ∀ {l : List TE}, (∀ e ∈ l, dpE e ≤ n) → dpEs l ≤ n
 | [], _ => Nat.zero_le _
 | e :: l, h => by
  have h1 := h e (by simp)
  have h2 := dpEs_all (l := l) fun x hx => h x (by simp [hx])
  simp only [dpEs]
  omega
theorem dpSs_all {n : Nat} : ∀ {l : List TS}, (∀ e ∈ l, dpS e ≤ n) → dpSs l ≤ n
 | [], _ => Nat.zero_le _
 | e :: l, h => by
  have h1 := h e (by simp)
  have h2 := dpSs_all (l := l) fun x hx => h x (by simp [hx])
  simp only [dpSs]
  omega
def sixE : TE → Value → Value → Value → List Value
 | .mk op num text _ _ _, vp, vn, vb => [.int .i64 (op : Int), .int .i64 num, .string text, vp, vn, vb]
def sixS : TS → Value → Value → Value → List Value
 | .mk kind name _ _ _ pos, vx, vb, ve => [.int .i64 (kind : Int), .string name, vx, vb, ve, .int .i64 pos]
theorem sixE_len (e : TE) (a b c : Value) : (sixE e a b c).length = 6 := by cases e; rfl
theorem sixS_len (e : TS) (a b c : Value) : (sixS e a b c).length = 6 := by cases e; rfl
def EsC (P : Nat → Prop) (w : World) : List TE → List Value → Prop
 | [], cs => cs = []
 | e :: l, cs => ∃ a b c cs', cs = sixE e a b c ++ cs' ∧ EIn P w e a b c ∧ EsC P w l cs'
def SsC (P : Nat → Prop) (w : World) : List TS → List Value → Prop
 | [], cs => cs = []
 | e :: l, cs => ∃ a b c cs', cs = sixS e a b c ++ cs' ∧ SIn P w e a b c ∧ SsC P w l cs'
section
variable {P Q : Nat → Prop} {w w' : World}
theorem EsC.kept (H : ∀ k, P k → Q k ∧ w'.heap[k]? = w.heap[k]?) : ∀ {l : List TE} {cs : List Value}, EsC P w l cs → EsC Q w' l cs
 | [], cs, h => h
 | e :: l, cs, ⟨a, b, c, cs', h1, h2, h3⟩ => ⟨a, b, c, cs', h1, EIn.kept H e h2, h3.kept H⟩
theorem SsC.kept (H : ∀ k, P k → Q k ∧ w'.heap[k]? = w.heap[k]?) : ∀ {l : List TS} {cs : List Value}, SsC P w l cs → SsC Q w' l cs
 | [], cs, h => h
 | e :: l, cs, ⟨a, b, c, cs', h1, h2, h3⟩ => ⟨a, b, c, cs', h1, SIn.kept H e h2, h3.kept H⟩
theorem EsC.snoc {e : TE} {a b c : Value} (he : EIn P w e a b c) : ∀ {l : List TE} {cs : List Value}, EsC P w l cs → EsC P w (l ++ [e]) (cs ++ sixE e a b c)
 | [], cs, h => by rw [show cs = [] from h]; exact ⟨a, b, c, [], by simp, he, rfl⟩
 | x :: l, cs, ⟨a', b', c', cs', h1, h2, h3⟩ => ⟨a', b', c', cs' ++ sixE e a b c, by rw [h1]; simp, h2, h3.snoc he⟩
theorem SsC.snoc {e : TS} {a b c : Value} (he : SIn P w e a b c) : ∀ {l : List TS} {cs : List Value}, SsC P w l cs → SsC P w (l ++ [e]) (cs ++ sixS e a b c)
 | [], cs, h => by rw [show cs = [] from h]; exact ⟨a, b, c, [], by simp, he, rfl⟩
 | x :: l, cs, ⟨a', b', c', cs', h1, h2, h3⟩ => ⟨a', b', c', cs' ++ sixS e a b c, by rw [h1]; simp, h2, h3.snoc he⟩
theorem EsC.at {g : Nat} : ∀ {l : List TE} {cs : List Value} {o : Nat}, EsC P w l cs → (∀ j u, cs[j]? = some u → w.cell? ⟨g, o + j, none⟩ = some u) → EsAt P w g o l
 | [], cs, o, _, _ => trivial
 | e :: l, cs, o, ⟨a, b, c, cs', h1, h2, h3⟩, hc => by
  subst h1
  refine ⟨⟨a, b, c, ?_, h2⟩, h3.at fun j u hj => ?_⟩
  ·cases e
   exact ⟨hc 0 _ rfl, hc 1 _ rfl, hc 2 _ rfl, hc 3 _ rfl, hc 4 _ rfl, hc 5 _ rfl⟩
  ·rw [show o + 6 + j = o + (j + 6) from by omega]
   refine hc (j + 6) u ?_
   rw [List.getElem?_append_right (by rw [sixE_len]; omega), sixE_len]
   simpa using hj
theorem SsC.at {g : Nat} : ∀ {l : List TS} {cs : List Value} {o : Nat}, SsC P w l cs → (∀ j u, cs[j]? = some u → w.cell? ⟨g, o + j, none⟩ = some u) → SsAt P w g o l
 | [], cs, o, _, _ => trivial
 | e :: l, cs, o, ⟨a, b, c, cs', h1, h2, h3⟩, hc => by
  subst h1
  refine ⟨⟨a, b, c, ?_, h2⟩, h3.at fun j u hj => ?_⟩
  ·cases e
   exact ⟨hc 0 _ rfl, hc 1 _ rfl, hc 2 _ rfl, hc 3 _ rfl, hc 4 _ rfl, hc 5 _ rfl⟩
  ·rw [show o + 6 + j = o + (j + 6) from by omega]
   refine hc (j + 6) u ?_
   rw [List.getElem?_append_right (by rw [sixS_len]; omega), sixS_len]
   simpa using hj
end
def Fresh (n m : Nat) (g : Nat) : Prop := n ≤ g ∧ g < m
def EO (d : Nat) : Prop := ∀ (xs : List XX) (left : Int), (∀ x ∈ xs, x.ok) → -500000000 + (10 : Int) ^ d ≤ left → left ≤ 1000 →
 ∃ (e : TE) (ys : List XX) (lf : Int), (∀ y ∈ ys, y.ok) ∧ ys.length ≤ xs.length - 1 ∧ left - (10 : Int) ^ d ≤ lf ∧ lf ≤ left ∧ wfE e ∧ dpE e ≤ d + 1 ∧ (txE e).length ≤ 100 * 10 ^ d ∧
  ∀ (w : World) (mb : Nat), MkAt w mb xs left → Calls Tryz.prog 74 #[.pointer (some ⟨mb, 0, none⟩), .int .i64 ((d : Int) - 1)] w fun en w' => ∃ a b c, en = .returned (exV e a b c) ∧ MkAt w' mb ys lf ∧ w.grownBy w' (some mb) ∧ EIn (Fresh w.heap.size w'.heap.size) w' e a b c
def SO (d : Nat) : Prop := ∀ (xs : List XX) (left : Int), (∀ x ∈ xs, x.ok) → -500000000 + (10 : Int) ^ (d + 1) ≤ left → left ≤ 1000 →
 ∃ (e : TS) (ys : List XX) (lf : Int), (∀ y ∈ ys, y.ok) ∧ ys.length ≤ xs.length - 1 ∧ left - (10 : Int) ^ (d + 1) ≤ lf ∧ lf < left ∧ wfS e ∧ dpS e ≤ d + 2 ∧ (txS e).length ≤ 100 * 10 ^ (d + 1) ∧
  ∀ (w : World) (mb : Nat), MkAt w mb xs left → Calls Tryz.prog 46 #[.pointer (some ⟨mb, 0, none⟩), .int .i64 (d : Int)] w fun en w' => ∃ a b c, en = .returned (stV e a b c) ∧ MkAt w' mb ys lf ∧ w.grownBy w' (some mb) ∧ SIn (Fresh w.heap.size w'.heap.size) w' e a b c
end Go.Proofs.YtpboencfnjmmbaaGreatDoor
namespace Go.Proofs.YtpboencfnjmmbaaGreatDoor
open Go.RowKit TM
theorem infoExpr : (Tryz.prog.info? 65).map (fun i => (i.zero, i.size, i.bytes)) = some (some (.agg #[.int .i64 0, .int .i64 0, .string ⟨#[]⟩, .slice none 0 0, .slice none 0 0, .slice none 0 0]), 6, 104) := by kernel_rfl
theorem infoStmt : (Tryz.prog.info? 60).map (fun i => (i.zero, i.size, i.bytes)) = some (some (.agg #[.int .i64 0, .string ⟨#[]⟩, .slice none 0 0, .slice none 0 0, .slice none 0 0, .int .i64 0]), 6, 104) := by kernel_rfl
structure Sa (wr W : World) (mb : Nat) (Y : List XX) (L : Int) (e : TE) (x y z : Value) : Prop where
 mkr : MkAt W mb Y L
 gr : wr.grownBy W (some mb)
 inn : EIn (Fresh wr.heap.size W.heap.size) W e x y z
structure Sb (wr W : World) (mb : Nat) (Y : List XX) (L : Int) (e : TE) (x y z : Value) (g : Nat) : Prop where
 mkr : MkAt W mb Y L
 gr : wr.grownBy W (some mb)
 inn : EIn (Fresh wr.heap.size g) W e x y z
 blk : W.heap[g]? = some (.cells (sixE e x y z).toArray 65 (0, 0))
 le : wr.heap.size ≤ g
structure Sc (wr W : World) (mb bs : Nat) (Y : List XX) (L : Int) (e : TE) (x y z vp v : Value) (j : Nat) (cs : List Value) : Prop where
 mkr : MkAt W mb Y L
 size : wr.heap.size ≤ W.heap.size
 os : W.os = wr.os
 tape : W.tape = wr.tape
 output : W.output = wr.output
 keep : ∀ k, k < wr.heap.size → k ≠ mb → vp.ownBlock ≠ some k → W.heap[k]? = wr.heap[k]?
 row : W.ownsRow bs 65 6 v (j + 1) (cs ++ sixE e x y z)
 own : ∀ k, v.ownBlock = some k → vp.ownBlock = some k ∨ wr.heap.size ≤ k
 inn : EIn (fun k => wr.heap.size ≤ k ∧ k < W.heap.size ∧ v.ownBlock ≠ some k) W e x y z
theorem six_cells {P : Nat → Prop} {w : World} {e : TE} {x y z : Value} (h : EIn P w e x y z) : ∀ u ∈ sixE e x y z, u.oneCell' = true := by
 cases e with
 | mk op num text parts params body =>
  obtain ⟨_, ⟨pa, pc, rfl, _⟩, ⟨na, nc, rfl, _⟩, ⟨ba, bc, rfl, _⟩⟩ := h
  intro u hu
  simp [sixE] at hu
  rcases hu with rfl | rfl | rfl | rfl | rfl | rfl <;> rfl
theorem Sa.lay {wr W : World} {mb : Nat} {Y : List XX} {L : Int} {e : TE} {x y z : Value} (h : Sa wr W mb Y L e x y z) {cs : Array Value} (hcs : cs.toList = sixE e x y z) : Sb wr (W.alloc (.cells cs 65)) mb Y L e x y z W.heap.size := by
 have hb : Below W.heap.size W (W.alloc (.cells cs 65)) := (Below.refl _ _).alloc (Nat.le_refl _) _
 refine ⟨h.mkr.below hb, grown_alloc h.gr _, EIn.kept (fun k hk => ⟨hk, hb.block k hk.2⟩) e h.inn, ?_, h.gr.size⟩
 rw [← hcs]
 exact heap_alloc_new W _
theorem Sb.app {wr W : World} {mb bs : Nat} {Y : List XX} {L : Int} {e : TE} {x y z vp : Value} {g j : Nat} {cs : List Value} (h : Sb wr W mb Y L e x y z g) (hr : wr.ownsRow bs 65 6 vp j cs) (hmb : mb < bs) (hbs : bs ≤ wr.heap.size) (hj : j ≤ 1000000) (ty : TypeId) :
 ∃ v W', (Builtin.append_ #[58, 58] ty #[vp, .slice (some ⟨g, 0, none⟩) 1 1]).run Tryz.prog W = .ok v W' ∧ Sc wr W' mb bs Y L e x y z vp v j cs := by
 obtain ⟨i0, hi, hz0, hz1, hz2⟩ := info_parts infoExpr
 have hown : W.ownsRow bs 65 6 vp j cs := by
  refine ⟨hr.1, ?_⟩
  rcases hr.2 with h0 | ⟨k, cap, cu, rfl, hk, hh, r⟩
  ·exact .inl h0
  ·exact .inr ⟨k, cap, cu, rfl, hk, (h.gr.block k (lt_of_block hh) (by simp; omega)).trans hh, r⟩
 have hlt : ∀ k, vp.ownBlock = some k → bs ≤ k ∧ k < wr.heap.size := fun k hk => hr.lt k hk
 obtain ⟨v, W', hrun, r1, r2, r3⟩ := run_append_own2 (P := Tryz.prog) W bs 58 ty 65 i0 _ 6 104 Tryz.underlying58 hi hz0 hz1 hz2 rfl (by decide) vp j cs hown ⟨g, 0, none⟩ 1 1 (sixE e x y z) (by rw [sixE_len]) (fun q u hq => by
  have : (sixE e x y z).toArray[q]? = some u := by simpa using hq
  by_cases h0 : q = 0
  ·subst h0; simp [Addr.add, World.cell?, h.blk, this]
  ·simp [Addr.add, World.cell?, h0, h.blk, this]) (six_cells h.inn) (by decide) (by unfold maxLen; omega) (by omega) (Nat.le_trans hbs h.gr.size)
 have hown3 : ∀ k, v.ownBlock = some k → vp.ownBlock = some k ∨ W.heap.size ≤ k := fun k hk => by
  rcases r3 with r3 | r3
  ·exact .inl (r3.symm.trans hk)
  ·rw [r3] at hk; cases hk; exact .inr (Nat.le_refl _)
 refine ⟨v, W', hrun, h.mkr.kept fun k hk => r2.block k (Nat.lt_of_le_of_lt hk h.mkr.lt) (fun e1 => by have := (hlt k e1.symm).1; omega), Nat.le_trans h.gr.size r2.size, r2.os.trans h.gr.os, r2.tape.trans h.gr.tape, r2.output.trans h.gr.output, fun k hk h1 h2 => ?_, r1, fun k hk => ?_, ?_⟩
 ·rw [r2.block k (Nat.lt_of_lt_of_le hk h.gr.size) (fun e1 => h2 e1.symm), h.gr.block k hk (by simpa using h1)]
 ·rcases hown3 k hk with h1 | h1
  ·exact .inl h1
  ·exact .inr (Nat.le_trans h.gr.size h1)
 ·have hgs := lt_of_block h.blk
  have hss := r2.size
  refine EIn.kept (P := Fresh wr.heap.size g) (fun k hk => ?_) e h.inn
  have hk1 : wr.heap.size ≤ k := hk.1
  have hk2 : k < g := hk.2
  have q1 : v.ownBlock ≠ some k := fun e1 => by
   rcases hown3 k e1 with h1 | h1
   ·have h2 := (hlt k h1).2; omega
   ·omega
  have q2 : W'.heap[k]? = W.heap[k]? := r2.block k (by omega) (fun e1 => by have h2 := (hlt k e1.symm).2; omega)
  exact ⟨⟨hk1, by omega, q1⟩, q2⟩
structure Sd (wr W : World) (mb bs gx : Nat) (T : TypeId) (bc : Value → Array Value) (Y : List XX) (L : Int) (e : TE) (x y z vp v : Value) (j : Nat) (cs : List Value) : Prop where
 mkr : MkAt W mb Y L
 size : wr.heap.size ≤ W.heap.size
 os : W.os = wr.os
 tape : W.tape = wr.tape
 output : W.output = wr.output
 keep : ∀ k, k < wr.heap.size → k ≠ mb → k ≠ gx → vp.ownBlock ≠ some k → W.heap[k]? = wr.heap[k]?
 row : W.ownsRow bs 65 6 v (j + 1) (cs ++ sixE e x y z)
 own : ∀ k, v.ownBlock = some k → vp.ownBlock = some k ∨ wr.heap.size ≤ k
 inn : EIn (fun k => wr.heap.size ≤ k ∧ k < W.heap.size ∧ v.ownBlock ≠ some k) W e x y z
 box : W.heap[gx]? = some (.cells (bc v) T (0, 0))
theorem setF {w : World} {b f : Nat} {cs : Array Value} {v : Value} {t : TypeId} (h : w.heap[b]? = some (.cells cs t (0, 0))) : (w.setCell ⟨b, f, none⟩ v).heap[b]? = some (.cells (cs.setIfInBounds f v) t (0, 0)) := by
 simp only [World.setCell, Array.getElem?_modify, h]
 rfl
theorem Sc.store {wr W : World} {mb bs gx f : Nat} {T : TypeId} {bc : Value → Array Value} {Y : List XX} {L : Int} {e : TE} {x y z vp v : Value} {j : Nat} {cs : List Value} (h : Sc wr W mb bs Y L e x y z vp v j cs) (hvp : ∀ k, vp.ownBlock = some k → bs ≤ k)
 (hbox : wr.heap[gx]? = some (.cells (bc vp) T (0, 0))) (hm : mb < gx) (hx : gx < bs) (hbs : bs ≤ wr.heap.size) (hbc : (bc vp).setIfInBounds f v = bc v) : Sd wr (W.setCell ⟨gx, f, none⟩ v) mb bs gx T bc Y L e x y z vp v j cs := by
 have hlt := lt_of_block hbox
 have hb : W.heap[gx]? = some (.cells (bc vp) T (0, 0)) := (h.keep gx hlt (by omega) (fun e1 => by have := hvp gx e1; omega)).trans hbox
 have hoth : ∀ k, k ≠ gx → (W.setCell ⟨gx, f, none⟩ v).heap[k]? = W.heap[k]? := fun k hk => Below.heap_setCell _ _ _ _ hk
 have hsz : (W.setCell ⟨gx, f, none⟩ v).heap.size = W.heap.size := by simp [World.setCell]
 have hvo : ∀ k, v.ownBlock = some k → bs ≤ k := fun k hk => (h.row.lt k hk).1
 refine ⟨h.mkr.kept fun k hk => hoth k (by omega), by rw [hsz]; exact h.size, h.os, h.tape, h.output, fun k h1 h2 h3 h4 => (hoth k h3).trans (h.keep k h1 h2 h4), ⟨h.row.1, ?_⟩, h.own, ?_, ?_⟩
 ·rcases h.row.2 with h0 | ⟨g, cap, cu, rfl, hg, hh, r⟩
  ·exact .inl h0
  ·exact .inr ⟨g, cap, cu, rfl, hg, (hoth g (by omega)).trans hh, r⟩
 ·refine EIn.kept (fun k hk => ⟨⟨hk.1, by rw [hsz]; exact hk.2.1, hk.2.2⟩, hoth k (by have := hk.1; omega)⟩) e h.inn
 ·rw [setF hb, hbc]
structure JX (wr : World) (mb bs gx : Nat) (T : TypeId) (bc : Value → Array Value) (Y : List XX) (L : Int) (e : TE) (vp : Value) (j : Nat) (cs : List Value) (ic ib ip is tc tb tp : Nat) (l : Nat → Bool) (a : Act) (W : World) : Prop where
 n0 : l ic = false → W = wr.drew
 n1 : l ic = true → l ib = false → ∃ x y z, a.eval (.tmp tc) = exV e x y z ∧ Sa wr W mb Y L e x y z
 n2 : l ib = true → l ip = false → ∃ g x y z, a.eval (.tmp tb) = .slice (some ⟨g, 0, none⟩) 1 1 ∧ Sb wr W mb Y L e x y z g
 n3 : l ip = true → l is = false → ∃ x y z, Sc wr W mb bs Y L e x y z vp (a.eval (.tmp tp)) j cs
 n4 : l is = true → ∃ x y z v, Sd wr W mb bs gx T bc Y L e x y z vp v j cs
section
variable {wr : World} {mb bs gx : Nat} {T : TypeId} {bc : Value → Array Value} {Y : List XX} {L : Int} {e : TE} {vp : Value} {j : Nat} {cs : List Value} {ic ib ip is tc tb tp : Nat} {l : Nat → Bool} {a : Act} {W : World}
theorem JX.pure (h : JX wr mb bs gx T bc Y L e vp j cs ic ib ip is tc tb tp l a W) {i d : Nat} {u : Value} (hi : ic ≠ i ∧ ib ≠ i ∧ ip ≠ i ∧ is ≠ i) (hd : tc ≠ d ∧ tb ≠ d ∧ tp ≠ d) : JX wr mb bs gx T bc Y L e vp j cs ic ib ip is tc tb tp (more l i) (a.put (some d) u) W := by
 refine ⟨?_, ?_, ?_, ?_, ?_⟩
 all_goals simp only [more_ne _ hi.1, more_ne _ hi.2.1, more_ne _ hi.2.2.1, more_ne _ hi.2.2.2, eval_other hd.1, eval_other hd.2.1, eval_other hd.2.2]
 ·exact h.n0
 ·exact h.n1
 ·exact h.n2
 ·exact h.n3
 ·exact h.n4
theorem JX.box (h : JX wr mb bs gx T bc Y L e vp j cs ic ib ip is tc tb tp l a W) (hs : l is = false) (hvp : ∀ k, vp.ownBlock = some k → bs ≤ k) (hbox : wr.heap[gx]? = some (.cells (bc vp) T (0, 0))) (hm : mb < gx) (hx : gx < bs) : W.heap[gx]? = some (.cells (bc vp) T (0, 0)) := by
 have hlt := lt_of_block hbox
 cases h1 : l ic with
 | false => rw [h.n0 h1]; exact hbox
 | true =>
  cases h2 : l ib with
  | false =>
   obtain ⟨x, y, z, _, hS⟩ := h.n1 h1 h2
   exact (hS.gr.block gx hlt (by simp; omega)).trans hbox
  | true =>
   cases h3 : l ip with
   | false =>
    obtain ⟨g, x, y, z, _, hS⟩ := h.n2 h2 h3
    exact (hS.gr.block gx hlt (by simp; omega)).trans hbox
   | true =>
    obtain ⟨x, y, z, hS⟩ := h.n3 h3 hs
    exact (hS.keep gx hlt (by omega) (fun e1 => by have := hvp gx e1; omega)).trans hbox
theorem JX.start (a : Act) : JX wr mb bs gx T bc Y L e vp j cs ic ib ip is tc tb tp (fun _ => false) a wr.drew :=
 ⟨fun _ => rfl, fun h => by simp at h, fun h => by simp at h, fun h => by simp at h, fun h => by simp at h⟩
theorem JX.call (h : JX wr mb bs gx T bc Y L e vp j cs ic ib ip is tc tb tp l a W) (hb : l ib = false) (hp : l ip = false) (hs : l is = false) (hne : ib ≠ ic ∧ ip ≠ ic ∧ is ≠ ic) (hd : tc < a.tmps.size) {x y z : Value} {W' : World} (hS : Sa wr W' mb Y L e x y z) : JX wr mb bs gx T bc Y L e vp j cs ic ib ip is tc tb tp (more l ic) (a.put (some tc) (exV e x y z)) W' := by
 refine ⟨fun q => ?_, fun _ _ => ⟨x, y, z, ?_, hS⟩, fun q => ?_, fun q => ?_, fun q => ?_⟩
 ·rw [more_self] at q; cases q
 ·rw [eval_put _ _ _ _ hd, if_pos rfl]
 ·rw [more_ne _ hne.1, hb] at q; cases q
 ·rw [more_ne _ hne.2.1, hp] at q; cases q
 ·rw [more_ne _ hne.2.2, hs] at q; cases q
theorem JX.lay (h : JX wr mb bs gx T bc Y L e vp j cs ic ib ip is tc tb tp l a W) (hc : l ic = true) (hp : l ip = false) (hs : l is = false) (hne : ic ≠ ib ∧ ip ≠ ib ∧ is ≠ ib) (hd : tb < a.tmps.size) {x y z : Value} {g : Nat} {W' : World} (hS : Sb wr W' mb Y L e x y z g) : JX wr mb bs gx T bc Y L e vp j cs ic ib ip is tc tb tp (more l ib) (a.put (some tb) (.slice (some ⟨g, 0, none⟩) 1 1)) W' := by
 refine ⟨fun q => ?_, fun _ q => ?_, fun _ _ => ⟨g, x, y, z, ?_, hS⟩, fun q => ?_, fun q => ?_⟩
 ·rw [more_ne _ hne.1, hc] at q; cases q
 ·rw [more_self] at q; cases q
 ·rw [eval_put _ _ _ _ hd, if_pos rfl]
 ·rw [more_ne _ hne.2.1, hp] at q; cases q
 ·rw [more_ne _ hne.2.2, hs] at q; cases q
theorem JX.app (h : JX wr mb bs gx T bc Y L e vp j cs ic ib ip is tc tb tp l a W) (hc : l ic = true) (hb : l ib = true) (hs : l is = false) (hne : ic ≠ ip ∧ ib ≠ ip ∧ is ≠ ip) (hd : tp < a.tmps.size) {x y z v : Value} {W' : World} (hS : Sc wr W' mb bs Y L e x y z vp v j cs) : JX wr mb bs gx T bc Y L e vp j cs ic ib ip is tc tb tp (more l ip) (a.put (some tp) v) W' := by
 refine ⟨fun q => ?_, fun _ q => ?_, fun _ q => ?_, fun _ _ => ⟨x, y, z, ?_⟩, fun q => ?_⟩
 ·rw [more_ne _ hne.1, hc] at q; cases q
 ·rw [more_ne _ hne.2.1, hb] at q; cases q
 ·rw [more_self] at q; cases q
 ·rw [eval_put _ _ _ _ hd, if_pos rfl]; exact hS
 ·rw [more_ne _ hne.2.2, hs] at q; cases q
theorem JX.put (hc : l ic = true) (hb : l ib = true) (hp : l ip = true) (hne : ic ≠ is ∧ ib ≠ is ∧ ip ≠ is) {x y z v : Value} {W' : World} (hS : Sd wr W' mb bs gx T bc Y L e x y z vp v j cs) : JX wr mb bs gx T bc Y L e vp j cs ic ib ip is tc tb tp (more l is) a W' := by
 refine ⟨fun q => ?_, fun _ q => ?_, fun _ q => ?_, fun _ q => ?_, fun _ => ⟨x, y, z, v, hS⟩⟩
 ·rw [more_ne _ hne.1, hc] at q; cases q
 ·rw [more_ne _ hne.2.1, hb] at q; cases q
 ·rw [more_ne _ hne.2.2, hp] at q; cases q
 ·rw [more_self] at q; cases q
end
end Go.Proofs.YtpboencfnjmmbaaGreatDoor
