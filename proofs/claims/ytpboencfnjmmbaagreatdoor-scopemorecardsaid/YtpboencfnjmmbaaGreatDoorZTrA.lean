/-
 TrMath, TrLists, joined.
 Conditions: as each theorem says.
-/
import Derived.WalkKit
import Derived.Lib.AppendIntMem
set_option linter.unusedVariables false
namespace Go.Proofs.YtpboencfnjmmbaaGreatDoor.TM
mutual
inductive TE where
 | mk (op : Nat) (num : Int) (text : ByteArray) (parts : List TE) (params : List ByteArray) (body : List TS)
inductive TS where
 | mk (kind : Nat) (name : ByteArray) (exprs : List TE) (body els : List TS) (pos : Int)
end
abbrev Bs := List UInt8
def nilT : Bs := [110, 105, 108]
def pt (l : List Bs) (i : Nat) : Bs := l.getD i nilT
def sign : Nat → Bs
 | 8 => [43]
 | 9 => [45]
 | 10 => [42]
 | 11 => [61, 61]
 | 12 => [33, 61]
 | 13 => [60]
 | _ => []
def commas : List Bs → Bs
 | [] => []
 | x :: l => x ++ l.flatMap fun y => [44, 32] ++ y
def pairs : List Bs → List Bs
 | [] => []
 | [k] => [[91] ++ k ++ [93, 58, 32] ++ nilT]
 | k :: v :: l => ([91] ++ k ++ [93, 58, 32] ++ v) :: pairs l
def quo (c : UInt8) : Bs := if c.toNat = 10 then [92, 110] else if c.toNat = 34 ∨ c.toNat = 92 then [92, c] else [c]
def quoteT (s : Bs) : Bs := [34] ++ s.flatMap quo ++ [34]
def blockT (b : Bs) : Bs := [123, 10] ++ b ++ [125]
def unT (c : UInt8) (ls : List Bs) : Bs := [40, c] ++ pt ls 0 ++ [41]
def binT (s : Bs) (ls : List Bs) : Bs := [40] ++ pt ls 0 ++ [32] ++ s ++ [32] ++ pt ls 1 ++ [41]
def fieldT (ls : List Bs) : Bs := pt ls 0 ++ [91] ++ pt ls 1 ++ [93]
def callT (ls : List Bs) : Bs := pt ls 0 ++ [40] ++ commas (ls.drop 1) ++ [41]
def recT (ls : List Bs) : Bs := [123] ++ commas (pairs ls) ++ [125]
def fnT (ps : List ByteArray) (b : Bs) : Bs := [102, 110, 40] ++ commas (ps.map fun p => p.data.toList) ++ [41, 32] ++ blockT b
def exT (op : Nat) (num : Int) (text : ByteArray) (ls : List Bs) (ps : List ByteArray) (b : Bs) : Bs :=
 if op = 0 then nilT
 else if op = 1 then [102, 97, 108, 115, 101]
 else if op = 2 then [116, 114, 117, 101]
 else if op = 3 then Lib.itoa num
 else if op = 4 then quoteT text.data.toList
 else if op = 5 then text.data.toList
 else if op = 6 then unT 45 ls
 else if op = 7 then unT 33 ls
 else if op ≤ 13 then binT (sign op) ls
 else if op = 14 then fieldT ls
 else if op = 15 then callT ls
 else if op = 16 then recT ls
 else if op = 17 then fnT ps b
 else []
def simpleT (kind : Nat) (name : ByteArray) (ls : List Bs) : Bs :=
 if kind = 0 then [108, 101, 116, 32] ++ name.data.toList ++ [32, 61, 32] ++ pt ls 0
 else if kind = 1 then name.data.toList ++ [32, 61, 32] ++ pt ls 0
 else if kind = 2 then fieldT ls ++ [32, 61, 32] ++ pt ls 2
 else if kind = 5 then [114, 101, 116, 117, 114, 110, 32] ++ pt ls 0
 else if kind = 6 then [116, 104, 114, 111, 119, 32] ++ pt ls 0
 else pt ls 0
def blocksT (kind : Nat) (name : ByteArray) (ls : List Bs) (b : Bs) (noE : Bool) (e : Bs) : Bs :=
 if kind = 3 then [105, 102, 32] ++ pt ls 0 ++ [32] ++ blockT b ++ (if noE then [] else [32, 101, 108, 115, 101, 32] ++ blockT e)
 else if kind = 4 then [119, 104, 105, 108, 101, 32] ++ pt ls 0 ++ [32] ++ blockT b
 else if kind = 7 then [116, 114, 121, 32] ++ blockT b ++ [32, 99, 97, 116, 99, 104, 32] ++ name.data.toList ++ [32] ++ blockT e
 else []
def stT (kind : Nat) (name : ByteArray) (ls : List Bs) (b : Bs) (noE : Bool) (e : Bs) : Bs :=
 if kind = 3 ∨ kind = 4 ∨ kind = 7 then blocksT kind name ls b noE e ++ [10] else simpleT kind name ls ++ [59] ++ [10]
mutual
def txE : TE → Bs
 | .mk op num text parts params body => exT op num text (txEs parts) params (txSs body)
def txEs : List TE → List Bs
 | [] => []
 | e :: l => txE e :: txEs l
def txS : TS → Bs
 | .mk kind name exprs body els _ => stT kind name (txEs exprs) (txSs body) els.isEmpty (txSs els)
def txSs : List TS → Bs
 | [] => []
 | s :: l => txS s ++ txSs l
end
def StrAt (w : World) (g : Nat) : Nat → List ByteArray → Prop
 | _, [] => True
 | o, s :: l => w.cell? ⟨g, o, none⟩ = some (.string s) ∧ StrAt w g (o + 1) l
def SlAt (P : Nat → Prop) (v : Value) (n : Nat) (A : Nat → Nat → Prop) : Prop := ∃ a cap, v = .slice a n cap ∧ n ≤ cap ∧ cap ≤ maxLen ∧ (0 < n → ∃ g o, a = some ⟨g, o, none⟩ ∧ P g ∧ A g o)
mutual
def EIn (P : Nat → Prop) (w : World) : TE → Value → Value → Value → Prop
 | .mk op num text parts params body, vp, vn, vb => (op ≤ 17 ∧ 0 ≤ num ∧ num ≤ 9223372036854775807) ∧ SlAt P vp parts.length (fun g o => EsAt P w g o parts) ∧ SlAt P vn params.length (fun g o => StrAt w g o params) ∧ SlAt P vb body.length (fun g o => SsAt P w g o body)
def EsAt (P : Nat → Prop) (w : World) (g : Nat) : Nat → List TE → Prop
 | _, [] => True
 | o, e :: l => (∃ vp vn vb, ECells w g o e vp vn vb ∧ EIn P w e vp vn vb) ∧ EsAt P w g (o + 6) l
def ECells (w : World) (g o : Nat) : TE → Value → Value → Value → Prop
 | .mk op num text _ _ _, vp, vn, vb => w.cell? ⟨g, o, none⟩ = some (.int .i64 (op : Int)) ∧ w.cell? ⟨g, o + 1, none⟩ = some (.int .i64 num) ∧ w.cell? ⟨g, o + 2, none⟩ = some (.string text) ∧ w.cell? ⟨g, o + 3, none⟩ = some vp ∧ w.cell? ⟨g, o + 4, none⟩ = some vn ∧ w.cell? ⟨g, o + 5, none⟩ = some vb
def SIn (P : Nat → Prop) (w : World) : TS → Value → Value → Value → Prop
 | .mk kind name exprs body els pos, vx, vb, ve => kind ≤ 8 ∧ SlAt P vx exprs.length (fun g o => EsAt P w g o exprs) ∧ SlAt P vb body.length (fun g o => SsAt P w g o body) ∧ SlAt P ve els.length (fun g o => SsAt P w g o els)
def SsAt (P : Nat → Prop) (w : World) (g : Nat) : Nat → List TS → Prop
 | _, [] => True
 | o, s :: l => (∃ vx vb ve, SCells w g o s vx vb ve ∧ SIn P w s vx vb ve) ∧ SsAt P w g (o + 6) l
def SCells (w : World) (g o : Nat) : TS → Value → Value → Value → Prop
 | .mk kind name _ _ _ pos, vx, vb, ve => w.cell? ⟨g, o, none⟩ = some (.int .i64 (kind : Int)) ∧ w.cell? ⟨g, o + 1, none⟩ = some (.string name) ∧ w.cell? ⟨g, o + 2, none⟩ = some vx ∧ w.cell? ⟨g, o + 3, none⟩ = some vb ∧ w.cell? ⟨g, o + 4, none⟩ = some ve ∧ w.cell? ⟨g, o + 5, none⟩ = some (.int .i64 pos)
end
section
variable {P Q : Nat → Prop} {w w' : World}
theorem SlAt.imp {v : Value} {n : Nat} {A A' : Nat → Nat → Prop} (h : SlAt P v n A) (hP : ∀ k, P k → Q k) (hA : ∀ g o, P g → A g o → A' g o) : SlAt Q v n A' := by
 obtain ⟨a, cap, h1, h2, h3, h4⟩ := h
 exact ⟨a, cap, h1, h2, h3, fun hn => by obtain ⟨g, o, e1, e2, e3⟩ := h4 hn; exact ⟨g, o, e1, hP g e2, hA g o e2 e3⟩⟩
theorem cell_kept {g o : Nat} (h : w'.heap[g]? = w.heap[g]?) : w'.cell? ⟨g, o, none⟩ = w.cell? ⟨g, o, none⟩ := World.cell?_of_block (w := w) h
theorem StrAt.kept {g : Nat} (h : w'.heap[g]? = w.heap[g]?) : ∀ (l : List ByteArray) (o : Nat), StrAt w g o l → StrAt w' g o l
 | [], _, _ => trivial
 | s :: l, o, hs => ⟨(cell_kept h).trans hs.1, StrAt.kept h l (o + 1) hs.2⟩
theorem ECells.kept {g o : Nat} (h : w'.heap[g]? = w.heap[g]?) {e : TE} {vp vn vb : Value} (hc : ECells w g o e vp vn vb) : ECells w' g o e vp vn vb := by
 cases e
 exact ⟨(cell_kept h).trans hc.1, (cell_kept h).trans hc.2.1, (cell_kept h).trans hc.2.2.1, (cell_kept h).trans hc.2.2.2.1, (cell_kept h).trans hc.2.2.2.2.1, (cell_kept h).trans hc.2.2.2.2.2⟩
theorem SCells.kept {g o : Nat} (h : w'.heap[g]? = w.heap[g]?) {e : TS} {vp vn vb : Value} (hc : SCells w g o e vp vn vb) : SCells w' g o e vp vn vb := by
 cases e
 exact ⟨(cell_kept h).trans hc.1, (cell_kept h).trans hc.2.1, (cell_kept h).trans hc.2.2.1, (cell_kept h).trans hc.2.2.2.1, (cell_kept h).trans hc.2.2.2.2.1, (cell_kept h).trans hc.2.2.2.2.2⟩
variable (H : ∀ k, P k → Q k ∧ w'.heap[k]? = w.heap[k]?)
include H
mutual
theorem EIn.kept : ∀ (e : TE) {vp vn vb : Value}, EIn P w e vp vn vb → EIn Q w' e vp vn vb
 | .mk op num text parts params body, vp, vn, vb, h => ⟨h.1, h.2.1.imp (fun k hk => (H k hk).1) fun g o hg hA => EsAt.kept parts hg hA, h.2.2.1.imp (fun k hk => (H k hk).1) fun g o hg hA => StrAt.kept (H g hg).2 params o hA, h.2.2.2.imp (fun k hk => (H k hk).1) fun g o hg hA => SsAt.kept body hg hA⟩
theorem EsAt.kept : ∀ (l : List TE) {g o : Nat}, P g → EsAt P w g o l → EsAt Q w' g o l
 | [], g, o, _, _ => trivial
 | e :: l, g, o, hg, h => ⟨by obtain ⟨vp, vn, vb, h1, h2⟩ := h.1; exact ⟨vp, vn, vb, h1.kept (H g hg).2, EIn.kept e h2⟩, EsAt.kept l hg h.2⟩
theorem SIn.kept : ∀ (s : TS) {vx vb ve : Value}, SIn P w s vx vb ve → SIn Q w' s vx vb ve
 | .mk kind name exprs body els pos, vx, vb, ve, h => ⟨h.1, h.2.1.imp (fun k hk => (H k hk).1) fun g o hg hA => EsAt.kept exprs hg hA, h.2.2.1.imp (fun k hk => (H k hk).1) fun g o hg hA => SsAt.kept body hg hA, h.2.2.2.imp (fun k hk => (H k hk).1) fun g o hg hA => SsAt.kept els hg hA⟩
theorem SsAt.kept : ∀ (l : List TS) {g o : Nat}, P g → SsAt P w g o l → SsAt Q w' g o l
 | [], g, o, _, _ => trivial
 | s :: l, g, o, hg, h => ⟨by obtain ⟨vx, vb, ve, h1, h2⟩ := h.1; exact ⟨vx, vb, ve, h1.kept (H g hg).2, SIn.kept s h2⟩, SsAt.kept l hg h.2⟩
end
end
section
variable {P : Nat → Prop} {w : World} {g : Nat}
theorem EsAt.get : ∀ {l : List TE} {o j : Nat} {e : TE}, EsAt P w g o l → l[j]? = some e → ∃ vp vn vb, ECells w g (o + j * 6) e vp vn vb ∧ EIn P w e vp vn vb
 | x :: l, o, 0, e, h, hj => by simp at hj; subst hj; simpa using h.1
 | x :: l, o, j + 1, e, h, hj => by
  have := EsAt.get (j := j) h.2 (by simpa using hj)
  rwa [show o + 6 + j * 6 = o + (j + 1) * 6 from by omega] at this
theorem SsAt.get : ∀ {l : List TS} {o j : Nat} {e : TS}, SsAt P w g o l → l[j]? = some e → ∃ vp vn vb, SCells w g (o + j * 6) e vp vn vb ∧ SIn P w e vp vn vb
 | x :: l, o, 0, e, h, hj => by simp at hj; subst hj; simpa using h.1
 | x :: l, o, j + 1, e, h, hj => by
  have := SsAt.get (j := j) h.2 (by simpa using hj)
  rwa [show o + 6 + j * 6 = o + (j + 1) * 6 from by omega] at this
theorem StrAt.get : ∀ {l : List ByteArray} {o j : Nat} {e : ByteArray}, StrAt w g o l → l[j]? = some e → w.cell? ⟨g, o + j, none⟩ = some (.string e)
 | x :: l, o, 0, e, h, hj => by simp at hj; subst hj; simpa using h.1
 | x :: l, o, j + 1, e, h, hj => by
  have := StrAt.get (j := j) h.2 (by simpa using hj)
  rwa [show o + 1 + j = o + (j + 1) from by omega] at this
end
def noE : TE := .mk 0 0 ⟨#[]⟩ [] [] []
end Go.Proofs.YtpboencfnjmmbaaGreatDoor.TM
namespace Go.Proofs.YtpboencfnjmmbaaGreatDoor.TM
def com (j : Nat) : Bs := if j = 0 then [] else [44, 32]
theorem commas_snoc : ∀ (L : List Bs) (y : Bs), commas (L ++ [y]) = commas L ++ com L.length ++ y
 | [], y => by simp [commas, com]
 | x :: L, y => by simp [commas, com, List.flatMap_append]
theorem commas_app_len : ∀ (L M : List Bs), (commas L).length ≤ (commas (L ++ M)).length
 | L, [] => by simp
 | L, y :: M => by
  have h := commas_app_len (L ++ [y]) M
  rw [List.append_assoc] at h
  rw [commas_snoc] at h
  simp at h ⊢
  omega
theorem commas_take_len (L : List Bs) (j : Nat) : (commas (L.take j)).length ≤ (commas L).length := by
 have := commas_app_len (L.take j) (L.drop j)
 rwa [List.take_append_drop] at this
theorem front (L : List Bs) : ∃ C : Nat → Bs, C 0 = [] ∧ (∀ j y, L[j]? = some y → C (j + 1) = C j ++ com j ++ y) ∧ (∀ j, (C j).length ≤ (commas L).length) ∧ ∀ j, L.length ≤ j → C j = commas L := by
 refine ⟨fun j => commas (L.take j), rfl, fun j y h => ?_, fun j => commas_take_len L j, fun j h => by simp [List.take_of_length_le h]⟩
 have hlt : j < L.length := by obtain ⟨h1, _⟩ := List.getElem?_eq_some_iff.1 h; exact h1
 show commas (L.take (j + 1)) = _
 rw [List.take_add_one, h]
 show commas (L.take j ++ [y]) = _
 rw [commas_snoc, List.length_take, Nat.min_eq_left (by omega)]
theorem pairs_len : ∀ (ls : List Bs) (j : Nat), ls.length ≤ 2 * j → (pairs ls).length ≤ j
 | [], j, h => by simp [pairs]
 | [x], j, h => by simp [pairs] at h ⊢; omega
 | x :: y :: ls, j, h => by
  have := pairs_len ls (j - 1) (by simp at h; omega)
  simp [pairs] at h ⊢
  omega
end Go.Proofs.YtpboencfnjmmbaaGreatDoor.TM
