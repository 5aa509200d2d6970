/-
 PaMath, PaLex, joined.
 Conditions: as each theorem says.
-/
import Derived.Test.YtenfphbhofibjaaGreatDoorZLexMath
import Derived.Test.YtenfphbhofibjaaGreatDoorZTrA
set_option linter.unusedVariables false
namespace Go.Proofs.YtenfphbhofibjaaGreatDoor.PM
open LM TM
inductive PR (α : Type) where
 | ok (x : α) (ts : List Tok)
 | bad (a : Nat) (e : Nat)
def PR.bind {α β : Type} (r : PR α) (f : α → List Tok → PR β) : PR β :=
 match r with
 | .ok x ts => f x ts
 | .bad a e => .bad a e
def noT : Tok := ⟨0, [], 0, 0⟩
def hd0 (ts : List Tok) : Tok := ts.headD noT
def isT (k : Nat) (t : Bs) (ts : List Tok) : Bool := (hd0 ts).kind == k && (hd0 ts).text == t
def sLP : Bs := [40]
def sRP : Bs := [41]
def sLB : Bs := [123]
def sRB : Bs := [125]
def sLK : Bs := [91]
def sRK : Bs := [93]
def sSE : Bs := [59]
def sCO : Bs := [44]
def sCL : Bs := [58]
def sPT : Bs := [46]
def sEQ : Bs := [61]
def wLet : Bs := [108, 101, 116]
def wIf : Bs := [105, 102]
def wElse : Bs := [101, 108, 115, 101]
def wWhile : Bs := [119, 104, 105, 108, 101]
def wReturn : Bs := [114, 101, 116, 117, 114, 110]
def wThrow : Bs := [116, 104, 114, 111, 119]
def wTry : Bs := [116, 114, 121]
def wCatch : Bs := [99, 97, 116, 99, 104]
def wFn : Bs := [102, 110]
def wNil : Bs := [110, 105, 108]
def wTrue : Bs := [116, 114, 117, 101]
def wFalse : Bs := [102, 97, 108, 115, 101]
def reserved (t : Bs) : Bool := t == wLet || (t == wIf || (t == wElse || (t == wWhile || (t == wReturn || (t == wThrow || (t == wTry || (t == wCatch || (t == wFn || (t == wNil || (t == wTrue || t == wFalse))))))))))
def pFail {α : Type} (e : Nat) (ts : List Tok) : PR α := .bad (hd0 ts).pos e
def pSign (t : Bs) (ts : List Tok) : PR Unit := if isT 4 t ts then .ok () ts.tail else pFail 1 ts
def pWord (t : Bs) (ts : List Tok) : PR Unit := if isT 1 t ts then .ok () ts.tail else pFail 1 ts
def nameB (ts : List Tok) : Bool := (hd0 ts).kind == 1 && !reserved (hd0 ts).text
def pName (ts : List Tok) : PR ByteArray := if nameB ts then .ok ⟨(hd0 ts).text.toArray⟩ ts.tail else pFail 1 ts
def opOf (tight : Nat) (t : Bs) : Option Nat :=
 if tight = 0 then (if t = [61, 61] then some 11 else if t = [33, 61] then some 12 else if t = [60] then some 13 else none)
 else if tight = 1 then (if t = [43] then some 8 else if t = [45] then some 9 else none)
 else if tight = 2 then (if t = [42] then some 10 else none)
 else (if t = [45] then some 6 else if t = [33] then some 7 else none)
def pOp (tight : Nat) (ts : List Tok) : Option Nat := if (hd0 ts).kind = 4 then opOf tight (hd0 ts).text else none
def mkE (op : Nat) (l : List TE) : TE := .mk op 0 ⟨#[]⟩ l [] []
def binLoop (lower : List Tok → PR TE) (tight : Nat) : Nat → TE → List Tok → PR TE
 | 0, x, ts => .ok x ts
 | k + 1, x, ts =>
  match pOp tight ts with
  | none => .ok x ts
  | some op => (lower ts.tail).bind fun y ts' => if tight = 0 then .ok (mkE op [x, y]) ts' else binLoop lower tight k (mkE op [x, y]) ts'
def pBin (lower : List Tok → PR TE) (tight : Nat) (ts : List Tok) : PR TE := (lower ts).bind fun x ts' => binLoop lower tight (ts'.length + 1) x ts'
def exprF (U : List Tok → PR TE) : List Tok → PR TE := pBin (pBin (pBin U 2) 1) 0
def pItems {α : Type} (item : List Tok → PR α) (fin : Bs) : Nat → List α → List Tok → PR (List α)
 | 0, acc, ts => pFail 1 ts
 | k + 1, acc, ts => if isT 4 sCO ts then (item ts.tail).bind fun x ts' => pItems item fin k (acc ++ [x]) ts' else (pSign fin ts).bind fun _ ts' => .ok acc ts'
def pList {α : Type} (item : List Tok → PR α) (fin : Bs) (ts : List Tok) : PR (List α) :=
 if isT 4 fin ts then .ok [] ts.tail else (item ts).bind fun x ts' => pItems item fin (ts'.length + 1) [x] ts'
def textE (s : ByteArray) : TE := .mk 4 0 s [] [] []
def pKeyW (ts : List Tok) : PR TE := (pName ts).bind fun s ts' => .ok (textE s) ts'
def pKeyE (E : List Tok → PR TE) (ts : List Tok) : PR TE := (E ts).bind fun x ts' => (pSign sRK ts').bind fun _ ts'' => .ok x ts''
def pField (E : List Tok → PR TE) (ts : List Tok) : PR (TE × TE) :=
 (if isT 4 sLK ts then pKeyE E ts.tail else pKeyW ts).bind fun k ts' => (pSign sCL ts').bind fun _ ts2 => (E ts2).bind fun v ts3 => .ok (k, v) ts3
def flat2 : List (TE × TE) → List TE
 | [] => []
 | p :: l => p.1 :: p.2 :: flat2 l
def pRecord (E : List Tok → PR TE) (ts : List Tok) : PR TE := (pList (pField E) sRB ts).bind fun l ts' => .ok (mkE 16 (flat2 l)) ts'
def pFunction (B : List Tok → PR (List TS)) (ts : List Tok) : PR TE :=
 (pSign sLP ts).bind fun _ ts' => (pList pName sRP ts').bind fun ps ts2 => (B ts2).bind fun b ts3 => .ok (.mk 17 0 ⟨#[]⟩ [] ps b) ts3
def pParen (E : List Tok → PR TE) (ts : List Tok) : PR TE := (E ts).bind fun x ts' => (pSign sRP ts').bind fun _ ts'' => .ok x ts''
def pThing (E : List Tok → PR TE) (B : List Tok → PR (List TS)) (ts : List Tok) : PR TE :=
 if (hd0 ts).kind = 2 then .ok (.mk 3 (hd0 ts).num ⟨#[]⟩ [] [] []) ts.tail
 else if (hd0 ts).kind = 3 then .ok (textE ⟨(hd0 ts).text.toArray⟩) ts.tail
 else if isT 1 wNil ts then .ok (mkE 0 []) ts.tail
 else if isT 1 wTrue ts then .ok (mkE 2 []) ts.tail
 else if isT 1 wFalse ts then .ok (mkE 1 []) ts.tail
 else if isT 1 wFn ts then pFunction B ts.tail
 else if isT 4 sLP ts then pParen E ts.tail
 else if isT 4 sLB ts then pRecord E ts.tail
 else (pName ts).bind fun s ts' => .ok (.mk 5 0 s [] [] []) ts'
def pWith (E : List Tok → PR TE) (x : TE) (ts : List Tok) : PR (List TE) := (pList E sRP ts).bind fun l ts' => .ok (x :: l) ts'
def chainLoop (E : List Tok → PR TE) : Nat → TE → List Tok → PR TE
 | 0, x, ts => .ok x ts
 | k + 1, x, ts =>
  if isT 4 sLP ts then (pWith E x ts.tail).bind fun l ts' => chainLoop E k (mkE 15 l) ts'
  else if isT 4 sLK ts then (pKeyE E ts.tail).bind fun y ts' => chainLoop E k (mkE 14 [x, y]) ts'
  else if isT 4 sPT ts then (pKeyW ts.tail).bind fun y ts' => chainLoop E k (mkE 14 [x, y]) ts'
  else .ok x ts
def pChain (E : List Tok → PR TE) (B : List Tok → PR (List TS)) (ts : List Tok) : PR TE := (pThing E B ts).bind fun x ts' => chainLoop E (ts'.length + 1) x ts'
def pUnary (E : List Tok → PR TE) (B : List Tok → PR (List TS)) (U : List Tok → PR TE) (ts : List Tok) : PR TE :=
 match pOp 3 ts with
 | none => pChain E B ts
 | some op => (U ts.tail).bind fun x ts' => .ok (mkE op [x]) ts'
def pValue (E : List Tok → PR TE) (ts : List Tok) : PR (List TE) := (E ts).bind fun x ts' => (pSign sSE ts').bind fun _ ts2 => .ok [x] ts2
def exOp : TE → Nat
 | .mk op _ _ _ _ _ => op
def exText : TE → ByteArray
 | .mk _ _ t _ _ _ => t
def exParts : TE → List TE
 | .mk _ _ _ l _ _ => l
def pSet (E : List Tok → PR TE) (a : Nat) (x : TE) (ts : List Tok) : PR TS :=
 if exOp x = 5 then (pValue E ts).bind fun l ts' => .ok (.mk 1 (exText x) l [] [] 0) ts'
 else if exOp x = 14 then (pValue E ts).bind fun l ts' => .ok (.mk 2 ⟨#[]⟩ (exParts x ++ l) [] [] 0) ts'
 else .bad a 7
def pSimple (E : List Tok → PR TE) (a : Nat) (ts : List Tok) : PR TS :=
 (E ts).bind fun x ts' => if isT 4 sEQ ts' then pSet E a x ts'.tail else (pSign sSE ts').bind fun _ ts2 => .ok (.mk 8 ⟨#[]⟩ [x] [] [] 0) ts2
def pLet (E : List Tok → PR TE) (ts : List Tok) : PR TS :=
 (pName ts).bind fun s ts' => (pSign sEQ ts').bind fun _ ts2 => (pValue E ts2).bind fun l ts3 => .ok (.mk 0 s l [] [] 0) ts3
def pQuestion (E : List Tok → PR TE) (B : List Tok → PR (List TS)) (ts : List Tok) : PR TS :=
 (E ts).bind fun x ts' => (B ts').bind fun b ts2 => if isT 1 wElse ts2 then (B ts2.tail).bind fun c ts3 => .ok (.mk 3 ⟨#[]⟩ [x] b c 0) ts3 else .ok (.mk 3 ⟨#[]⟩ [x] b [] 0) ts2
def pTry (B : List Tok → PR (List TS)) (ts : List Tok) : PR TS :=
 (B ts).bind fun b ts' => (pWord wCatch ts').bind fun _ ts2 => (pName ts2).bind fun s ts3 => (B ts3).bind fun c ts4 => .ok (.mk 7 s [] b c 0) ts4
def pStmtAt (E : List Tok → PR TE) (B : List Tok → PR (List TS)) (a : Nat) (ts : List Tok) : PR TS :=
 if isT 1 wLet ts then pLet E ts.tail
 else if isT 1 wReturn ts then (pValue E ts.tail).bind fun l ts' => .ok (.mk 5 ⟨#[]⟩ l [] [] 0) ts'
 else if isT 1 wThrow ts then (pValue E ts.tail).bind fun l ts' => .ok (.mk 6 ⟨#[]⟩ l [] [] 0) ts'
 else if isT 1 wIf ts then pQuestion E B ts.tail
 else if isT 1 wWhile ts then (E ts.tail).bind fun x ts' => (B ts').bind fun b ts2 => .ok (.mk 4 ⟨#[]⟩ [x] b [] 0) ts2
 else if isT 1 wTry ts then pTry B ts.tail
 else pSimple E a ts
def setAt (a : Nat) : TS → TS
 | .mk k s l b c _ => .mk k s l b c (a : Int)
def pStmt (E : List Tok → PR TE) (B : List Tok → PR (List TS)) (ts : List Tok) : PR TS := (pStmtAt E B (hd0 ts).pos ts).bind fun s ts' => .ok (setAt (hd0 ts).pos s) ts'
def blockLoop (S : List Tok → PR TS) : Nat → List TS → List Tok → PR (List TS)
 | 0, acc, ts => pFail 1 ts
 | k + 1, acc, ts => if isT 4 sRB ts then .ok acc ts.tail else (S ts).bind fun s ts' => blockLoop S k (acc ++ [s]) ts'
def moduleLoop (S : List Tok → PR TS) : Nat → List TS → List Tok → PR (List TS)
 | 0, acc, ts => pFail 1 ts
 | k + 1, acc, ts => if (hd0 ts).kind = 0 then .ok acc ts else (S ts).bind fun s ts' => moduleLoop S k (acc ++ [s]) ts'
structure Gram where
 E : List Tok → PR TE
 B : List Tok → PR (List TS)
 U : List Tok → PR TE
def pBlock (I : List Tok → PR (List TS)) (ts : List Tok) : PR (List TS) := (pSign sLB ts).bind fun _ ts' => I ts'
def stepG (iE : List Tok → PR TE) (iS : List Tok → PR (List TS)) (iU : List Tok → PR TE) : Gram := ⟨iE, pBlock iS, pUnary iE (pBlock iS) iU⟩
def stmtsIn (S : List Tok → PR TS) (ts : List Tok) : PR (List TS) := blockLoop S (ts.length + 1) [] ts
def lev : Nat → Gram
 | 0 => stepG (pFail 3) (pFail 3) (pFail 3)
 | n + 1 => stepG (exprF (lev n).U) (stmtsIn (pStmt (lev n).E (lev n).B)) (lev n).U
def stmtG (n : Nat) : List Tok → PR TS := pStmt (lev n).E (lev n).B
def moduleG (ts : List Tok) : PR (List TS) := moduleLoop (stmtG 20) (ts.length + 1) [] ts
def GoodT : List Tok → Prop
 | [] => False
 | [t] => t.kind = 0 ∧ 0 ≤ t.num ∧ t.num ≤ 9223372036854775807 ∧ t.pos ≤ 1000000
 | t :: u :: l => (t.kind ≠ 0 ∧ 0 ≤ t.num ∧ t.num ≤ 9223372036854775807 ∧ t.pos ≤ 1000000) ∧ GoodT (u :: l)
theorem GoodT.ne {ts : List Tok} (h : GoodT ts) : ∃ t l, ts = t :: l := by
 cases ts with
 | nil => exact h.elim
 | cons t l => exact ⟨t, l, rfl⟩
theorem GoodT.hd {t : Tok} {l : List Tok} (h : GoodT (t :: l)) : 0 ≤ t.num ∧ t.num ≤ 9223372036854775807 ∧ t.pos ≤ 1000000 := by
 cases l with
 | nil => exact h.2
 | cons u l => exact h.1.2
theorem GoodT.pos {ts : List Tok} (h : GoodT ts) : 0 < ts.length := by obtain ⟨t, l, rfl⟩ := h.ne; simp
theorem GoodT.tl {ts : List Tok} (h : GoodT ts) (hk : (hd0 ts).kind ≠ 0) : GoodT ts.tail := by
 match ts, h with
 | [t], h => exact absurd h.1 hk
 | t :: u :: l, h => exact h.2
theorem GoodT.len {ts : List Tok} (h : GoodT ts) : ts.tail.length < ts.length := by have := h.pos; simp; omega
def Eats {α : Type} (f : List Tok → PR α) : Prop := ∀ ts, GoodT ts → ∀ x ts', f ts = .ok x ts' → GoodT ts' ∧ ts'.length < ts.length
theorem isT_kind {k : Nat} {t : Bs} {ts : List Tok} (h : isT k t ts = true) : (hd0 ts).kind = k := by
 simp only [isT, Bool.and_eq_true, beq_iff_eq] at h
 exact h.1
theorem pOp_kind {tight op : Nat} {ts : List Tok} (h : pOp tight ts = some op) : (hd0 ts).kind = 4 := by
 unfold pOp at h
 by_cases hk : (hd0 ts).kind = 4
 ·exact hk
 ·rw [if_neg hk] at h; cases h
theorem PR.bind_ok {α β : Type} {r : PR α} {f : α → List Tok → PR β} {y : β} {ts' : List Tok} (h : r.bind f = .ok y ts') : ∃ x ts1, r = .ok x ts1 ∧ f x ts1 = .ok y ts' := by
 cases r with
 | ok x ts1 => exact ⟨x, ts1, rfl, h⟩
 | bad a e => cases h
theorem Eats.bind {α β : Type} {f : List Tok → PR α} {g : α → List Tok → PR β} (hf : Eats f) (hg : ∀ x ts, GoodT ts → ∀ y ts', g x ts = .ok y ts' → GoodT ts' ∧ ts'.length ≤ ts.length) : Eats fun ts => (f ts).bind g := by
 intro ts hG y ts' h
 obtain ⟨x, ts1, h1, h2⟩ := PR.bind_ok h
 obtain ⟨g1, l1⟩ := hf ts hG x ts1 h1
 obtain ⟨g2, l2⟩ := hg x ts1 g1 y ts' h2
 exact ⟨g2, by omega⟩
theorem Eats.keep {α : Type} {f : List Tok → PR α} (hf : Eats f) {ts : List Tok} (hG : GoodT ts) {y : α} {ts' : List Tok} (h : f ts = .ok y ts') : GoodT ts' ∧ ts'.length ≤ ts.length := ⟨(hf ts hG y ts' h).1, Nat.le_of_lt (hf ts hG y ts' h).2⟩
theorem keep_ok {α : Type} {ts : List Tok} (hG : GoodT ts) {x y : α} {ts' : List Tok} (h : PR.ok x ts = .ok y ts') : GoodT ts' ∧ ts'.length ≤ ts.length := by cases h; exact ⟨hG, Nat.le_refl _⟩
theorem eats_fail {α : Type} (e : Nat) : Eats (pFail (α := α) e) := fun ts hG x ts' h => by cases h
theorem keep_tail {ts : List Tok} {k : Nat} (hG : GoodT ts) (hk : (hd0 ts).kind = k) (h0 : k ≠ 0) : GoodT ts.tail ∧ ts.tail.length < ts.length := ⟨hG.tl (by rw [hk]; exact h0), hG.len⟩
theorem eats_sign (t : Bs) : Eats (pSign t) := fun ts hG x ts' h => by
 unfold pSign at h
 by_cases hi : isT 4 t ts = true
 ·rw [if_pos hi] at h; cases h; exact keep_tail hG (isT_kind hi) (by decide)
 ·rw [if_neg hi] at h; cases h
theorem eats_word (t : Bs) : Eats (pWord t) := fun ts hG x ts' h => by
 unfold pWord at h
 by_cases hi : isT 1 t ts = true
 ·rw [if_pos hi] at h; cases h; exact keep_tail hG (isT_kind hi) (by decide)
 ·rw [if_neg hi] at h; cases h
theorem eats_name : Eats pName := fun ts hG x ts' h => by
 unfold pName at h
 by_cases hi : nameB ts = true
 ·rw [if_pos hi] at h
  cases h
  simp only [nameB, Bool.and_eq_true, beq_iff_eq] at hi
  exact keep_tail hG hi.1 (by decide)
 ·rw [if_neg hi] at h; cases h
theorem keep_binLoop {lower : List Tok → PR TE} (hl : Eats lower) (tight : Nat) : ∀ (k : Nat) (x : TE) (ts : List Tok), GoodT ts → ∀ y ts', binLoop lower tight k x ts = .ok y ts' → GoodT ts' ∧ ts'.length ≤ ts.length
 | 0, x, ts, hG, y, ts', h => keep_ok hG h
 | k + 1, x, ts, hG, y, ts', h => by
  rw [binLoop] at h
  cases hp : pOp tight ts with
  | none => rw [hp] at h; exact keep_ok hG h
  | some op =>
   rw [hp] at h
   obtain ⟨z, ts1, h1, h2⟩ := PR.bind_ok h
   obtain ⟨g0, l0⟩ := keep_tail hG (pOp_kind hp) (by decide)
   obtain ⟨g1, l1⟩ := hl _ g0 z ts1 h1
   by_cases ht : tight = 0
   ·simp only [if_pos ht] at h2
    obtain ⟨g2, l2⟩ := keep_ok g1 h2
    exact ⟨g2, by omega⟩
   ·simp only [if_neg ht] at h2
    obtain ⟨g2, l2⟩ := keep_binLoop hl tight k _ ts1 g1 y ts' h2
    exact ⟨g2, by omega⟩
theorem eats_bin {lower : List Tok → PR TE} (hl : Eats lower) (tight : Nat) : Eats (pBin lower tight) := Eats.bind hl fun x ts hG y ts' h => keep_binLoop hl tight _ x ts hG y ts' h
theorem eats_expr {U : List Tok → PR TE} (hU : Eats U) : Eats (exprF U) := eats_bin (eats_bin (eats_bin hU 2) 1) 0
theorem eats_items {α : Type} {item : List Tok → PR α} (hi : Eats item) (fin : Bs) : ∀ (k : Nat) (acc : List α), Eats (pItems item fin k acc)
 | 0, acc => eats_fail 1
 | k + 1, acc => fun ts hG y ts' h => by
  rw [pItems] at h
  by_cases hc : isT 4 sCO ts = true
  ·rw [if_pos hc] at h
   obtain ⟨z, ts1, h1, h2⟩ := PR.bind_ok h
   obtain ⟨g0, l0⟩ := keep_tail hG (isT_kind hc) (by decide)
   obtain ⟨g1, l1⟩ := hi _ g0 z ts1 h1
   obtain ⟨g2, l2⟩ := eats_items hi fin k _ ts1 g1 y ts' h2
   exact ⟨g2, by omega⟩
  ·rw [if_neg hc] at h
   exact Eats.bind (eats_sign fin) (fun _ ts hG y ts' h => keep_ok hG h) ts hG y ts' h
theorem eats_list {α : Type} {item : List Tok → PR α} (hi : Eats item) (fin : Bs) : Eats (pList item fin) := fun ts hG y ts' h => by
 unfold pList at h
 by_cases hc : isT 4 fin ts = true
 ·rw [if_pos hc] at h; cases h; exact keep_tail hG (isT_kind hc) (by decide)
 ·rw [if_neg hc] at h
  exact Eats.bind hi (fun x ts hG y ts' h => (eats_items hi fin _ _).keep hG h) ts hG y ts' h
theorem eats_keyW : Eats pKeyW := Eats.bind eats_name fun _ ts hG y ts' h => keep_ok hG h
theorem eats_keyE {E : List Tok → PR TE} (hE : Eats E) : Eats (pKeyE E) := Eats.bind hE fun _ ts hG y ts' h => (Eats.bind (eats_sign sRK) fun _ ts hG y ts' h => keep_ok hG h).keep hG h
theorem eats_field {E : List Tok → PR TE} (hE : Eats E) : Eats (pField E) := by
 intro ts hG y ts' h
 unfold pField at h
 obtain ⟨x, ts1, h1, h2⟩ := PR.bind_ok h
 have h3 : GoodT ts1 ∧ ts1.length < ts.length := by
  by_cases hc : isT 4 sLK ts = true
  ·rw [if_pos hc] at h1
   obtain ⟨g0, l0⟩ := keep_tail hG (isT_kind hc) (by decide)
   obtain ⟨g1, l1⟩ := eats_keyE hE _ g0 x ts1 h1
   exact ⟨g1, by omega⟩
  ·rw [if_neg hc] at h1
   exact eats_keyW ts hG x ts1 h1
 obtain ⟨g4, l4⟩ := Eats.bind (eats_sign sCL) (fun _ ts hG y ts' h => (Eats.bind hE fun _ ts hG y ts' h => keep_ok hG h).keep hG h) ts1 h3.1 y ts' h2
 exact ⟨g4, by omega⟩
theorem eats_record {E : List Tok → PR TE} (hE : Eats E) : Eats (pRecord E) := Eats.bind (eats_list (eats_field hE) sRB) fun _ ts hG y ts' h => keep_ok hG h
theorem eats_function {B : List Tok → PR (List TS)} (hB : Eats B) : Eats (pFunction B) :=
 Eats.bind (eats_sign sLP) fun _ ts hG y ts' h => (Eats.bind (eats_list eats_name sRP) fun _ ts hG y ts' h => (Eats.bind hB fun _ ts hG y ts' h => keep_ok hG h).keep hG h).keep hG h
theorem eats_paren {E : List Tok → PR TE} (hE : Eats E) : Eats (pParen E) := Eats.bind hE fun _ ts hG y ts' h => (Eats.bind (eats_sign sRP) fun _ ts hG y ts' h => keep_ok hG h).keep hG h
theorem eats_tail {α : Type} {f : List Tok → PR α} (hf : Eats f) {ts : List Tok} {k : Nat} (hG : GoodT ts) (hk : (hd0 ts).kind = k) (h0 : k ≠ 0) {x : α} {ts' : List Tok} (h : f ts.tail = .ok x ts') : GoodT ts' ∧ ts'.length < ts.length := by
 obtain ⟨g0, l0⟩ := keep_tail hG hk h0
 obtain ⟨g1, l1⟩ := hf _ g0 x ts' h
 exact ⟨g1, by omega⟩
theorem ok_tail {α : Type} {ts : List Tok} {k : Nat} (hG : GoodT ts) (hk : (hd0 ts).kind = k) (h0 : k ≠ 0) {x y : α} {ts' : List Tok} (h : PR.ok x ts.tail = .ok y ts') : GoodT ts' ∧ ts'.length < ts.length := by cases h; exact keep_tail hG hk h0
theorem eats_thing {E : List Tok → PR TE} {B : List Tok → PR (List TS)} (hE : Eats E) (hB : Eats B) : Eats (pThing E B) := by
 intro ts hG y ts' h
 unfold pThing at h
 split at h
 ·next hc => exact ok_tail hG hc (by decide) h
 ·split at h
  ·next hc => exact ok_tail hG hc (by decide) h
  ·split at h
   ·next hc => exact ok_tail hG (isT_kind hc) (by decide) h
   ·split at h
    ·next hc => exact ok_tail hG (isT_kind hc) (by decide) h
    ·split at h
     ·next hc => exact ok_tail hG (isT_kind hc) (by decide) h
     ·split at h
      ·next hc => exact eats_tail (eats_function hB) hG (isT_kind hc) (by decide) h
      ·split at h
       ·next hc => exact eats_tail (eats_paren hE) hG (isT_kind hc) (by decide) h
       ·split at h
        ·next hc => exact eats_tail (eats_record hE) hG (isT_kind hc) (by decide) h
        ·exact Eats.bind eats_name (fun _ ts hG y ts' h => keep_ok hG h) ts hG y ts' h
theorem eats_with {E : List Tok → PR TE} (hE : Eats E) (x : TE) : Eats (pWith E x) := Eats.bind (eats_list hE sRP) fun _ ts hG y ts' h => keep_ok hG h
theorem keep_chainLoop {E : List Tok → PR TE} (hE : Eats E) : ∀ (k : Nat) (x : TE) (ts : List Tok), GoodT ts → ∀ y ts', chainLoop E k x ts = .ok y ts' → GoodT ts' ∧ ts'.length ≤ ts.length
 | 0, x, ts, hG, y, ts', h => keep_ok hG h
 | k + 1, x, ts, hG, y, ts', h => by
  rw [chainLoop] at h
  split at h
  ·next hc =>
   obtain ⟨z, ts1, h1, h2⟩ := PR.bind_ok h
   obtain ⟨g1, l1⟩ := eats_tail (eats_with hE x) hG (isT_kind hc) (by decide) h1
   obtain ⟨g2, l2⟩ := keep_chainLoop hE k _ ts1 g1 y ts' h2
   exact ⟨g2, by omega⟩
  ·split at h
   ·next hc =>
    obtain ⟨z, ts1, h1, h2⟩ := PR.bind_ok h
    obtain ⟨g1, l1⟩ := eats_tail (eats_keyE hE) hG (isT_kind hc) (by decide) h1
    obtain ⟨g2, l2⟩ := keep_chainLoop hE k _ ts1 g1 y ts' h2
    exact ⟨g2, by omega⟩
   ·split at h
    ·next hc =>
     obtain ⟨z, ts1, h1, h2⟩ := PR.bind_ok h
     obtain ⟨g1, l1⟩ := eats_tail eats_keyW hG (isT_kind hc) (by decide) h1
     obtain ⟨g2, l2⟩ := keep_chainLoop hE k _ ts1 g1 y ts' h2
     exact ⟨g2, by omega⟩
    ·exact keep_ok hG h
theorem eats_chain {E : List Tok → PR TE} {B : List Tok → PR (List TS)} (hE : Eats E) (hB : Eats B) : Eats (pChain E B) := Eats.bind (eats_thing hE hB) fun x ts hG y ts' h => keep_chainLoop hE _ x ts hG y ts' h
theorem eats_unary {E U : List Tok → PR TE} {B : List Tok → PR (List TS)} (hE : Eats E) (hB : Eats B) (hU : Eats U) : Eats (pUnary E B U) := by
 intro ts hG y ts' h
 unfold pUnary at h
 cases hp : pOp 3 ts with
 | none => rw [hp] at h; exact eats_chain hE hB ts hG y ts' h
 | some op =>
  rw [hp] at h
  obtain ⟨z, ts1, h1, h2⟩ := PR.bind_ok h
  obtain ⟨g1, l1⟩ := eats_tail hU hG (pOp_kind hp) (by decide) h1
  obtain ⟨g2, l2⟩ := keep_ok g1 h2
  exact ⟨g2, by omega⟩
theorem eats_value {E : List Tok → PR TE} (hE : Eats E) : Eats (pValue E) := Eats.bind hE fun _ ts hG y ts' h => (Eats.bind (eats_sign sSE) fun _ ts hG y ts' h => keep_ok hG h).keep hG h
theorem eats_set {E : List Tok → PR TE} (hE : Eats E) (a : Nat) (x : TE) : Eats (pSet E a x) := by
 intro ts hG y ts' h
 unfold pSet at h
 split at h
 ·exact Eats.bind (eats_value hE) (fun _ ts hG y ts' h => keep_ok hG h) ts hG y ts' h
 ·split at h
  ·exact Eats.bind (eats_value hE) (fun _ ts hG y ts' h => keep_ok hG h) ts hG y ts' h
  ·cases h
theorem eats_simple {E : List Tok → PR TE} (hE : Eats E) (a : Nat) : Eats (pSimple E a) := Eats.bind hE fun x ts hG y ts' h => by
 split at h
 ·next hc =>
  obtain ⟨g1, l1⟩ := eats_tail (eats_set hE a x) hG (isT_kind hc) (by decide) h
  exact ⟨g1, by omega⟩
 ·exact (Eats.bind (eats_sign sSE) fun _ ts hG y ts' h => keep_ok hG h).keep hG h
theorem eats_let {E : List Tok → PR TE} (hE : Eats E) : Eats (pLet E) :=
 Eats.bind eats_name fun _ ts hG y ts' h => (Eats.bind (eats_sign sEQ) fun _ ts hG y ts' h => (Eats.bind (eats_value hE) fun _ ts hG y ts' h => keep_ok hG h).keep hG h).keep hG h
theorem eats_question {E : List Tok → PR TE} {B : List Tok → PR (List TS)} (hE : Eats E) (hB : Eats B) : Eats (pQuestion E B) :=
 Eats.bind hE fun x ts hG y ts' h => (Eats.bind hB fun b ts hG y ts' h => by
  split at h
  ·next hc =>
   obtain ⟨z, ts1, h1, h2⟩ := PR.bind_ok h
   obtain ⟨g1, l1⟩ := eats_tail hB hG (isT_kind hc) (by decide) h1
   obtain ⟨g2, l2⟩ := keep_ok g1 h2
   exact ⟨g2, by omega⟩
  ·exact keep_ok hG h).keep hG h
theorem eats_try {B : List Tok → PR (List TS)} (hB : Eats B) : Eats (pTry B) :=
 Eats.bind hB fun _ ts hG y ts' h => (Eats.bind (eats_word wCatch) fun _ ts hG y ts' h => (Eats.bind eats_name fun _ ts hG y ts' h => (Eats.bind hB fun _ ts hG y ts' h => keep_ok hG h).keep hG h).keep hG h).keep hG h
theorem eats_stmtAt {E : List Tok → PR TE} {B : List Tok → PR (List TS)} (hE : Eats E) (hB : Eats B) (a : Nat) : Eats (pStmtAt E B a) := by
 intro ts hG y ts' h
 unfold pStmtAt at h
 split at h
 ·next hc => exact eats_tail (eats_let hE) hG (isT_kind hc) (by decide) h
 ·split at h
  ·next hc => exact eats_tail (Eats.bind (eats_value hE) fun _ ts hG y ts' h => keep_ok hG h) hG (isT_kind hc) (by decide) h
  ·split at h
   ·next hc => exact eats_tail (Eats.bind (eats_value hE) fun _ ts hG y ts' h => keep_ok hG h) hG (isT_kind hc) (by decide) h
   ·split at h
    ·next hc => exact eats_tail (eats_question hE hB) hG (isT_kind hc) (by decide) h
    ·split at h
     ·next hc => exact eats_tail (Eats.bind hE fun _ ts hG y ts' h => (Eats.bind hB fun _ ts hG y ts' h => keep_ok hG h).keep hG h) hG (isT_kind hc) (by decide) h
     ·split at h
      ·next hc => exact eats_tail (eats_try hB) hG (isT_kind hc) (by decide) h
      ·exact eats_simple hE a ts hG y ts' h
theorem eats_stmt {E : List Tok → PR TE} {B : List Tok → PR (List TS)} (hE : Eats E) (hB : Eats B) : Eats (pStmt E B) := by
 intro ts hG y ts' h
 exact Eats.bind (eats_stmtAt hE hB (hd0 ts).pos) (fun _ ts hG y ts' h => keep_ok hG h) ts hG y ts' h
theorem eats_blockLoop {S : List Tok → PR TS} (hS : Eats S) : ∀ (k : Nat) (acc : List TS), Eats (blockLoop S k acc)
 | 0, acc => eats_fail 1
 | k + 1, acc => fun ts hG y ts' h => by
  rw [blockLoop] at h
  split at h
  ·next hc => exact ok_tail hG (isT_kind hc) (by decide) h
  ·obtain ⟨z, ts1, h1, h2⟩ := PR.bind_ok h
   obtain ⟨g1, l1⟩ := hS _ hG z ts1 h1
   obtain ⟨g2, l2⟩ := eats_blockLoop hS k _ ts1 g1 y ts' h2
   exact ⟨g2, by omega⟩
theorem eats_block {I : List Tok → PR (List TS)} (hI : Eats I) : Eats (pBlock I) := Eats.bind (eats_sign sLB) fun _ ts hG y ts' h => hI.keep hG h
theorem eats_stmtsIn {S : List Tok → PR TS} (hS : Eats S) : Eats (stmtsIn S) := fun ts hG y ts' h => eats_blockLoop hS _ _ ts hG y ts' h
theorem eats_lev : ∀ (n : Nat), Eats (lev n).E ∧ Eats (lev n).B ∧ Eats (lev n).U
 | 0 => ⟨eats_fail 3, eats_block (eats_fail 3), eats_unary (eats_fail 3) (eats_block (eats_fail 3)) (eats_fail 3)⟩
 | n + 1 => by
  obtain ⟨h1, h2, h3⟩ := eats_lev n
  exact ⟨eats_expr h3, eats_block (eats_stmtsIn (eats_stmt h1 h2)), eats_unary (eats_expr h3) (eats_block (eats_stmtsIn (eats_stmt h1 h2))) h3⟩
theorem eats_stmtG (n : Nat) : Eats (stmtG n) := eats_stmt (eats_lev n).1 (eats_lev n).2.1
end Go.Proofs.YtenfphbhofibjaaGreatDoor.PM
namespace Go.Proofs.YtenfphbhofibjaaGreatDoor.PM
open LM TM
theorem one_good {s : List UInt8} {k : Nat} {x : List UInt8} {v : Int} {n : Nat} (h : one s = .ok k x v n) : k ≠ 0 ∧ 0 ≤ v ∧ v ≤ 9223372036854775807 := by
 cases s with
 | nil => cases h
 | cons c t =>
  have h1 : one1 c t = .ok k x v n := h
  unfold one1 at h1
  split at h1
  ·simp only at h1
   split at h1
   ·cases h1
   ·split at h1
    ·next hle => cases h1; exact ⟨by decide, by omega, by omega⟩
    ·cases h1
  ·split at h1
   ·cases h1; exact ⟨by decide, by decide, by decide⟩
   ·split at h1
    ·split at h1
     ·cases h1; exact ⟨by decide, by decide, by decide⟩
     ·cases h1
    ·split at h1
     ·cases h1
     ·cases h1; exact ⟨by decide, by decide, by decide⟩
theorem good_cons {t : Tok} {l : List Tok} (ht : t.kind ≠ 0 ∧ 0 ≤ t.num ∧ t.num ≤ 9223372036854775807 ∧ t.pos ≤ 1000000) (h : GoodT l) : GoodT (t :: l) := by
 obtain ⟨u, m, rfl⟩ := h.ne
 exact ⟨ht, h⟩
theorem lexR_good_aux : ∀ (f at_ : Nat) (s : List UInt8) (l : List Tok), s.length ≤ f → at_ + s.length ≤ 1000000 → lexR at_ s = .toks l → GoodT l ∧ l.length ≤ s.length + 1 := by
 intro f
 induction f with
 | zero =>
  intro at_ s l hs ha h
  have hg := gap_le false s
  rw [lexR_end (by rw [List.drop_eq_nil_iff]; omega)] at h
  cases h
  exact ⟨(show GoodT [(⟨0, [], 0, at_ + gap false s⟩ : Tok)] from ⟨rfl, by show (0 : Int) ≤ 0; decide, by show (0 : Int) ≤ 9223372036854775807; decide, by show at_ + gap false s ≤ 1000000; omega⟩), by simp⟩
 | succ f ih =>
  intro at_ s l hs ha h
  have hg := gap_le false s
  cases hd : s.drop (gap false s) with
  | nil =>
   rw [lexR_end hd] at h
   cases h
   exact ⟨(show GoodT [(⟨0, [], 0, at_ + gap false s⟩ : Tok)] from ⟨rfl, by show (0 : Int) ≤ 0; decide, by show (0 : Int) ≤ 9223372036854775807; decide, by show at_ + gap false s ≤ 1000000; omega⟩), by simp⟩
  | cons c u =>
   have hlen : (c :: u).length = s.length - gap false s := by rw [← hd, List.length_drop]
   cases ho : one (c :: u) with
   | bad r => rw [lexR_bad hd ho] at h; cases h
   | ok k x v n =>
    rw [lexR_ok hd ho] at h
    obtain ⟨m, h1, rfl⟩ := cons_toks h
    obtain ⟨hp, hn⟩ := one_pos ho
    have hdl : ((c :: u).drop n).length = (c :: u).length - n := List.length_drop
    obtain ⟨g1, g2⟩ := ih _ _ _ (by omega) (by omega) h1
    refine ⟨good_cons ⟨(one_good ho).1, (one_good ho).2.1, (one_good ho).2.2, by show at_ + gap false s ≤ 1000000; omega⟩ g1, ?_⟩
    simp only [List.length_cons]
    omega
theorem lexR_good {s : List UInt8} {l : List Tok} (hs : s.length ≤ 8192) (h : lexR 0 s = .toks l) : GoodT l ∧ l.length ≤ 8193 := by
 obtain ⟨h1, h2⟩ := lexR_good_aux _ 0 s l (Nat.le_refl _) (by omega) h
 exact ⟨h1, by omega⟩
end Go.Proofs.YtenfphbhofibjaaGreatDoor.PM
