/-
 The laws' Print of layer 6: what its expr and Print promise, of each well made tree; texts within texts.
 Conditions: as each theorem says.
-/
import Derived.Test.YtpboencfnjmmbaaGreatDoorZLpJoin
import Derived.Test.YtpboencfnjmmbaaGreatDoorZTkAll
import Derived.Test.YtpboencfnjmmbaaGreatDoorZLqQuote
set_option linter.unusedVariables false
namespace Go.Proofs.YtpboencfnjmmbaaGreatDoor
open Go.RowKit TM
def mkB (t : Bs) : ByteArray := ⟨t.toArray⟩
theorem mkB_size (t : Bs) : (mkB t).size = t.length := by simp [mkB, ByteArray.size]
theorem bl_mk (t : Bs) : bl (mkB t) = t := by simp [bl, mkB]
theorem mkB_add (a b : Bs) : mkB a ++ mkB b = mkB (a ++ b) := by
 apply ByteArray.ext
 rw [ByteArray.data_append]
 simp [mkB]
def LE (e : TE) : Prop := wfE e → ∀ (w : World) (a b c : Value), Lw w → EIn (· < w.heap.size) w e a b c → (txE e).length ≤ 1000000000 → Calls Tryz.prog 24 #[exV e a b c] w fun en w' => en = .returned (.string (mkB (txE e))) ∧ Below w.heap.size w w'
def LP (s : List TS) : Prop := wfSs s → ∀ (w : World) (v : Value), Lw w → SsIn w.heap.size w v s → (txSs s).length ≤ 1000000000 → Calls Tryz.prog 17 #[v] w fun en w' => en = .returned (.string (mkB (txSs s))) ∧ Below w.heap.size w w'
structure LSm (n : Nat) : Prop where
 e : ∀ e, szE e < n → LE e
 s : ∀ s, szSs s < n → LP s
theorem wfEs_get : ∀ {l : List TE} {j : Nat} {e : TE}, wfEs l → l[j]? = some e → wfE e
 | [], j, e, _, h => by simp at h
 | x :: l, 0, e, hw, h => by simp at h; subst h; exact hw.1
 | x :: l, j + 1, e, hw, h => wfEs_get hw.2 (by simpa using h)
theorem commas_mem {x : Bs} : ∀ {l : List Bs}, x ∈ l → x.length ≤ (commas l).length
 | [], h => by simp at h
 | y :: l, h => by
  rcases List.mem_cons.1 h with rfl | h
  ·simp [commas]
  ·have key : ∀ l : List Bs, x ∈ l → x.length ≤ (l.flatMap fun y => [44, 32] ++ y).length := by
    intro l
    induction l with
    | nil => intro h; simp at h
    | cons z l ih =>
     intro h
     simp only [List.flatMap_cons, List.length_append, List.length_cons, List.length_nil]
     rcases List.mem_cons.1 h with rfl | h
     ·omega
     ·have := ih h; omega
   have := key l h
   simp only [commas, List.length_append]
   omega
theorem pairs_mem {x : Bs} : ∀ {l : List Bs}, x ∈ l → ∃ y ∈ pairs l, x.length ≤ y.length
 | [], h => by simp at h
 | [k], h => by
  simp at h
  subst h
  refine ⟨[91] ++ x ++ [93, 58, 32] ++ nilT, by simp [pairs], ?_⟩
  simp only [List.length_append]
  omega
 | k :: v :: l, h => by
  by_cases h1 : x = k ∨ x = v
  ·refine ⟨[91] ++ k ++ [93, 58, 32] ++ v, by simp [pairs], ?_⟩
   simp only [List.length_append]
   rcases h1 with rfl | rfl <;> omega
  ·have : x ∈ l := by
    rcases List.mem_cons.1 h with h | h
    ·exact absurd (.inl h) h1
    ·rcases List.mem_cons.1 h with h | h
     ·exact absurd (.inr h) h1
     ·exact h
   obtain ⟨y, hy, hl⟩ := pairs_mem this
   exact ⟨y, by simp [pairs, hy], hl⟩
theorem part_le {op : Nat} {num : Int} {text : ByteArray} {parts : List TE} {params : List ByteArray} {body : List TS} (hw : wfE (.mk op num text parts params body)) {p : TE} (hp : p ∈ parts) : (txE p).length ≤ (exT op num text (txEs parts) params (txSs body)).length := by
 obtain ⟨⟨h17, _⟩, h1, h2, h15, h16, h0, _⟩ := hw
 have hm : txE p ∈ txEs parts := by rw [txEs_map]; exact List.mem_map.2 ⟨p, hp, rfl⟩
 have hpl : 0 < parts.length := List.length_pos_of_mem hp
 have hop : 6 ≤ op ∧ op ≤ 16 := by
  by_cases h : op ≤ 5 ∨ op = 17
  ·rw [h0 h] at hp; simp at hp
  ·omega
 have one : ∀ x : TE, parts = [x] → pt (txEs parts) 0 = txE p := fun x hx => by rw [hx] at hp ⊢; simp at hp; subst hp; rfl
 have two : parts.length = 2 → (txE p).length ≤ (pt (txEs parts) 0).length + (pt (txEs parts) 1).length := fun h => by
  match parts, h with
  | [x, y], _ =>
   simp at hp
   show _ ≤ (txE x).length + (txE y).length
   rcases hp with rfl | rfl <;> omega
 unfold exT
 rw [if_neg (by omega), if_neg (by omega), if_neg (by omega), if_neg (by omega), if_neg (by omega), if_neg (by omega)]
 split
 ·next h =>
  obtain ⟨x, hx⟩ : ∃ x, parts = [x] := List.length_eq_one_iff.1 (h1 (.inl h))
  simp only [unT, one x hx, List.length_append]; omega
 split
 ·next h =>
  obtain ⟨x, hx⟩ : ∃ x, parts = [x] := List.length_eq_one_iff.1 (h1 (.inr h))
  simp only [unT, one x hx, List.length_append]; omega
 split
 ·have := two (h2 (by omega)); simp only [binT, List.length_append]; omega
 split
 ·have := two (h2 (by omega)); simp only [fieldT, List.length_append]; omega
 split
 ·cases hps : txEs parts with
  | nil => rw [hps] at hm; simp at hm
  | cons x l =>
   rw [hps] at hm
   simp only [callT, List.length_append, List.drop_one, List.tail_cons]
   rcases List.mem_cons.1 hm with h | h
   ·have : pt (x :: l) 0 = x := rfl
    rw [this, h]; omega
   ·have := commas_mem h; omega
 split
 ·obtain ⟨y, hy, hl⟩ := pairs_mem hm
  have := commas_mem hy
  simp only [recT, List.length_append]; omega
 ·omega
theorem ein_up {w w' : World} {x : TE} {a b c : Value} (h : EIn (· < w.heap.size) w x a b c) (hb : Below w.heap.size w w') : EIn (· < w'.heap.size) w' x a b c := EIn.kept (fun k hk => ⟨Nat.lt_of_lt_of_le hk hb.size, hb.block k hk⟩) x h
theorem ssin_up {w w' : World} {l : List TS} {v : Value} (h : SsIn w.heap.size w v l) (hb : Below w.heap.size w w') : SsIn w'.heap.size w' v l :=
 SlAt.imp h (fun k hk => Nat.lt_of_lt_of_le hk hb.size) fun g o _ hA => SsAt.kept (P := (· < w.heap.size)) (fun k hk => ⟨Nat.lt_of_lt_of_le hk hb.size, hb.block k hk⟩) l (by assumption) hA
theorem row_lat {w w' : World} {bs : Nat} {e : TypeId} {size n : Nat} {v : Value} {xs : List Value} (h : w.ownsRow bs e size v n xs) (hb : Below w.heap.size w w') : w'.ownsRow bs e size v n xs := by
 refine ⟨h.1, h.2.imp id ?_⟩
 rintro ⟨g, cap, cur, rfl, hbg, hg, rest⟩
 exact ⟨g, cap, cur, rfl, hbg, (hb.block g (lt_of_block hg)).trans hg, rest⟩
theorem commas_ge : ∀ l : List Bs, 2 * l.length ≤ (commas l).length + 2
 | [] => by simp
 | x :: l => by
  have key : ∀ l : List Bs, 2 * l.length ≤ (l.flatMap fun y => [44, 32] ++ y).length := by
   intro l
   induction l with
   | nil => simp
   | cons y l ih =>
    simp only [List.flatMap_cons, List.length_append, List.length_cons, List.length_nil]
    omega
  have := key l
  simp only [commas, List.length_append, List.length_cons]
  omega
theorem pairs_ge : ∀ l : List Bs, l.length ≤ 2 * (pairs l).length
 | [] => by simp
 | [k] => by simp [pairs]
 | k :: v :: l => by
  have := pairs_ge l
  simp only [pairs, List.length_cons]
  omega
theorem parts_few {op : Nat} {num : Int} {text : ByteArray} {parts : List TE} {params : List ByteArray} {body : List TS} (hw : wfE (.mk op num text parts params body)) : parts.length ≤ (exT op num text (txEs parts) params (txSs body)).length + 4 := by
 obtain ⟨⟨h17, _⟩, h1, h2, h15, h16, h0, _⟩ := hw
 have hlen : (txEs parts).length = parts.length := by rw [txEs_map, List.length_map]
 by_cases ha : op ≤ 5 ∨ op = 17
 ·rw [h0 ha]; simp
 by_cases hb : op = 6 ∨ op = 7
 ·rw [h1 hb]; omega
 by_cases hc : 8 ≤ op ∧ op ≤ 14
 ·rw [h2 hc]; omega
 unfold exT
 rw [if_neg (by omega), if_neg (by omega), if_neg (by omega), if_neg (by omega), if_neg (by omega), if_neg (by omega), if_neg (by omega), if_neg (by omega), if_neg (by omega), if_neg (by omega)]
 split
 ·have := commas_ge ((txEs parts).drop 1)
  rw [List.length_drop] at this
  simp only [callT, List.length_append]
  omega
 rw [if_pos (by omega)]
 have e1 := commas_ge (pairs (txEs parts))
 have e2 := pairs_ge (txEs parts)
 simp only [recT, List.length_append]
 omega
structure JLy (wr : World) (ib tb ip tp k : Nat) (cs : Array Value) (ty : TypeId) (l : Nat → Bool) (a : Act) (W : World) : Prop where
 b : Below wr.heap.size wr W
 r : l ib = true → ∃ gq, a.eval (.tmp tb) = .slice (some ⟨gq, 0, none⟩) 6 6 ∧ W.heap[gq]? = some (.cells cs ty (0, 0))
 p : l ip = true → ∃ gq, a.eval (.tmp tp) = .pointer (some ⟨gq, k, none⟩) ∧ W.heap[gq]? = some (.cells cs ty (0, 0))
section
variable {wr W : World} {ib tb ip tp k : Nat} {cs : Array Value} {ty : TypeId} {l : Nat → Bool} {a : Act}
theorem JLy.start (a : Act) : JLy wr ib tb ip tp k cs ty (fun _ => false) a wr.drew := ⟨(Below.refl _ _).drew, fun h => by simp at h, fun h => by simp at h⟩
theorem JLy.pure (h : JLy wr ib tb ip tp k cs ty l a W) {i d : Nat} {u : Value} (hi : ib ≠ i ∧ ip ≠ i) (hd : tb ≠ d ∧ tp ≠ d) : JLy wr ib tb ip tp k cs ty (more l i) (a.put (some d) u) W := by
 refine ⟨h.b, fun hl => ?_, fun hl => ?_⟩
 ·rw [more_ne _ hi.1] at hl
  rw [eval_other hd.1]
  exact h.r hl
 ·rw [more_ne _ hi.2] at hl
  rw [eval_other hd.2]
  exact h.p hl
theorem JLy.lay (h : JLy wr ib tb ip tp k cs ty l a W) (hd : tb < a.tmps.size) (hp : l ip = false) (hne : ip ≠ ib) : JLy wr ib tb ip tp k cs ty (more l ib) (a.put (some tb) (.slice (some ⟨W.heap.size, 0, none⟩) 6 6)) (W.alloc (.cells cs ty)) :=
 ⟨h.b.alloc h.b.size _, fun _ => ⟨W.heap.size, by rw [eval_put _ _ _ _ hd, if_pos rfl], heap_alloc_new _ _⟩, fun q => by rw [more_ne _ hne, hp] at q; cases q⟩
theorem JLy.idx (h : JLy wr ib tb ip tp k cs ty l a W) (hd : tp < a.tmps.size) (hne : ib ≠ ip) (ht : tb ≠ tp) {gq : Nat} (hg : W.heap[gq]? = some (.cells cs ty (0, 0))) : JLy wr ib tb ip tp k cs ty (more l ip) (a.put (some tp) (.pointer (some ⟨gq, k, none⟩))) W :=
 ⟨h.b, fun q => by rw [more_ne _ hne] at q; rw [eval_other ht]; exact h.r q, fun _ => ⟨gq, by rw [eval_put _ _ _ _ hd, if_pos rfl], hg⟩⟩
end
def sgs : Array Value := #[.string ⟨#[43]⟩, .string ⟨#[45]⟩, .string ⟨#[42]⟩, .string ⟨#[61, 61]⟩, .string ⟨#[33, 61]⟩, .string ⟨#[60]⟩]
theorem sgs_at {k op : Nat} (h : op = k + 8) (hk : k < 6) : sgs[k]? = some (.string (mkB (sign op))) := by
 subst h
 rcases (show k = 0 ∨ k = 1 ∨ k = 2 ∨ k = 3 ∨ k = 4 ∨ k = 5 from by omega) with rfl | rfl | rfl | rfl | rfl | rfl <;> rfl
end Go.Proofs.YtpboencfnjmmbaaGreatDoor
