/-
 What is free where more names are own: what is free, but for those.
 Conditions: none.
-/
import Derived.Test.YtpboencfnjmmbaaGreatDoorZFd
import Derived.Test.YtpboencfnjmmbaaGreatDoorZJTk
set_option linter.unusedVariables false
set_option linter.unusedSimpArgs false
namespace Go.Proofs.YtpboencfnjmmbaaGreatDoor
open TM
def outN (x f : List ByteArray) : List ByteArray := f.filter fun s => !inN s x
theorem inN_mem (s : ByteArray) (m : List ByteArray) : inN s m = true ↔ s ∈ m := by simp [inN]
theorem useN_out {M m x f : List ByteArray} (hM : ∀ s, s ∈ M ↔ s ∈ m ∨ s ∈ x) (s : ByteArray) : useN M (outN x f) s = outN x (useN m f s) := by
 have h1 : inN s M = (inN s m || inN s x) := by
  rw [Bool.eq_iff_iff, Bool.or_eq_true, inN_mem, inN_mem, inN_mem]
  exact hM s
 by_cases hx : s ∈ x
 ·have hx2 : inN s x = true := (inN_mem s x).2 hx
  have e1 : useN M (outN x f) s = outN x f := by simp [useN, h1, hx2]
  rw [e1]
  unfold useN
  split
  ·rfl
  ·simp [outN, List.filter_append, hx2]
 ·have hx2 : inN s x = false := by rw [Bool.eq_false_iff]; exact fun h => hx ((inN_mem s x).1 h)
  have h2 : inN s (outN x f) = inN s f := by
   rw [Bool.eq_iff_iff, inN_mem, inN_mem]
   unfold outN
   rw [List.mem_filter]
   simp [hx2]
  unfold useN
  rw [h1, h2, hx2, Bool.or_false]
  split
  ·rfl
  ·simp [outN, List.filter_append, hx2]
theorem mdS_more {M m x : List ByteArray} (hM : ∀ s, s ∈ M ↔ s ∈ m ∨ s ∈ x) (t : TS) : ∀ s, s ∈ mdS t M ↔ s ∈ mdS t m ∨ s ∈ x := by
 obtain ⟨k, name, a, b, c, d⟩ := t
 intro s
 simp only [mdS]
 split
 ·simp only [List.mem_append, hM s]
  constructor
  ·rintro ((h | h) | h)
   ·exact .inl (.inl h)
   ·exact .inr h
   ·exact .inl (.inr h)
  ·rintro ((h | h) | h)
   ·exact .inl (.inl h)
   ·exact .inr h
   ·exact .inl (.inr h)
 ·exact hM s
theorem more_app {M m x : List ByteArray} (hM : ∀ s, s ∈ M ↔ s ∈ m ∨ s ∈ x) (l : List ByteArray) : ∀ s, s ∈ M ++ l ↔ s ∈ m ++ l ∨ s ∈ x := by
 intro s
 simp only [List.mem_append, hM s]
 constructor
 ·rintro ((h | h) | h)
  ·exact .inl (.inl h)
  ·exact .inr h
  ·exact .inl (.inr h)
 ·rintro ((h | h) | h)
  ·exact .inl (.inl h)
  ·exact .inr h
  ·exact .inl (.inr h)
mutual
theorem frE_out : ∀ (e : TE) {M m x f : List ByteArray}, (∀ s, s ∈ M ↔ s ∈ m ∨ s ∈ x) → frE e M (outN x f) = outN x (frE e m f)
 | .mk op num text ps pm bd, M, m, x, f, hM => by
  simp only [frE]
  split
  ·exact useN_out hM text
  ·split
   ·exact frSs_out bd (more_app hM pm)
   ·exact frEs_out ps hM
theorem frEs_out : ∀ (l : List TE) {M m x f : List ByteArray}, (∀ s, s ∈ M ↔ s ∈ m ∨ s ∈ x) → frEs l M (outN x f) = outN x (frEs l m f)
 | [], M, m, x, f, hM => rfl
 | e :: l, M, m, x, f, hM => by
  simp only [frEs]
  rw [frE_out e hM]
  exact frEs_out l hM
theorem frS_out : ∀ (t : TS) {M m x f : List ByteArray}, (∀ s, s ∈ M ↔ s ∈ m ∨ s ∈ x) → frS t M (outN x f) = outN x (frS t m f)
 | .mk k name xs b e pos, M, m, x, f, hM => by
  simp only [frS]
  split
  ·rw [frEs_out xs hM]; exact useN_out hM name
  ·split
   ·rw [frEs_out xs hM, frSs_out b hM]; exact frSs_out e hM
   ·split
    ·rw [frEs_out xs hM, frSs_out b hM]; exact frSs_out e (more_app hM [name])
    ·exact frEs_out xs hM
theorem frSs_out : ∀ (l : List TS) {M m x f : List ByteArray}, (∀ s, s ∈ M ↔ s ∈ m ∨ s ∈ x) → frSs l M (outN x f) = outN x (frSs l m f)
 | [], M, m, x, f, hM => rfl
 | s :: l, M, m, x, f, hM => by
  simp only [frSs]
  rw [frS_out s hM]
  exact frSs_out l (mdS_more hM s)
end
theorem free_more (l : List TS) (ps : List ByteArray) (x : List ByteArray) : frSs l (ps ++ x) [] = outN x (frSs l ps []) :=
 frSs_out l (f := []) fun s => by simp
end Go.Proofs.YtpboencfnjmmbaaGreatDoor
namespace Go.Proofs.YtpboencfnjmmbaaGreatDoor
open TM
def smB : List Bs → Nat
 | [] => 0
 | x :: l => x.length + smB l
theorem sc_flat_len : ∀ l : List Bs, (l.flatMap fun y => [44, 32] ++ y).length = smB l + 2 * l.length
 | [] => rfl
 | x :: l => by rw [List.flatMap_cons, List.length_append, sc_flat_len l]; simp [smB]; omega
theorem sc_commas_len : ∀ l : List Bs, smB l + 2 * l.length ≤ (commas l).length + 2
 | [] => by simp [smB]
 | x :: l => by rw [commas, List.length_append, sc_flat_len]; simp [smB]; omega
theorem sc_commas_ge : ∀ l : List Bs, smB l + l.length ≤ (commas l).length + 1
 | [] => by simp [smB]
 | x :: l => by rw [commas, List.length_append, sc_flat_len]; simp [smB]; omega
theorem sc_pairs_len : ∀ l : List Bs, smB l + 2 * l.length ≤ smB (pairs l) ∧ (pairs l).length ≤ l.length
 | [] => ⟨by simp [smB, pairs], by simp [pairs]⟩
 | [k] => ⟨by simp [smB, pairs], by simp [pairs]⟩
 | k :: v :: l => by
  obtain ⟨h1, h2⟩ := sc_pairs_len l
  refine ⟨?_, ?_⟩
  ·simp only [pairs, smB, List.length_append, List.length_cons, List.length_nil]
   omega
  ·simp only [pairs, List.length_cons]
   omega
theorem sc_names_len : ∀ l : List ByteArray, wtNs l = smB (l.map fun p => p.data.toList) + l.length
 | [] => rfl
 | x :: l => by
  have h := sc_names_len l
  simp only [wtNs, List.map_cons, smB, List.length_cons, h]
  have : x.size = x.data.toList.length := by rw [Array.length_toList]; rfl
  omega
theorem sc_txEs_len : ∀ l : List TE, (txEs l).length = l.length
 | [] => rfl
 | e :: l => by simp [txEs, sc_txEs_len l]
theorem sc_ex_len {op : Nat} {num : Int} {text : ByteArray} {ls : List Bs} {pm : List ByteArray} {b : Bs} (h17 : op ≤ 17) (h6 : op = 6 ∨ op = 7 → ls.length = 1) (h8 : 8 ≤ op ∧ op ≤ 14 → ls.length = 2) (h15 : op = 15 → 1 ≤ ls.length) (h5 : op ≤ 5 ∨ op = 17 → ls = []) (ht : op ≠ 4 → op ≠ 5 → text = ⟨#[]⟩) (hp : op ≠ 17 → pm = [] ∧ b = []) :
 text.size + 2 * smB ls + ls.length + wtNs pm + 2 * b.length ≤ 2 * (exT op num text ls pm b).length := by
 have hts : text.size = text.data.toList.length := by rw [Array.length_toList]; rfl
 by_cases e17 : op = 17
 ·subst e17
  obtain rfl := h5 (.inr rfl)
  obtain rfl := ht (by decide) (by decide)
  have hc := sc_commas_len (pm.map fun p => p.data.toList)
  have hn := sc_names_len pm
  rw [show (⟨#[]⟩ : ByteArray).size = 0 from rfl]
  show _ ≤ 2 * (fnT pm b).length
  clear hts
  simp only [fnT, blockT, smB, List.length_append, List.length_cons, List.length_nil, List.length_map] at hc ⊢
  omega
 obtain ⟨rfl, rfl⟩ := hp e17
 by_cases e4 : op = 4
 ·subst e4
  obtain rfl := h5 (.inl (by decide))
  have hq := (quoF_len text.data.toList).1
  show _ ≤ 2 * (quoteT text.data.toList).length
  simp only [quoteT, smB, wtNs, List.length_append, List.length_cons, List.length_nil]
  omega
 by_cases e5 : op = 5
 ·subst e5
  obtain rfl := h5 (.inl (by decide))
  simp only [exT, smB, wtNs, List.length_nil]
  simp
  omega
 obtain rfl := ht e4 e5
 have hz : (⟨#[]⟩ : ByteArray).size = 0 := rfl
 rw [hz]
 by_cases l5 : op ≤ 5
 ·obtain rfl := h5 (.inl l5)
  simp [smB, wtNs]
 by_cases u : op = 6 ∨ op = 7
 ·obtain ⟨a, rfl⟩ := List.length_eq_one_iff.1 (h6 u)
  rcases u with rfl | rfl <;> simp [exT, unT, pt, smB, wtNs] <;> omega
 by_cases d : 8 ≤ op ∧ op ≤ 14
 ·match ls, h8 d with
  | [a, c], _ =>
   by_cases e14 : op = 14
   ·subst e14
    simp [exT, fieldT, pt, smB, wtNs]
    omega
   ·have e : exT op num ⟨#[]⟩ [a, c] [] [] = binT (sign op) [a, c] := by
     unfold exT
     rw [if_neg (by omega), if_neg (by omega), if_neg (by omega), if_neg (by omega), if_neg (by omega), if_neg (by omega), if_neg (by omega), if_neg (by omega), if_pos (by omega)]
    rw [e]
    simp [binT, pt, smB, wtNs]
    omega
 by_cases e15 : op = 15
 ·subst e15
  match ls, h15 rfl with
  | x :: l, _ =>
   have hc := sc_commas_ge l
   simp [exT, callT, pt, smB, wtNs]
   omega
 obtain rfl : op = 16 := by omega
 have hc := sc_commas_len (pairs ls)
 obtain ⟨hp1, hp2⟩ := sc_pairs_len ls
 simp [exT, recT, wtNs]
 omega
theorem sc_st_len {k : Nat} {name : ByteArray} {ls : List Bs} {b e : Bs} {noE : Bool} (h8 : k ≤ 8) (h2 : k = 2 → ls.length = 3) (h1 : k ≠ 2 ∧ k ≠ 7 → ls.length = 1) (h7 : k = 7 → ls = []) (hn : k ≠ 0 → k ≠ 1 → k ≠ 7 → name = ⟨#[]⟩) (hb : k ≠ 3 → k ≠ 4 → k ≠ 7 → b = []) (he : k ≠ 3 → k ≠ 7 → e = []) (hno : noE = true → e = []) :
 2 + name.size + 2 * smB ls + ls.length + 2 * b.length + 2 * e.length ≤ 2 * (stT k name ls b noE e).length := by
 have hts : name.size = name.data.toList.length := by rw [Array.length_toList]; rfl
 have hz : (⟨#[]⟩ : ByteArray).size = 0 := rfl
 by_cases k2 : k = 2
 ·subst k2
  obtain rfl := hb (by decide) (by decide) (by decide)
  obtain rfl := he (by decide) (by decide)
  obtain rfl := hn (by decide) (by decide) (by decide)
  match ls, h2 rfl with
  | [x, y, z], _ => rw [hz]; simp [stT, simpleT, fieldT, pt, smB]; omega
 by_cases k7 : k = 7
 ·subst k7
  obtain rfl := h7 rfl
  simp [stT, blocksT, blockT, smB]
  omega
 obtain ⟨x, rfl⟩ := List.length_eq_one_iff.1 (h1 ⟨k2, k7⟩)
 by_cases k3 : k = 3
 ·subst k3
  obtain rfl := hn (by decide) (by decide) (by decide)
  cases noE with
  | true =>
   obtain rfl := hno rfl
   rw [hz]; simp [stT, blocksT, blockT, pt, smB]; omega
  | false => rw [hz]; simp [stT, blocksT, blockT, pt, smB]; omega
 obtain rfl := he k3 k7
 by_cases k4 : k = 4
 ·subst k4
  obtain rfl := hn (by decide) (by decide) (by decide)
  rw [hz]; simp [stT, blocksT, blockT, pt, smB]; omega
 obtain rfl := hb k3 k4 k7
 by_cases k0 : k = 0
 ·subst k0; simp [stT, simpleT, pt, smB]; omega
 by_cases k1 : k = 1
 ·subst k1; simp [stT, simpleT, pt, smB]; omega
 obtain rfl := hn k0 k1 k7
 rw [hz]
 rcases (show k = 5 ∨ k = 6 ∨ k = 8 from by omega) with rfl | rfl | rfl <;> simp [stT, simpleT, pt, smB] <;> omega
mutual
theorem wtE_le : ∀ {e : TE}, wfE e → wtE e ≤ 2 * (txE e).length + 1
 | .mk op num text ps pm bd, h => by
  obtain ⟨⟨h17, _, _⟩, h6, h8, h15, h16, h5, _, _, _, ht, hp, _, hps, hbd⟩ := h
  have a := wtEs_le hps
  have b := wtSs_le hbd
  have c := sc_ex_len (num := num) (text := text) (ls := txEs ps) (pm := pm) (b := txSs bd) h17 (by rw [sc_txEs_len]; exact h6) (by rw [sc_txEs_len]; exact h8) (by rw [sc_txEs_len]; exact h15) (fun q => by rw [h5 q]; rfl) ht (fun q => ⟨(hp q).1, by rw [(hp q).2]; rfl⟩)
  rw [sc_txEs_len] at c
  simp only [wtE, txE]
  omega
theorem wtEs_le : ∀ {l : List TE}, wfEs l → wtEs l ≤ 2 * smB (txEs l) + l.length
 | [], _ => by simp [wtEs]
 | e :: l, h => by
  have a := wtE_le h.1
  have b := wtEs_le h.2
  simp only [wtEs, txEs, smB, List.length_cons]
  omega
theorem wtS_le : ∀ {s : TS}, wfS s → wtS s ≤ 2 * (txS s).length
 | .mk k name xs b e pos, h => by
  obtain ⟨h8, h2, h1, h7, _, hn, hb, he, _, hxs, hwb, hwe⟩ := h
  have a := wtEs_le hxs
  have c := wtSs_le hwb
  have d := wtSs_le hwe
  have q := sc_st_len (k := k) (name := name) (ls := txEs xs) (b := txSs b) (e := txSs e) (noE := e.isEmpty) h8 (by rw [sc_txEs_len]; exact h2) (by rw [sc_txEs_len]; exact h1) (fun q => by rw [h7 q]; rfl) hn (fun x y z => by rw [hb x y z]; rfl) (fun x y => by rw [he x y]; rfl) (fun x => by rw [List.isEmpty_iff.1 x]; rfl)
  rw [sc_txEs_len] at q
  simp only [wtS, txS]
  omega
theorem wtSs_le : ∀ {l : List TS}, wfSs l → wtSs l ≤ 2 * (txSs l).length
 | [], _ => by simp [wtSs]
 | s :: l, h => by
  have a := wtS_le h.1
  have b := wtSs_le h.2
  simp only [wtSs, txSs, List.length_append]
  omega
end
end Go.Proofs.YtpboencfnjmmbaaGreatDoor
