/-
 Package lex: piece, text, sign: what each returns.
 Conditions: as each theorem says (texts of at most 100000 bytes).
-/
import Derived.Test.YtenfphbhofibjaaGreatDoorZLx1
import Derived.Test.YtenfphbhofibjaaGreatDoorZLs
import Derived.Test.YtenfphbhofibjaaGreatDoorZArena
set_option maxRecDepth 100000
set_option maxHeartbeats 1000000
set_option linter.unusedVariables false
namespace Go.Proofs.YtenfphbhofibjaaGreatDoor
open Go.ChangeShapes Go.WideShapes Go.ChangeAt Go.RowKit LM
def tokV (k : Nat) (x : List UInt8) (v : Int) (p : Nat) : Value := .agg #[.int .i64 (k : Int), .string ⟨x.toArray⟩, .int .i64 v, .int .i64 (p : Int)]
def pieceOf : List UInt8 → UInt8 × Nat
 | [] => (0, 0)
 | [c] => if c.toNat = 92 then (0, 0) else if c.toNat < 32 ∨ 126 < c.toNat then (0, 0) else (c, 1)
 | c :: d :: _ => if c.toNat = 92 then (if d.toNat = 34 ∨ d.toNat = 92 then (d, 2) else if d.toNat = 110 then (10, 2) else (0, 0)) else if c.toNat < 32 ∨ 126 < c.toNat then (0, 0) else (c, 1)
theorem prefix2 (x y : UInt8) : ∀ l : List UInt8, Lib.hasPrefix l [x, y] = match l with | c :: d :: _ => (x == c && y == d) | _ => false
 | [] => by simp [Lib.hasPrefix]
 | [c] => by simp [Lib.hasPrefix, List.isPrefixOf]
 | c :: d :: t => by simp [Lib.hasPrefix, List.isPrefixOf]
theorem u8_beq (x c : UInt8) : (x == c) = decide (c.toNat = x.toNat) := by
 rw [Bool.eq_iff_iff]
 simp only [beq_iff_eq, decide_eq_true_eq]
 exact ⟨fun h => by rw [h], fun h => (UInt8.toNat_inj.1 h).symm⟩
theorem toList_head (s : ByteArray) {c : UInt8} {t : List UInt8} (h : s.data.toList = c :: t) : ∃ h0 : 0 < s.size, s[0]'h0 = c := by
 have hl : 0 < s.size := by rw [← len_eq, h]; simp
 refine ⟨hl, ?_⟩
 have := byte_at s 0 hl
 rw [h] at this
 simpa using this.symm
theorem toList_second (s : ByteArray) {c d : UInt8} {t : List UInt8} (h : s.data.toList = c :: d :: t) : ∃ h1 : 1 < s.size, s[1]'h1 = d := by
 have hl : 1 < s.size := by rw [← len_eq, h]; simp
 refine ⟨hl, ?_⟩
 have := byte_at s 1 hl
 rw [h] at this
 simpa using this.symm
def HP (s : ByteArray) (p : Array UInt8) (b : Bool) : Prop := ∀ w : World, Calls Tryz.prog 135 #[.string s, .string ⟨p⟩] w fun e w' => e = .returned (.bool b) ∧ w' = w
theorem hp_of {s : ByteArray} {x y : UInt8} {b : Bool} (h : Lib.hasPrefix s.data.toList [x, y] = b) : HP s #[x, y] b := fun w => by
 have := Tryz.strings_HasPrefix s ⟨#[x, y]⟩ w
 rw [show (⟨#[x, y]⟩ : ByteArray).data.toList = [x, y] from rfl, h] at this
 exact this
theorem piece_any (s : ByteArray) (h0 : 0 < s.size) (w : World) :
 Calls Tryz.prog 134 #[.string s] w fun e w' => e = .returned (.tuple #[.int .u8 ((pieceOf s.data.toList).1.toNat : Int), .int .i64 ((pieceOf s.data.toList).2 : Int)]) ∧ w' = w := by
 cases hS : s.data.toList with
 | nil => rw [← len_eq, hS] at h0; simp at h0
 | cons c t =>
  obtain ⟨hl0, e0⟩ := toList_head s hS
  have hc : c.toNat < 256 := c.toNat_lt
  by_cases h92 : c.toNat = 92
  ·cases t with
   | nil =>
    have H1 : Hid (HP s #[92, 34] false) := hp_of (by rw [prefix2, hS])
    have H2 : Hid (HP s #[92, 92] false) := hp_of (by rw [prefix2, hS])
    have H3 : Hid (HP s #[92, 110] false) := hp_of (by rw [prefix2, hS])
    have hp : pieceOf [c] = (0, 0) := by simp [pieceOf, h92]
    rw [hp]
    have e1 : ((c.toNat : Int) == 92) = true := by rw [h92]; rfl
    clear hS
    go_enter Tryz.func134, Tryz.ntmps134
    go_wp2_with fail
    refine (H1.out _).mono ?_
    rintro e w ⟨rfl, rfl⟩
    go_wp2_with fail
    refine (H2.out _).mono ?_
    rintro e w ⟨rfl, rfl⟩
    go_wp2_with fail
    refine (H3.out _).mono ?_
    rintro e w ⟨rfl, rfl⟩
    go_wp2
    go_ret2
    exact ⟨rfl, rfl⟩
   | cons d u =>
    obtain ⟨hl1, e1⟩ := toList_second s hS
    have hd : d.toNat < 256 := d.toNat_lt
    by_cases d34 : d.toNat = 34
    ·have H1 : Hid (HP s #[92, 34] true) := hp_of (by rw [prefix2, hS]; simp [u8_beq, h92, d34])
     have hp : pieceOf (c :: d :: u) = (d, 2) := by simp [pieceOf, h92, d34]
     rw [hp]
     clear hS
     go_enter Tryz.func134, Tryz.ntmps134
     go_wp2_with fail
     refine (H1.out _).mono ?_
     rintro e w ⟨rfl, rfl⟩
     go_wp2
     go_ret2
     exact ⟨by rw [d34]; rfl, rfl⟩
    ·have H1 : Hid (HP s #[92, 34] false) := hp_of (by rw [prefix2, hS]; simp [u8_beq, h92, d34])
     by_cases d92 : d.toNat = 92
     ·have H2 : Hid (HP s #[92, 92] true) := hp_of (by rw [prefix2, hS]; simp [u8_beq, h92, d92])
      have hp : pieceOf (c :: d :: u) = (d, 2) := by simp [pieceOf, h92, d92]
      rw [hp]
      clear hS
      go_enter Tryz.func134, Tryz.ntmps134
      go_wp2_with fail
      refine (H1.out _).mono ?_
      rintro e w ⟨rfl, rfl⟩
      go_wp2_with fail
      refine (H2.out _).mono ?_
      rintro e w ⟨rfl, rfl⟩
      go_wp2
      go_ret2
      exact ⟨by rw [d92]; rfl, rfl⟩
     ·have H2 : Hid (HP s #[92, 92] false) := hp_of (by rw [prefix2, hS]; simp [u8_beq, h92, d92])
      by_cases d110 : d.toNat = 110
      ·have H3 : Hid (HP s #[92, 110] true) := hp_of (by rw [prefix2, hS]; simp [u8_beq, h92, d110])
       have hp : pieceOf (c :: d :: u) = (10, 2) := by simp [pieceOf, h92, d110]
       rw [hp]
       clear hS
       go_enter Tryz.func134, Tryz.ntmps134
       go_wp2_with fail
       refine (H1.out _).mono ?_
       rintro e w ⟨rfl, rfl⟩
       go_wp2_with fail
       refine (H2.out _).mono ?_
       rintro e w ⟨rfl, rfl⟩
       go_wp2_with fail
       refine (H3.out _).mono ?_
       rintro e w ⟨rfl, rfl⟩
       go_wp2
       go_ret2
       exact ⟨rfl, rfl⟩
      ·have H3 : Hid (HP s #[92, 110] false) := hp_of (by rw [prefix2, hS]; simp [u8_beq, h92, d110])
       have hp : pieceOf (c :: d :: u) = (0, 0) := by simp [pieceOf, h92, d110, d34, d92]
       rw [hp]
       have e2 : ((c.toNat : Int) == 92) = true := by rw [h92]; rfl
       clear hS
       go_enter Tryz.func134, Tryz.ntmps134
       go_wp2_with fail
       refine (H1.out _).mono ?_
       rintro e w ⟨rfl, rfl⟩
       go_wp2_with fail
       refine (H2.out _).mono ?_
       rintro e w ⟨rfl, rfl⟩
       go_wp2_with fail
       refine (H3.out _).mono ?_
       rintro e w ⟨rfl, rfl⟩
       go_wp2
       go_ret2
       exact ⟨rfl, rfl⟩
  ·have hh : ∀ y : UInt8, Lib.hasPrefix s.data.toList [92, y] = false := fun y => by
    rw [prefix2, hS]
    cases t with
    | nil => rfl
    | cons d u => simp [u8_beq, h92]
   have H1 : Hid (HP s #[92, 34] false) := hp_of (hh 34)
   have H2 : Hid (HP s #[92, 92] false) := hp_of (hh 92)
   have H3 : Hid (HP s #[92, 110] false) := hp_of (hh 110)
   have e1 : ((c.toNat : Int) == 92) = false := by rw [beq_eq_false_iff_ne]; omega
   by_cases hlow : c.toNat < 32
   ·have hp : pieceOf (c :: t) = (0, 0) := by cases t <;> simp [pieceOf, h92, hlow]
    rw [hp]
    have e2 : decide ((c.toNat : Int) < 32) = true := by simp; omega
    clear hS hh
    go_enter Tryz.func134, Tryz.ntmps134
    go_wp2_with fail
    refine (H1.out _).mono ?_
    rintro e w ⟨rfl, rfl⟩
    go_wp2_with fail
    refine (H2.out _).mono ?_
    rintro e w ⟨rfl, rfl⟩
    go_wp2_with fail
    refine (H3.out _).mono ?_
    rintro e w ⟨rfl, rfl⟩
    go_wp2
    go_ret2
    exact ⟨rfl, rfl⟩
   ·have e2 : decide ((c.toNat : Int) < 32) = false := by simp; omega
    by_cases hhi : 126 < c.toNat
    ·have hp : pieceOf (c :: t) = (0, 0) := by cases t <;> simp [pieceOf, h92, hhi]
     rw [hp]
     have e3 : decide ((126 : Int) < (c.toNat : Int)) = true := by simp; omega
     clear hS hh
     go_enter Tryz.func134, Tryz.ntmps134
     go_wp2_with fail
     refine (H1.out _).mono ?_
     rintro e w ⟨rfl, rfl⟩
     go_wp2_with fail
     refine (H2.out _).mono ?_
     rintro e w ⟨rfl, rfl⟩
     go_wp2_with fail
     refine (H3.out _).mono ?_
     rintro e w ⟨rfl, rfl⟩
     go_wp2
     go_ret2
     exact ⟨rfl, rfl⟩
    ·have hp : pieceOf (c :: t) = (c, 1) := by cases t <;> simp [pieceOf, h92, hlow, hhi]
     rw [hp]
     have e3 : decide ((126 : Int) < (c.toNat : Int)) = false := by simp; omega
     clear hS hh
     go_enter Tryz.func134, Tryz.ntmps134
     go_wp2_with fail
     refine (H1.out _).mono ?_
     rintro e w ⟨rfl, rfl⟩
     go_wp2_with fail
     refine (H2.out _).mono ?_
     rintro e w ⟨rfl, rfl⟩
     go_wp2_with fail
     refine (H3.out _).mono ?_
     rintro e w ⟨rfl, rfl⟩
     go_wp2
     go_ret2
     exact ⟨rfl, rfl⟩
theorem txt_bad {c : UInt8} {t : List UInt8} (hc : c.toNat ≠ 34) (h : (pieceOf (c :: t)).2 = 0) : txt (c :: t) = none := by
 by_cases h92 : c.toNat = 92
 ·cases t with
  | nil => exact txt_b0 h92
  | cons d u =>
   rw [txt_b d u h92]
   simp only [pieceOf, h92, if_true] at h
   split at h
   ·simp at h
   ·rename_i h1
    rw [if_neg h1]
    split at h
    ·simp at h
    ·rename_i h2
     rw [if_neg h2]
 ·rw [txt_o t hc h92]
  cases t with
  | nil =>
   simp only [pieceOf, h92, if_false] at h
   split at h
   ·rename_i h1; rw [if_pos h1]
   ·simp at h
  | cons d u =>
   simp only [pieceOf, h92, if_false] at h
   split at h
   ·rename_i h1; rw [if_pos h1]
   ·simp at h
theorem txt_good {c : UInt8} {t : List UInt8} (hc : c.toNat ≠ 34) (h : (pieceOf (c :: t)).2 ≠ 0) : txt (c :: t) = (txt ((c :: t).drop (pieceOf (c :: t)).2)).map fun p => ((pieceOf (c :: t)).1 :: p.1, p.2 + (pieceOf (c :: t)).2) := by
 by_cases h92 : c.toNat = 92
 ·cases t with
  | nil => simp [pieceOf, h92] at h
  | cons d u =>
   rw [txt_b d u h92]
   simp only [pieceOf, h92, if_true] at h ⊢
   split
   ·rfl
   ·rename_i h1
    split
    ·rfl
    ·rename_i h2
     simp [h1, h2] at h
 ·rw [txt_o t hc h92]
  have hp : ¬ (c.toNat < 32 ∨ 126 < c.toNat) := by
   intro h1
   cases t <;> simp [pieceOf, h92, h1] at h
  have e : pieceOf (c :: t) = (c, 1) := by cases t <;> simp [pieceOf, h92, hp]
  rw [if_neg hp, e]
  rfl
theorem piece_le (l : List UInt8) : (pieceOf l).2 ≤ l.length := by
 unfold pieceOf
 split
 ·simp
 ·split
  ·simp
  ·split <;> simp
 ·split
  ·split
   ·simp
   ·split <;> simp
  ·split <;> simp
def byteRow (l : List UInt8) : List Value := l.map fun c => Value.int .u8 (c.toNat : Int)
theorem byteRow_one (l : List UInt8) (c : UInt8) : byteRow l ++ [.int .u8 (c.toNat : Int)] = byteRow (l ++ [c]) := by simp [byteRow]
theorem run_own_string {w : World} {base n : Nat} {v : Value} {l : List UInt8} (h : w.ownsRow base 5 1 v n (byteRow l)) (hn : n = l.length) : (convert 47 9 v).run Tryz.prog w = .ok (.string ⟨l.toArray⟩) w := by
 subst hn
 rcases h.2 with ⟨rfl, h2⟩ | ⟨g, cap, cur, rfl, hb, hg, h3, h4, h5, h6⟩
 ·have hl : l = [] := by simpa [byteRow] using h2
  subst hl
  exact run_convert_bytes_nil w 47 5 Tryz.underlying47 Tryz.underlying5 0 0 9 Tryz.underlying9
 ·exact run_convert_bytes_back w 47 9 5 ⟨g, 0, none⟩ cap l Tryz.underlying47 Tryz.underlying5 Tryz.underlying9 (fun j hj => by
   have := h.cells (g := g) rfl j (.int .u8 (l[j].toNat : Int)) (by simp [byteRow, hj])
   exact this)
theorem four {w : World} {b : Nat} {x0 x1 x2 x3 : Value} {t : TypeId} (h : w.heap[b]? = some (.cells #[x0, x1, x2, x3] t (0, 0))) : w.cell? ⟨b, 0, none⟩ = some x0 ∧ w.cell? ⟨b, 1, none⟩ = some x1 ∧ w.cell? ⟨b, 2, none⟩ = some x2 ∧ w.cell? ⟨b, 3, none⟩ = some x3 ∧ ∀ j, w.frozen? ⟨b, j, none⟩ = false := by
 refine ⟨?_, ?_, ?_, ?_, fun j => ?_⟩
 ·rw [cell_of_row _ _ _ _ _ _ h]; rfl
 ·rw [cell_of_row _ _ _ _ _ _ h]; rfl
 ·rw [cell_of_row _ _ _ _ _ _ h]; rfl
 ·rw [cell_of_row _ _ _ _ _ _ h]; rfl
 ·simp [World.frozen?, h]
theorem four_set {w : World} {b : Nat} {x0 x1 x2 x3 : Value} {t : TypeId} (h : w.heap[b]? = some (.cells #[x0, x1, x2, x3] t (0, 0))) (y0 y1 y2 y3 : Value) : ((((w.setCell ⟨b, 0, none⟩ y0).setCell ⟨b, 1, none⟩ y1).setCell ⟨b, 2, none⟩ y2).setCell ⟨b, 3, none⟩ y3).heap[b]? = some (.cells #[y0, y1, y2, y3] t (0, 0)) := by
 have h1 := heap_setCell_same w b 0 _ t y0 h
 have h2 := heap_setCell_same _ b 1 _ t y1 h1
 have h3 := heap_setCell_same _ b 2 _ t y2 h2
 exact heap_setCell_same _ b 3 _ t y3 h3
def textV (S : List UInt8) : Value := match txt (S.drop 1) with | some (m, n) => .tuple #[tokV 3 m 0 0, .int .i64 ((n + 1 : Nat) : Int), .int .i64 0] | none => .tuple #[tokV 0 [] 0 0, .int .i64 0, .int .i64 1]
theorem info5 : (Tryz.prog.info? 5).map (fun i => (i.zero, i.size, i.bytes)) = some (some (.int .u8 0), 1, 1) := by kernel_rfl
theorem text_any (s : ByteArray) (h0 : 0 < s.size) (hs : s.size ≤ 100000) (w : World) :
 Calls Tryz.prog 110 #[.string s] w fun e w' => e = .returned (textV s.data.toList) ∧ Below w.heap.size w w' := by
 go_enter Tryz.func110, Tryz.ntmps110
 go_wp2_with fail
 have hb0 : Below w.heap.size w (w.alloc (.cells #[.int .i64 0, .string { data := #[] }, .int .i64 0, .int .i64 0] 118)) := (Below.refl _ w).alloc (Nat.le_refl _) _
 have hk0 : (w.alloc (.cells #[.int .i64 0, .string { data := #[] }, .int .i64 0, .int .i64 0] 118)).heap[w.heap.size]? = some (.cells #[.int .i64 0, .string { data := #[] }, .int .i64 0, .int .i64 0] 118 (0, 0)) := heap_alloc_new w _
 generalize w.alloc (.cells #[.int .i64 0, .string { data := #[] }, .int .i64 0, .int .i64 0] 118) = w1 at hb0 hk0 ⊢
 generalize hS : s.data.toList = S
 have hSl : S.length = s.size := by rw [← hS]; exact len_eq s
 have HSS : Hid (s.data.toList = S) := hS
 clear hS
 go_loopw [5, 6] (fun v i wr => ∃ (k : Nat) (acc : List UInt8), 1 ≤ k ∧ k ≤ s.size ∧ i = .int .i64 k ∧ acc.length ≤ k ∧ Hid (txt (S.drop 1) = (txt (S.drop k)).map fun p => (acc ++ p.1, p.2 + (k - 1))) ∧ Hid (wr.ownsRow w.heap.size 5 1 v acc.length (byteRow acc)) ∧ Hid (Below w.heap.size w wr) ∧ Hid (wr.heap[w.heap.size]? = some (.cells #[.int .i64 0, .string { data := #[] }, .int .i64 0, .int .i64 0] 118 (0, 0))))
  (fun _ i _ => s.size - (intOf i).toNat)
 case atStart => exact ⟨1, [], Nat.le_refl _, h0, rfl, by simp, by show _ = _; simp, World.ownsRow_nil _ _ _ _, hb0, hk0⟩
 case round =>
  obtain ⟨k, acc, hk1, hk, rfl, hacc, HT, HR, HB, HK⟩ := hrel
  clear hb0 hk0
  by_cases hlt : k < s.size
  ·have hb := byte_at s k hlt
   rw [HSS.out] at hb
   have HD : Hid (S.drop k = (s[k]'hlt) :: S.drop (k + 1)) := drop_at hb
   have hidx : 0 ≤ (k : Int) ∧ (k : Int) < (s.size : Int) := ⟨by omega, by omega⟩
   have hc256 : (s[k]'hlt).toNat < 256 := (s[k]'hlt).toNat_lt
   by_cases h34 : (s[k]'hlt).toNat = 34
   ·have e0 : (((s[k]'hlt).toNat : Int) == 34) = true := by rw [h34]; rfl
    obtain ⟨c0, c1, c2, c3, cf⟩ := four HK.out
    have hcv := run_own_string HR.out rfl
    have hbl : w.heap.size < wr.heap.size := lt_of_block HK.out
    have HV : Hid (textV S = .tuple #[tokV 3 acc 0 0, .int .i64 ((k + 1 : Nat) : Int), .int .i64 0]) := by
     show _ = _
     unfold textV
     rw [HT.out, HD.out, txt_q _ h34]
     simp
     omega
    go_wp2
    obtain ⟨d0, d1, d2, d3, _⟩ := four (four_set HK.out (.int .i64 3) (.string { data := acc.toArray }) (.int .i64 0) (.int .i64 0))
    refine bodyPost_ret (v := .tuple #[tokV 3 acc 0 0, .int .i64 ((k : Int) + 1), .int .i64 0]) (by simp [results, Tryz.results110, go_sem, tokV, d0, d1, d2, d3]) rfl ⟨?_, ?_⟩
    ·rw [HSS.out, HV.out]; rfl
    ·exact (((HB.out.setCell (p := ⟨w.heap.size, 0, none⟩) (Nat.le_refl _) _).setCell (p := ⟨w.heap.size, 1, none⟩) (Nat.le_refl _) _).setCell (p := ⟨w.heap.size, 2, none⟩) (Nat.le_refl _) _).setCell (p := ⟨w.heap.size, 3, none⟩) (Nat.le_refl _) _
   ·have e0 : (((s[k]'hlt).toNat : Int) == 34) = false := by rw [beq_eq_false_iff_ne]; omega
    have HPC : Hid (∀ w, Calls Tryz.prog 134 #[.string (s.extract k s.size)] w fun e w' => e = .returned (.tuple #[.int .u8 ((pieceOf (S.drop k)).1.toNat : Int), .int .i64 ((pieceOf (S.drop k)).2 : Int)]) ∧ w' = w) := fun w => by
     have := piece_any (s.extract k s.size) (by rw [ext_size]; omega) w
     rw [ext_from, HSS.out] at this
     exact this
    have hple := piece_le (S.drop k)
    rw [List.length_drop, hSl] at hple
    cases hp2 : (pieceOf (S.drop k)).2 with
    | zero =>
     have HV : Hid (textV S = .tuple #[tokV 0 [] 0 0, .int .i64 0, .int .i64 1]) := by
      show _ = _
      unfold textV
      rw [HT.out, HD.out, txt_bad h34 (by rw [← HD.out]; exact hp2)]
      rfl
     obtain ⟨c0, c1, c2, c3, cf⟩ := four HK.out
     have hbl : w.heap.size < wr.heap.size := lt_of_block HK.out
     rw [hp2] at HPC
     go_wp2_with fail
     refine (HPC.out _).mono ?_
     rintro e wr ⟨rfl, rfl⟩
     go_wp2
     obtain ⟨d0, d1, d2, d3, _⟩ := four (four_set HK.out (.int .i64 0) (.string { data := #[] }) (.int .i64 0) (.int .i64 0))
     refine bodyPost_ret (v := .tuple #[tokV 0 [] 0 0, .int .i64 0, .int .i64 1]) (by simp [results, Tryz.results110, go_sem, tokV, d0, d1, d2, d3]) rfl ⟨?_, ?_⟩
     ·rw [HSS.out, HV.out]
     ·exact (((HB.out.setCell (p := ⟨w.heap.size, 0, none⟩) (Nat.le_refl _) _).setCell (p := ⟨w.heap.size, 1, none⟩) (Nat.le_refl _) _).setCell (p := ⟨w.heap.size, 2, none⟩) (Nat.le_refl _) _).setCell (p := ⟨w.heap.size, 3, none⟩) (Nat.le_refl _) _
    | succ q =>
     have HT2 : Hid (txt (S.drop 1) = (txt (S.drop (k + (q + 1)))).map fun p => ((acc ++ [(pieceOf (S.drop k)).1]) ++ p.1, p.2 + (k + (q + 1) - 1))) := by
      show _ = _
      have h1 := txt_good (t := S.drop (k + 1)) h34 (by rw [← HD.out, hp2]; simp)
      rw [← HD.out, hp2, List.drop_drop] at h1
      rw [HT.out, h1, Option.map_map]
      congr 1
      funext p
      simp
      omega
     rw [hp2] at HPC hple
     obtain ⟨B, hB⟩ : ∃ B, B = (pieceOf (S.drop k)).1 := ⟨_, rfl⟩
     rw [← hB] at HPC HT2
     clear hB
     obtain ⟨ti, hti, hz0, hz1, hz2⟩ := info_parts info5
     have hbs := HB.out.size
     have eq0 : ((q : Int) + 1 == 0) = false := by rw [beq_eq_false_iff_ne]; omega
     have eq1 : ¬ ((q : Int) + 1 = 0) := by omega
     go_wp2_with fail
     refine (HPC.out _).mono ?_
     rintro e wr ⟨rfl, rfl⟩
     go_wp2_with (at_builtin; refine wpList_append_own _ rfl (.tmp 29) (.tmp 31) 47 rfl w.heap.size 5 ti _ 1 1 Tryz.underlying47 hti hz0 hz1 hz2 rfl (by decide) _ acc.length _ rfl (HR.out.alloc _) ⟨wr.heap.size, 0, none⟩ 1 1 [.int .u8 (B.toNat : Int)] rfl rfl one_news (by intro u hu; simp at hu; subst hu; rfl) (by unfold maxLen; omega) (by omega) (by simp; omega) ?_)
     intro v7 w7 hown7 hgr7 _
     have HR7 : Hid (w7.ownsRow w.heap.size 5 1 v7 (acc ++ [B]).length (byteRow (acc ++ [B]))) := by
      show World.ownsRow _ _ _ _ _ _ _
      rw [byteRow_one] at hown7
      simpa using hown7
     have HB7 : Hid (Below w.heap.size w w7) := (HB.out.alloc hbs _).grown hgr7 (by simp; omega) (fun j e => (HR.out.lt j e).1)
     have HK7 : Hid (w7.heap[w.heap.size]? = some (.cells #[.int .i64 0, .string { data := #[] }, .int .i64 0, .int .i64 0] 118 (0, 0))) := block_grown hgr7 (block_alloc HK.out _) (own_ne HR.out HK.out (by decide))
     clear hown7 hgr7 HR HB HK HT
     go_wp2_with fail
     go_roundw
     case rel => exact ⟨k + (q + 1), acc ++ [B], by omega, by omega, by go_num, by simp; omega, HT2, HR7, HB7, HK7⟩
     case measure => simp [intOf]; omega
  ·obtain rfl : k = s.size := by omega
   obtain ⟨c0, c1, c2, c3, cf⟩ := four HK.out
   have hbl : w.heap.size < wr.heap.size := lt_of_block HK.out
   have HV : Hid (textV S = .tuple #[tokV 0 [] 0 0, .int .i64 0, .int .i64 1]) := by
    show _ = _
    unfold textV
    rw [HT.out, List.drop_eq_nil_of_le (by omega : S.length ≤ s.size)]
    rfl
   go_wp2
   obtain ⟨d0, d1, d2, d3, _⟩ := four (four_set HK.out (.int .i64 0) (.string { data := #[] }) (.int .i64 0) (.int .i64 0))
   refine bodyPost_ret (v := .tuple #[tokV 0 [] 0 0, .int .i64 0, .int .i64 1]) (by simp [results, Tryz.results110, go_sem, tokV, d0, d1, d2, d3]) rfl ⟨?_, ?_⟩
   ·rw [HSS.out, HV.out]
   ·exact (((HB.out.setCell (p := ⟨w.heap.size, 0, none⟩) (Nat.le_refl _) _).setCell (p := ⟨w.heap.size, 1, none⟩) (Nat.le_refl _) _).setCell (p := ⟨w.heap.size, 2, none⟩) (Nat.le_refl _) _).setCell (p := ⟨w.heap.size, 3, none⟩) (Nat.le_refl _) _
end Go.Proofs.YtenfphbhofibjaaGreatDoor
