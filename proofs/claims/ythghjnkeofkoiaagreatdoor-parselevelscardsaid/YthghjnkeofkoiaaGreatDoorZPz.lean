/-
  Parse by the grammar on bytes: texts that are modules, texts that aren't; what a name's text is.
  Conditions: as each theorem says.
-/
import Derived.Test.YthghjnkeofkoiaaGreatDoorZAw7
import Derived.Test.YthghjnkeofkoiaaGreatDoorZSm
namespace Go.Proofs.YthghjnkeofkoiaaGreatDoor
open Go.RowKit LM TM PM
set_option linter.unusedVariables false
theorem apL (a b : ByteArray) : (a ++ b).data.toList = a.data.toList ++ b.data.toList := by
  rw [show (a ++ b).data = a.data ++ b.data from ByteArray.data_append]
  simp
theorem bsz (a : ByteArray) : a.size = a.data.toList.length := by cases a; simp [ByteArray.size]
def PG (s : List UInt8) : PR (List TS) :=
  match lexR 0 s with
  | .toks ts => moduleG ts
  | .bad a r => .bad a (if r then 6 else 1)
theorem pg_ok {s : ByteArray} {x : List UInt8} {l : List TS} {r : List Tok} (hx : s.data.toList = x) (h : PG x = .ok l r) (hs : x.length ≤ 8192) (w : World) (hL : Lv w) : Calls Tryz.prog 23 #[.string s] w fun en w' => ∃ v, en = .returned (.tuple #[v, .int .i64 0, .int .i64 0]) ∧ Lie (RS v l) w.heap.size w'.heap.size w' ∧ Below w.heap.size w w' := by
  subst hx
  unfold PG at h
  cases h1 : lexR 0 s.data.toList with
  | toks ts =>
    rw [h1] at h
    exact parse_is h1 h (by rw [bsz]; exact hs) w hL
  | bad a r =>
    rw [h1] at h
    cases h
theorem pg_bad {s : ByteArray} {x : List UInt8} {a e : Nat} (hx : s.data.toList = x) (h : PG x = .bad a e) (hs : x.length ≤ 8192) (w : World) (hL : Lv w) : Calls Tryz.prog 23 #[.string s] w fun en w' => en = .returned (.tuple #[.slice none 0 0, .int .i64 (a : Int), .int .i64 (e : Int)]) ∧ Below w.heap.size w w' := by
  subst hx
  unfold PG at h
  refine (parsed_ok s (by rw [bsz]; exact hs) w hL).mono ?_
  rintro en w' ⟨hb, h2⟩
  cases h1 : lexR 0 s.data.toList with
  | toks ts =>
    rw [h1] at h h2
    simp only at h
    simp only [h] at h2
    exact ⟨h2, hb⟩
  | bad b r =>
    rw [h1] at h h2
    simp only at h h2
    cases r with
    | true => cases h; exact ⟨h2, hb⟩
    | false => cases h; exact ⟨h2, hb⟩
theorem lie_up {v : Value} {l : List TS} {s e : Nat} {w w' : World} (h : Lie (RS v l) s e w) (hb : Below w.heap.size w w') : SlAt (· < w'.heap.size) v l.length (fun g o => SsAt (· < w'.heap.size) w' g o l) :=
  stab_RS v l _ _ _ _ (fun k hk => ⟨Nat.lt_of_lt_of_le (Nat.lt_of_lt_of_le hk.2 h.lt) hb.size, hb.block k (Nat.lt_of_lt_of_le hk.2 h.lt)⟩) h.at'
end Go.Proofs.YthghjnkeofkoiaaGreatDoor

namespace Go.Proofs.YthghjnkeofkoiaaGreatDoor
open Go.RowKit LM TM PM
set_option linter.unusedVariables false
def sug1 (x : List UInt8) : List UInt8 := [97, 46] ++ x ++ [32, 61, 32, 123] ++ x ++ [58, 32, 49, 32, 43, 32, 50, 32, 42, 32, 51, 125, 59]
def sug2 (x : List UInt8) : List UInt8 := [97, 91, 34] ++ x ++ [34, 93, 32, 61, 32, 40, 123, 91, 34] ++ x ++ [34, 93, 58, 32, 40, 49, 32, 43, 32, 40, 50, 32, 42, 32, 51, 41, 41, 125, 41, 59]
def bothSame (a b : PR (List TS)) : Bool := match a, b with
  | .ok l _, .ok m _ => sameSs l m
  | _, _ => false
theorem bothSame_ok {a b : PR (List TS)} (h : bothSame a b = true) : ∃ l r m q, a = .ok l r ∧ b = .ok m q ∧ sameSs l m = true := by
  cases a with
  | ok l r =>
    cases b with
    | ok m q => exact ⟨l, r, m, q, rfl, rfl, h⟩
    | bad _ _ => cases h
  | bad _ _ => cases h
set_option maxRecDepth 100000 in
theorem sug_all : ((List.range 8).all fun i => decide ((nm i).data.toList.length ≤ 3) && bothSame (PG (sug1 (nm i).data.toList)) (PG (sug2 (nm i).data.toList))) = true := by kernel_rfl
theorem nm_mod (n : Nat) : nm n = nm (n % 8) := by unfold nm; rw [Nat.mod_mod]
theorem sug_any (n : Nat) : (nm n).data.toList.length ≤ 3 ∧ ∃ l r m q, PG (sug1 (nm n).data.toList) = .ok l r ∧ PG (sug2 (nm n).data.toList) = .ok m q ∧ sameSs l m = true := by
  have h := List.all_eq_true.1 sug_all (n % 8) (by simp [Nat.mod_lt])
  rw [← nm_mod, Bool.and_eq_true] at h
  exact ⟨of_decide_eq_true h.1, bothSame_ok h.2⟩
set_option maxRecDepth 100000 in
set_option maxHeartbeats 1000000 in
theorem sugar_any (n : Nat) (hn : n ≤ 255) (w : World) (hL : Lw w) : Calls Tryz.prog 6 #[.int .u8 (n : Int)] w fun e w' => e = .returned (.bool true) ∧ Below w.heap.size w w' := by
  have HL : Hid (Lw w) := hL
  clear hL
  go_enter Tryz.func6, Tryz.ntmps6
  go_wp2_with fail
  refine (awake7 _ HL.out).mono ?_
  rintro e w1 ⟨rfl, b1⟩
  have HB1 : Hid (Below w.heap.size w w1) := b1
  have HL1 : Hid (Lw w1) := HL.out.below b1
  clear b1 HL
  go_wp2_with fail
  refine (name_any n hn _).mono ?_
  rintro e w2 ⟨rfl, b2⟩
  have HB2 : Hid (Below w.heap.size w w2) := HB1.out.trans (b2.mono HB1.out.size)
  have HL2 : Hid (Lw w2) := HL1.out.below b2
  clear b2 HL1 HB1
  obtain ⟨hnl, l, r, m, q, h1, h2, h3⟩ := sug_any n
  have H1 := Lib.hid h1
  have H2 := Lib.hid h2
  have H3 := Lib.hid h3
  have HNL := Lib.hid hnl
  obtain ⟨x, hx⟩ : ∃ x, nm n = x := ⟨_, rfl⟩
  rw [hx] at H1 H2 HNL ⊢
  have hxs : x.size ≤ 3 := by rw [bsz]; exact HNL.out
  clear h1 h2 h3 hnl hx
  go_wp2_with fail
  refine (pg_ok (x := sug1 x.data.toList) (by rw [apL, apL, apL, apL]; rfl) H1.out (by have := HNL.out; simp only [sug1, List.length_append, List.length_cons, List.length_nil]; omega) _ HL2.out.v).mono ?_
  rintro e w3 ⟨v3, rfl, hl3, b3⟩
  have HB3 : Hid (Below w.heap.size w w3) := HB2.out.trans (b3.mono HB2.out.size)
  have HL3 : Hid (Lw w3) := HL2.out.below b3
  have HV3 := Lib.hid hl3
  obtain ⟨a3, c3, rfl, _⟩ := hl3.at'
  clear b3 HL2 HB2 hl3
  go_wp2_with fail
  refine (pg_ok (x := sug2 x.data.toList) (by rw [apL, apL, apL, apL]; rfl) H2.out (by have := HNL.out; simp only [sug2, List.length_append, List.length_cons, List.length_nil]; omega) _ HL3.out.v).mono ?_
  rintro e w4 ⟨v4, rfl, hl4, b4⟩
  have HB4 : Hid (Below w.heap.size w w4) := HB3.out.trans (b4.mono HB3.out.size)
  have HV4 := Lib.hid hl4
  have HV5 := Lib.hid (lie_up HV3.out b4)
  obtain ⟨a4, c4, rfl, _⟩ := hl4.at'
  clear b4 HL3 HB3 hl4 HV3
  go_wp2_with fail
  have hc := same_any HV5.out (lie_up HV4.out (Below.refl _ _))
  rw [H3.out] at hc
  refine hc.mono ?_
  rintro e w5 ⟨rfl, b5⟩
  have HB5 : Hid (Below w.heap.size w w5) := HB4.out.trans (b5.mono HB4.out.size)
  clear b5 hc
  go_wp2
  go_ret
  exact ⟨rfl, HB5.out⟩
end Go.Proofs.YthghjnkeofkoiaaGreatDoor
