/-
  Parse by the grammar on bytes: texts that are modules, texts that aren't; what a name's text is.
  Conditions: as each theorem says.
-/
import Derived.Test.YthghjnkeofkoiaaGreatDoorAw7
import Derived.Test.YthghjnkeofkoiaaGreatDoorSm2
namespace Go.Proofs.YthghjnkeofkoiaaGreatDoor
open Go.RowKit LM TM PM
set_option linter.unusedVariables false
theorem apL (a b : ByteArray) : (a ++ b).data.toList = a.data.toList ++ b.data.toList := by
  rw [show (a ++ b).data = a.data ++ b.data from ByteArray.data_append]
  simp
theorem bsz (a : ByteArray) : a.size = a.data.toList.length := by cases a; simp [ByteArray.size]
/-- A text's statements, or where it goes wrong, and why. -/
def PG (s : List UInt8) : PR (List TS) :=
  match lexR 0 s with
  | .toks ts => moduleG ts
  | .bad a r => .bad a (if r then 6 else 1)
theorem pg_ok {s : ByteArray} {x : List UInt8} {l : List TS} {r : List Tok} (hx : s.data.toList = x) (h : PG x = .ok l r) (hs : x.length ≤ 8192) (w : World) (hL : Lv w) : Calls Tryz.prog 23 #[.string s] w fun en w' => ∃ v, en = .returned (.tuple #[v, .int .i64 0, .int .i64 0]) ∧ Lie (RS v l) w.heap.size w'.heap.size w' ∧ Below w.heap.size w w' := by
  subst hx
  unfold PG at h
  cases h1 : lexR 0 s.data.toList with
  | toks ts =>
    rw [h1] at h
    exact parse_is h1 h (by rw [bsz]; exact hs) w hL
  | bad a r =>
    rw [h1] at h
    cases h
theorem pg_bad {s : ByteArray} {x : List UInt8} {a e : Nat} (hx : s.data.toList = x) (h : PG x = .bad a e) (hs : x.length ≤ 8192) (w : World) (hL : Lv w) : Calls Tryz.prog 23 #[.string s] w fun en w' => en = .returned (.tuple #[.slice none 0 0, .int .i64 (a : Int), .int .i64 (e : Int)]) ∧ Below w.heap.size w w' := by
  subst hx
  unfold PG at h
  refine (parsed_ok s (by rw [bsz]; exact hs) w hL).mono ?_
  rintro en w' ⟨hb, h2⟩
  cases h1 : lexR 0 s.data.toList with
  | toks ts =>
    rw [h1] at h h2
    simp only at h
    simp only [h] at h2
    exact ⟨h2, hb⟩
  | bad b r =>
    rw [h1] at h h2
    simp only at h h2
    cases r with
    | true => cases h; exact ⟨h2, hb⟩
    | false => cases h; exact ⟨h2, hb⟩
/-- What was answered lies there still. -/
theorem lie_up {v : Value} {l : List TS} {s e : Nat} {w w' : World} (h : Lie (RS v l) s e w) (hb : Below w.heap.size w w') : SlAt (· < w'.heap.size) v l.length (fun g o => SsAt (· < w'.heap.size) w' g o l) :=
  stab_RS v l _ _ _ _ (fun k hk => ⟨Nat.lt_of_lt_of_le (Nat.lt_of_lt_of_le hk.2 h.lt) hb.size, hb.block k (Nat.lt_of_lt_of_le hk.2 h.lt)⟩) h.at'
end Go.Proofs.YthghjnkeofkoiaaGreatDoor
