/-
 The law ScopeWords.
 Conditions: as each theorem says (the library's variables and the project's tables as they are laid).
-/
import Derived.Test.YtenfphbhofibjaaGreatDoorZAw8
import Derived.Test.YtenfphbhofibjaaGreatDoorZSm
namespace Go.Proofs.YtenfphbhofibjaaGreatDoor
open Go.RowKit TM
set_option linter.unusedVariables false
set_option linter.unusedSimpArgs false
def wordB : List ByteArray := wordT.map fun x => ⟨x.toArray⟩
theorem idx_word (s : ByteArray) : idxZ wordB s = wordZ s := by
 unfold idxZ wordZ wordAt wordB
 rw [List.findIdx_map, List.length_map]
 rfl
set_option maxRecDepth 100000 in
theorem word_self : ∀ k, k < 6 → wordZ (wordB.getD k ⟨#[]⟩) = k := by decide
theorem words_run (w : World) : Calls Tryz.prog 33 #[] w fun e w' => e = .returned (.int .i64 6) ∧ w' = w := by
 go_enter Tryz.func33, Tryz.ntmps33
 go_wp2
 go_ret
 exact ⟨rfl, rfl⟩
theorem strAt_blk {w' : World} {g : Nat} {cs : Array Value} {t : TypeId} (hb : w'.heap[g]? = some (.cells cs t (0, 0))) : ∀ (l : List ByteArray) (o : Nat), (∀ (k : Nat) (x : ByteArray), l[k]? = some x → cs[o + k]? = some (.string x)) → StrAt w' g o l
 | [], _, _ => trivial
 | x :: l, o, h => ⟨by simp only [World.cell?, hb]; exact h 0 x rfl, strAt_blk hb l (o + 1) fun k y hy => by rw [show o + 1 + k = o + (k + 1) from by omega]; exact h (k + 1) y (by simpa using hy)⟩
set_option maxRecDepth 100000 in
set_option maxHeartbeats 4000000 in
theorem scopeWords_any (s : ByteArray) (n : Nat) (hn : n ≤ 255) (w : World) (hL : Ly w) : Calls Tryz.prog 8 #[.string s, .int .u8 (n : Int)] w fun e w' => e = .returned (.bool true) ∧ Below w.heap.size w w' := by
 have HL : Hid (Ly w) := hL
 clear hL
 go_enter Tryz.func8, Tryz.ntmps8
 go_wp2_with fail
 refine (awake8 _ HL.out).mono ?_
 rintro e w1 ⟨rfl, b1⟩
 have HB1 : Hid (Below w.heap.size w w1) := b1
 have HL1 : Hid (Ly w1) := HL.out.below b1
 clear b1 HL
 obtain ⟨a9, ha9⟩ : ∃ a : Obj, a = .cells #[.string ⟨#[108, 101, 110]⟩, .string ⟨#[102, 114, 101, 101, 122, 101]⟩, .string ⟨#[102, 114, 111, 122, 101, 110]⟩, .string ⟨#[98, 114, 97, 110, 100]⟩, .string ⟨#[107, 105, 110, 100]⟩, .string ⟨#[116, 101, 120, 116]⟩] 9 := ⟨_, rfl⟩
 have hba : (w1.alloc a9).heap[w1.heap.size]? = some a9 := heap_alloc_new _ _
 have HB2 : Hid (Below w.heap.size w (w1.alloc a9)) := HB1.out.alloc HB1.out.size a9
 have HL2 : Hid (Ly (w1.alloc a9)) := HL1.out.below ((Below.refl _ _).alloc (Nat.le_refl _) a9)
 have hS : StrAt (w1.alloc a9) w1.heap.size 0 wordB := strAt_blk (hba.trans (congrArg some ha9)) _ _ fun k x hx => by
  rw [Nat.zero_add]
  match k, hx with
  | 0, hx => simp [wordB, wordT] at hx; subst hx; rfl
  | 1, hx => simp [wordB, wordT] at hx; subst hx; rfl
  | 2, hx => simp [wordB, wordT] at hx; subst hx; rfl
  | 3, hx => simp [wordB, wordT] at hx; subst hx; rfl
  | 4, hx => simp [wordB, wordT] at hx; subst hx; rfl
  | 5, hx => simp [wordB, wordT] at hx; subst hx; rfl
  | k + 6, hx => simp [wordB, wordT] at hx
 have HI : Hid (Calls Tryz.prog 35 #[.slice (some ⟨w1.heap.size, 0, none⟩) 6 6, .string s] (w1.alloc a9) fun e w' => e = .returned (.int .i64 (wordZ s)) ∧ w' = w1.alloc a9) := by
  have := idxStrs_any (l := wordB) (P := fun _ => True) (v := .slice (some ⟨w1.heap.size, 0, none⟩) 6 6) (w := w1.alloc a9) ⟨_, 6, rfl, by decide, by decide, fun _ => ⟨_, 0, rfl, trivial, hS⟩⟩ s
  rw [idx_word] at this
  exact this
 have hk : n % 6 < 6 := Nat.mod_lt _ (by decide)
 have hcell : (w1.alloc a9).cell? ⟨w1.heap.size, n % 6, none⟩ = some (.string (wordB.getD (n % 6) ⟨#[]⟩)) := by
  have := hS.get (j := n % 6) (e := wordB.getD (n % 6) ⟨#[]⟩) (by rw [List.getD_eq_getElem?_getD, List.getElem?_eq_getElem (by exact hk)]; rfl)
  simpa using this
 have HSF : Hid (wordZ (wordB.getD (n % 6) ⟨#[]⟩) = (n % 6 : Nat)) := word_self _ hk
 have hmod : (n : Int).tmod 6 = ((n % 6 : Nat) : Int) := rfl
 have hidx : 0 ≤ ((n % 6 : Nat) : Int) ∧ ((n % 6 : Nat) : Int) < 6 := ⟨by omega, by omega⟩
 clear hS hba
 subst ha9
 generalize wordB.getD (n % 6) ⟨#[]⟩ = y at hcell HSF
 generalize n % 6 = m at hcell HSF hmod hidx hk
 go_wp2_with fail
 refine (words_run _).mono ?_
 rintro e w2 ⟨rfl, rfl⟩
 go_wp2_with fail
 refine (word_any s _ HL2.out).mono ?_
 rintro e w2 ⟨rfl, rfl⟩
 generalize wordZ s = zs at HI
 go_wp2_with fail
 refine HI.out.mono ?_
 rintro e w2 ⟨rfl, rfl⟩
 go_wp2_with fail
 refine (word_any y _ HL2.out).mono ?_
 rintro e w2 ⟨rfl, rfl⟩
 have hsf := HSF.out
 generalize wordZ y = zy at hsf
 subst hsf
 go_wp2
 go_ret
 exact ⟨rfl, HB2.out⟩
end Go.Proofs.YtenfphbhofibjaaGreatDoor
