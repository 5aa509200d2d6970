/-
  What an arena's state is, held against the list of the objects that live: each has its slot, slots are no two objects', unused ones are free; what Put, Drop and a changed object make of it; and that no Ref is given twice.
  Conditions: as each theorem says. (No program is named here.)
-/
import Derived.Test.YtbbmcggalffecaaArena
namespace Go.Proofs.Ytbbmcggalffecaa
open Go.RowKit
set_option linter.unusedVariables false
/-- An object that lives: its slot and uses, its owner, its marks. -/
structure Lv where
  n : Nat
  u : Nat
  ow : Int
  mo : Int
  fu : Int
structure Live (s : St) (L : List Lv) : Prop where
  at_ : ∀ p ∈ L, ∃ (b : Nat) (k : Int), s.slots[p.n]? = some ⟨p.u, some (b, ⟨k, p.ow, p.mo, p.fu⟩)⟩
  nodup : (L.map Lv.n).Nodup
  all : ∀ (n : Nat) (sl : Sl) (x : Nat × Ob), s.slots[n]? = some sl → sl.obj = some x → ∃ p ∈ L, p.n = n
  free : ∀ n ∈ s.unused, ∃ u, s.slots[n]? = some ⟨u, none⟩
  fnodup : s.unused.Nodup
  inj : ∀ (i j : Nat) (si sj : Sl) (b : Nat) (o o' : Ob), s.slots[i]? = some si → si.obj = some (b, o) → s.slots[j]? = some sj → sj.obj = some (b, o') → i = j
  used : ∀ (n : Nat) (sl : Sl), s.slots[n]? = some sl → 1 ≤ sl.uses
/-- A Ref that was given: its slot was used so often. -/
def Past (s : St) (g : Nat × Nat) : Prop := ∃ sl, s.slots[g.1]? = some sl ∧ g.2 ≤ sl.uses
theorem lt_of_get {α : Type} {l : List α} {i : Nat} {x : α} (h : l[i]? = some x) : i < l.length := by obtain ⟨hh, _⟩ := List.getElem?_eq_some_iff.1 h; exact hh
theorem Live.start (ac : List (Int × Int)) : Live ⟨ac, [], []⟩ [] :=
  ⟨fun p hp => by simp at hp, by simp, fun n sl x h => by simp at h, fun n hn => by simp at hn, by simp, fun i j si sj b o o' h => by simp at h, fun n sl h => by simp at h⟩
theorem Live.accs {s : St} {L : List Lv} (h : Live s L) (ac : List (Int × Int)) : Live ⟨ac, s.slots, s.unused⟩ L :=
  ⟨h.at_, h.nodup, h.all, h.free, h.fnodup, h.inj, h.used⟩
theorem Live.frees {s : St} {L : List Lv} (h : Live s L) : ∃ n u l un, Frees s n u l un ∧ l.length ≤ s.slots.length + 1 ∧ (∀ i x, i ≠ n → l[i]? = some x → s.slots[i]? = some x) ∧ (∀ i x, s.slots[i]? = some x → i ≠ n → l[i]? = some x) ∧ (u = 0 ∧ n = s.slots.length ∨ s.slots[n]? = some ⟨u, none⟩) ∧ un.Nodup ∧ n ∉ un ∧ (∀ m ∈ un, m ∈ s.unused) := by
  rcases List.eq_nil_or_concat s.unused with h0 | ⟨un, n, h0⟩
  · refine ⟨s.slots.length, 0, _, [], .inl ⟨h0, rfl, rfl, rfl, rfl⟩, by simp, fun i x hi hx => ?_, fun i x hx hi => ?_, .inl ⟨rfl, rfl⟩, by simp, by simp, by simp⟩
    · rw [List.getElem?_append] at hx
      split at hx
      · exact hx
      · have := lt_of_get hx; simp at this; omega
    · rw [List.getElem?_append_left (lt_of_get hx)]; exact hx
  · rw [List.concat_eq_append] at h0
    obtain ⟨u, hu⟩ := h.free n (by rw [h0]; simp)
    have nd := h.fnodup
    rw [h0, List.nodup_append] at nd
    exact ⟨n, u, s.slots, un, .inr ⟨h0, hu, rfl⟩, by omega, fun i x _ hx => hx, fun i x hx _ => hx, .inr hu, nd.1, fun hm => nd.2.2 n hm n (by simp) rfl, fun m hm => by rw [h0]; simp [hm]⟩
/-- What lives behind a Put. -/
theorem Live.put {s : St} {L : List Lv} {n u : Nat} {l : List Sl} {un : List Nat} (h : Live s L) (hf : Frees s n u l un) (ac : List (Int × Int)) (B : Nat) (k ow mo fu : Int)
    (hB : ∀ (i : Nat) (sl : Sl) (b : Nat) (o : Ob), s.slots[i]? = some sl → sl.obj = some (b, o) → b ≠ B) :
    Live ⟨ac, l.set n ⟨u + 1, some (B, ⟨k, ow, mo, fu⟩)⟩, un⟩ (L ++ [⟨n, u + 1, ow, mo, fu⟩]) ∧ (∀ g, Past s g → g ≠ (n, u + 1) ∧ Past ⟨ac, l.set n ⟨u + 1, some (B, ⟨k, ow, mo, fu⟩)⟩, un⟩ g) ∧ Past ⟨ac, l.set n ⟨u + 1, some (B, ⟨k, ow, mo, fu⟩)⟩, un⟩ (n, u + 1) := by
  have hn : n < l.length := lt_of_get hf.at_
  have hln : (l.set n ⟨u + 1, some (B, ⟨k, ow, mo, fu⟩)⟩)[n]? = some ⟨u + 1, some (B, ⟨k, ow, mo, fu⟩)⟩ := by simp [hn]
  -- l and the slots
  have down : ∀ (i : Nat) (x : Sl), i ≠ n → l[i]? = some x → s.slots[i]? = some x := by
    rcases hf with ⟨_, rfl, _, rfl, _⟩ | ⟨_, _, rfl⟩
    · intro i x hi hx
      rw [List.getElem?_append] at hx
      split at hx
      · exact hx
      · have := lt_of_get hx; simp at this; omega
    · exact fun i x _ hx => hx
  have up : ∀ (i : Nat) (x : Sl), s.slots[i]? = some x → l[i]? = some x := by
    rcases hf with ⟨_, rfl, _, rfl, _⟩ | ⟨_, _, rfl⟩
    · intro i x hx; rw [List.getElem?_append_left (lt_of_get hx)]; exact hx
    · exact fun i x hx => hx
  have nobj : ∀ (sl : Sl) (x : Nat × Ob), s.slots[n]? = some sl → sl.obj = some x → False := by
    intro sl x hs ho
    have := up n sl hs
    rw [hf.at_] at this
    simp at this; subst this; simp at ho
  have ne : ∀ (i : Nat) (sl : Sl) (x : Nat × Ob), s.slots[i]? = some sl → sl.obj = some x → i ≠ n := fun i sl x hs ho e => nobj sl x (e ▸ hs) ho
  have set : ∀ (i : Nat) (x : Sl), i ≠ n → s.slots[i]? = some x → (l.set n ⟨u + 1, some (B, ⟨k, ow, mo, fu⟩)⟩)[i]? = some x := fun i x hi hx => by
    rw [List.getElem?_set_ne (Ne.symm hi)]; exact up i x hx
  have get : ∀ (i : Nat) (x : Sl), i ≠ n → (l.set n ⟨u + 1, some (B, ⟨k, ow, mo, fu⟩)⟩)[i]? = some x → s.slots[i]? = some x := fun i x hi hx => by
    rw [List.getElem?_set_ne (Ne.symm hi)] at hx; exact down i x hi hx
  have hun : un.Nodup ∧ n ∉ un ∧ ∀ m ∈ un, m ∈ s.unused := by
    rcases hf with ⟨_, _, _, _, rfl⟩ | ⟨h0, _, _⟩
    · simp
    · have nd := h.fnodup
      rw [h0, List.nodup_append] at nd
      exact ⟨nd.1, fun hm => nd.2.2 n hm n (by simp) rfl, fun m hm => by rw [h0]; simp [hm]⟩
  refine ⟨⟨fun p hp => ?_, ?_, fun i sl x hs ho => ?_, fun m hm => ?_, hun.1, fun i j si sj b o o' h1 h2 h3 h4 => ?_, fun i sl hs => ?_⟩, fun g hg => ⟨?_, ?_⟩, ⟨_, hln, Nat.le_refl _⟩⟩
  · rcases List.mem_append.1 hp with hp | hp
    · obtain ⟨b, k', hb⟩ := h.at_ p hp
      exact ⟨b, k', set p.n _ (ne _ _ _ hb rfl) hb⟩
    · simp at hp; subst hp
      exact ⟨B, k, hln⟩
  · rw [List.map_append, List.nodup_append]
    refine ⟨h.nodup, by simp, fun a ha b hb e => ?_⟩
    simp at hb; subst hb; subst e
    obtain ⟨p, hp, rfl⟩ := List.mem_map.1 ha
    obtain ⟨b, k', hb⟩ := h.at_ p hp
    exact ne _ _ _ hb rfl rfl
  · by_cases hi : i = n
    · exact ⟨_, List.mem_append.2 (.inr (List.mem_singleton.2 rfl)), hi.symm⟩
    · obtain ⟨p, hp, e⟩ := h.all i sl x (get i sl hi hs) ho
      exact ⟨p, List.mem_append.2 (.inl hp), e⟩
  · obtain ⟨u', hu'⟩ := h.free m (hun.2.2 m hm)
    exact ⟨u', set m _ (fun e => hun.2.1 (e ▸ hm)) hu'⟩
  · by_cases hi : i = n <;> by_cases hj : j = n
    · rw [hi, hj]
    · subst hi
      rw [hln] at h1; simp at h1; subst h1; simp at h2
      exact absurd h2.1.symm (hB j sj b o' (get j sj hj h3) h4)
    · subst hj
      rw [hln] at h3; simp at h3; subst h3; simp at h4
      exact absurd h4.1.symm (hB i si b o (get i si hi h1) h2)
    · exact h.inj i j si sj b o o' (get i si hi h1) h2 (get j sj hj h3) h4
  · by_cases hi : i = n
    · subst hi; rw [hln] at hs; simp at hs; subst hs; simp
    · exact h.used i sl (get i sl hi hs)
  · rintro rfl
    obtain ⟨sl, h1, h2⟩ := hg
    have := up _ sl h1
    simp only at this h2
    rw [hf.at_] at this
    simp at this; subst this; simp at h2; omega
  · obtain ⟨sl, h1, h2⟩ := hg
    by_cases hi : g.1 = n
    · have := up _ sl h1
      rw [hi, hf.at_] at this
      simp at this; subst this
      exact ⟨_, by rw [hi]; exact hln, by simp at h2 ⊢; omega⟩
    · exact ⟨sl, set _ _ hi h1, h2⟩
/-- What lives behind a Drop. -/
theorem Live.drop {s : St} {L : List Lv} (h : Live s L) (i : Nat) (p : Lv) (hp : L[i]? = some p) (ac : List (Int × Int)) :
    Live ⟨ac, s.slots.set p.n ⟨p.u, none⟩, s.unused ++ [p.n]⟩ (L.eraseIdx i) ∧ (∀ g, Past s g → Past ⟨ac, s.slots.set p.n ⟨p.u, none⟩, s.unused ++ [p.n]⟩ g) := by
  obtain ⟨b, k, hb⟩ := h.at_ p (List.mem_of_getElem? hp)
  have hn := lt_of_get hb
  have hln : (s.slots.set p.n ⟨p.u, none⟩)[p.n]? = some ⟨p.u, none⟩ := by simp [hn]
  have hmem : ∀ q ∈ L.eraseIdx i, q ∈ L ∧ q.n ≠ p.n := by
    intro q hq
    obtain ⟨j, hj, hne⟩ := List.mem_eraseIdx_iff_getElem?.1 hq
    refine ⟨List.mem_of_getElem? hne, fun e => hj ?_⟩
    have nd := h.nodup
    have h1 : (L.map Lv.n)[j]? = some q.n := by simp [hne]
    have h2 : (L.map Lv.n)[i]? = some p.n := by simp [hp]
    rw [e] at h1
    exact (List.getElem?_inj (by simpa using lt_of_get hne) nd).1 (h1.trans h2.symm)
  have set : ∀ (j : Nat) (x : Sl), j ≠ p.n → ((s.slots.set p.n ⟨p.u, none⟩)[j]? = some x ↔ s.slots[j]? = some x) := fun j x hj => by
    rw [List.getElem?_set_ne (Ne.symm hj)]
  refine ⟨⟨fun q hq => ?_, ?_, fun j sl x hs ho => ?_, fun m hm => ?_, ?_, fun j1 j2 si sj b1 o o' h1 h2 h3 h4 => ?_, fun j sl hs => ?_⟩, fun g hg => ?_⟩
  · obtain ⟨b', k', hb'⟩ := h.at_ q (hmem q hq).1
    exact ⟨b', k', (set _ _ (hmem q hq).2).2 hb'⟩
  · exact h.nodup.sublist ((List.eraseIdx_sublist L i).map Lv.n)
  · by_cases hj : j = p.n
    · subst hj; rw [hln] at hs; simp at hs; subst hs; simp at ho
    · obtain ⟨q, hq, e⟩ := h.all j sl x ((set j sl hj).1 hs) ho
      refine ⟨q, ?_, e⟩
      obtain ⟨m, hm⟩ := List.mem_iff_getElem?.1 hq
      refine List.mem_eraseIdx_iff_getElem?.2 ⟨m, fun e2 => hj ?_, hm⟩
      subst e2; rw [hp] at hm; simp at hm; rw [← e, ← hm]
  · rcases List.mem_append.1 hm with hm | hm
    · obtain ⟨u, hu⟩ := h.free m hm
      refine ⟨u, (set m _ (fun e => ?_)).2 hu⟩
      subst e; rw [hb] at hu; simp at hu
    · simp at hm; subst hm; exact ⟨p.u, hln⟩
  · rw [List.nodup_append]
    refine ⟨h.fnodup, by simp, fun a ha b' hb' e => ?_⟩
    simp at hb'; subst hb'; subst e
    obtain ⟨u, hu⟩ := h.free _ ha
    rw [hb] at hu; simp at hu
  · by_cases hj1 : j1 = p.n
    · subst hj1; rw [hln] at h1; simp at h1; subst h1; simp at h2
    · by_cases hj2 : j2 = p.n
      · subst hj2; rw [hln] at h3; simp at h3; subst h3; simp at h4
      · exact h.inj j1 j2 si sj b1 o o' ((set _ _ hj1).1 h1) h2 ((set _ _ hj2).1 h3) h4
  · by_cases hj : j = p.n
    · subst hj; rw [hln] at hs; simp at hs; subst hs; exact (h.used p.n _ hb : 1 ≤ p.u)
    · exact h.used j sl ((set _ _ hj).1 hs)
  · obtain ⟨sl, h1, h2⟩ := hg
    by_cases hj : g.1 = p.n
    · rw [hj, hb] at h1; simp at h1; subst h1
      exact ⟨⟨p.u, none⟩, by rw [hj]; exact hln, h2⟩
    · exact ⟨sl, (set _ _ hj).2 h1, h2⟩
/-- What lives behind a change of an object's marks. -/
theorem Live.mark {s : St} {L : List Lv} (h : Live s L) (i : Nat) (p : Lv) (hp : L[i]? = some p) (b : Nat) (k mo fu : Int) (hb : s.slots[p.n]? = some ⟨p.u, some (b, ⟨k, p.ow, p.mo, p.fu⟩)⟩) :
    Live ⟨s.accs, s.slots.set p.n ⟨p.u, some (b, ⟨k, p.ow, mo, fu⟩)⟩, s.unused⟩ (L.set i ⟨p.n, p.u, p.ow, mo, fu⟩) ∧ (∀ g, Past s g → Past ⟨s.accs, s.slots.set p.n ⟨p.u, some (b, ⟨k, p.ow, mo, fu⟩)⟩, s.unused⟩ g) := by
  have hn := lt_of_get hb
  have hil := lt_of_get hp
  have hln : (s.slots.set p.n ⟨p.u, some (b, ⟨k, p.ow, mo, fu⟩)⟩)[p.n]? = some ⟨p.u, some (b, ⟨k, p.ow, mo, fu⟩)⟩ := by simp [hn]
  have set : ∀ (j : Nat) (x : Sl), j ≠ p.n → ((s.slots.set p.n ⟨p.u, some (b, ⟨k, p.ow, mo, fu⟩)⟩)[j]? = some x ↔ s.slots[j]? = some x) := fun j x hj => by
    rw [List.getElem?_set_ne (Ne.symm hj)]
  have hmap : (L.set i ⟨p.n, p.u, p.ow, mo, fu⟩).map Lv.n = L.map Lv.n := by
    apply List.ext_getElem?
    intro j
    rw [List.getElem?_map, List.getElem?_map, List.getElem?_set]
    split
    · subst_vars; rw [hp]; simp
    · rfl
  have old : ∀ (j : Nat) (sl : Sl) (x : Nat × Ob), (s.slots.set p.n ⟨p.u, some (b, ⟨k, p.ow, mo, fu⟩)⟩)[j]? = some sl → sl.obj = some x → ∃ (sl' : Sl) (o' : Ob), s.slots[j]? = some sl' ∧ sl'.obj = some (x.1, o') := by
    intro j sl x hs ho
    by_cases hj : j = p.n
    · subst hj; rw [hln] at hs; simp at hs; subst hs; simp at ho; subst ho
      exact ⟨_, _, hb, rfl⟩
    · exact ⟨sl, x.2, (set j sl hj).1 hs, ho⟩
  refine ⟨⟨fun q hq => ?_, by rw [hmap]; exact h.nodup, fun j sl x hs ho => ?_, fun m hm => ?_, h.fnodup, fun j1 j2 si sj b1 o o' h1 h2 h3 h4 => ?_, fun j sl hs => ?_⟩, fun g hg => ?_⟩
  · obtain ⟨j, hj⟩ := List.mem_iff_getElem?.1 hq
    rw [List.getElem?_set] at hj
    split at hj
    · subst_vars
      simp at hj; subst hj
      exact ⟨b, k, hln⟩
    · rename_i hne
      obtain ⟨b', k', hb'⟩ := h.at_ q (List.mem_of_getElem? hj)
      refine ⟨b', k', (set _ _ (fun e => hne ?_)).2 hb'⟩
      have h1 : (L.map Lv.n)[j]? = some q.n := by simp [hj]
      have h2 : (L.map Lv.n)[i]? = some p.n := by simp [hp]
      rw [e] at h1
      exact (List.getElem?_inj (by simpa using hil) h.nodup).1 (h2.trans h1.symm)
  · obtain ⟨sl', o', h1, h2⟩ := old j sl x hs ho
    obtain ⟨q, hq, e⟩ := h.all j sl' _ h1 h2
    have : q.n ∈ (L.set i ⟨p.n, p.u, p.ow, mo, fu⟩).map Lv.n := by rw [hmap]; exact List.mem_map.2 ⟨q, hq, rfl⟩
    obtain ⟨q', hq', e'⟩ := List.mem_map.1 this
    exact ⟨q', hq', e'.trans e⟩
  · obtain ⟨u, hu⟩ := h.free m hm
    refine ⟨u, (set m _ (fun e => ?_)).2 hu⟩
    subst e; rw [hb] at hu; simp at hu
  · obtain ⟨s1, o1, g1, g2⟩ := old j1 si _ h1 h2
    obtain ⟨s2, o2, g3, g4⟩ := old j2 sj _ h3 h4
    exact h.inj j1 j2 s1 s2 b1 o1 o2 g1 g2 g3 g4
  · by_cases hj : j = p.n
    · subst hj; rw [hln] at hs; simp at hs; subst hs; exact (h.used p.n _ hb : 1 ≤ p.u)
    · exact h.used j sl ((set _ _ hj).1 hs)
  · obtain ⟨sl, h1, h2⟩ := hg
    by_cases hj : g.1 = p.n
    · rw [hj, hb] at h1; simp at h1; subst h1
      exact ⟨⟨p.u, some (b, ⟨k, p.ow, mo, fu⟩)⟩, by rw [hj]; exact hln, h2⟩
    · exact ⟨sl, (set _ _ hj).2 h1, h2⟩
end Go.Proofs.Ytbbmcggalffecaa
