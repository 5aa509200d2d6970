/-
 slices.Collect(maps.Keys(m)) of a map from values to values that has one entry or none, by names of blocks and in memory.
 Conditions: as each theorem says.
-/
import Derived.Test.YtpboencfnjmmbaaGreatDoorZExKeys
import Derived.Test.YtpboencfnjmmbaaGreatDoorZXd
set_option linter.unusedVariables false
namespace Go.Proofs.YtpboencfnjmmbaaGreatDoor
open Go.RowKit Go.Ex
def vlOf : Value → Option Vl
 | .agg c => match c.toList with
  | [.int .u8 k, .int .i64 n, .string s] => some ⟨k, n, s⟩
  | _ => none
 | _ => none
theorem vlOf_some {v : Value} {x : Vl} (h : vlOf v = some x) : v = x.val := by
 unfold vlOf at h
 split at h
 ·rename_i c
  split at h
  ·rename_i k n s e
   cases h
   cases c with
   | mk l => simp only at e; subst e; rfl
  ·cases h
 ·cases h
def wfB (x : Vl) : Bool := (Lit.int .u8 x.k).wf && (Lit.int .i64 x.n).wf && decide (x.s.size ≤ maxLen)
theorem wf_of {x : Vl} (h : wfB x = true) : x.wf := by
 unfold wfB at h
 simp only [Bool.and_eq_true, decide_eq_true_eq] at h
 exact ⟨h.1.1, h.1.2, h.2⟩
def aone (r : Nat) : M (Except Chain Value) := mb (mget r) fun o => match o with
 | Obj.map es cl => (match es.toList with
  | [] => mret (.ok (.slice none 0 0))
  | [e] => (match vlOf e.key, vlOf e.val with
   | some x, some _ => if wfB x && decide (e.born < cl) then mb (mnew (.cells x.list.toArray 208 (1, 3))) fun n => mret (.ok (.slice (some ⟨n, 0, none⟩) 1 unk)) else mno
   | _, _ => mno)
  | _ => mno)
 | _ => mno
def akeys (a : Addr) : M (Except Chain Value) := if a.off == 0 && a.spot.isNone then mb (mget a.block) fun o => match o with
 | Obj.cells c _ _ => (match c[0]? with
  | some (Value.map none) => mret (.ok (.slice none 0 0))
  | some (Value.map (some r)) => aone r
  | _ => mno)
 | _ => mno
 else mno
def keysOf (args : Array Value) : Option Addr := match args.toList with
 | [.func (.func g) f cap] => if g == 220 && f.isEmpty then (match cap.toList with
  | [.pointer (some a)] => some a
  | _ => none) else none
 | _ => none
def acollect (args : Array Value) : M (Except Chain Value) := match keysOf args with
 | some a => akeys a
 | none => mno
theorem keysOf_some {args : Array Value} {a : Addr} (h : keysOf args = some a) : args = #[.func (.func 220) #[] #[.pointer (some a)]] := by
 unfold keysOf at h
 split at h <;> (try (cases h; done))
 rename_i g f cap e
 split at h <;> (try (cases h; done))
 rename_i hg
 split at h <;> (try (cases h; done))
 rename_i b e2
 cases h
 simp only [Bool.and_eq_true, beq_iff_eq, Array.isEmpty_iff] at hg
 obtain ⟨rfl, rfl⟩ := hg
 cases args with
 | mk l =>
  simp only at e; subst e
  cases cap with
  | mk l2 => simp only at e2; subst e2; rfl
theorem loc_collect (args : Array Value) : Go.Ex.Loc (acollect args) := by
 have h1 : ∀ r, Go.Ex.Loc (aone r) := fun r => by
  refine (Go.Ex.Loc.get _).bind fun o => ?_
  split
  ·split
   ·exact .ret _
   ·split
    ·exact .ite ((Go.Ex.Loc.new _).bind fun n => .ret _) .no
    ·exact .no
   ·exact .no
  ·exact .no
 have h2 : ∀ a, Go.Ex.Loc (akeys a) := fun a => by
  refine .ite ((Go.Ex.Loc.get _).bind fun o => ?_) .no
  split
  ·split
   ·exact .ret _
   ·exact h1 _
   ·exact .no
  ·exact .no
 unfold acollect
 split
 ·exact h2 _
 ·exact .no
theorem leaf3 {p : Rn} {x : Vl} {v : Value} (h : VR p x.val v) : v = x.val := by
 obtain ⟨c, rfl, h1, h2⟩ := h.inv
 refine congrArg Value.agg (Array.ext h1.symm fun i a b => ?_)
 have := h2 i _ _ (Array.getElem?_eq_getElem b) (Array.getElem?_eq_getElem a)
 refine leaf_eq ?_ this
 have hi : i < 3 := b
 match i, hi with
 | 0, _ => rfl
 | 1, _ => rfl
 | 2, _ => rfl
theorem one_flds {w : World} {b clock born : Nat} {x y : Vl} (hx : x.wf) (hb : w.heap[b]? = some (.map #[⟨x.val, y.val, born⟩] clock)) (hc : born < clock) : FldsD w b [(x, y)] (.map [(keyV x, .held y.val)]) := by
 have hrd : Go.WideElems.rd Tryz.prog 208 asIs ⟨x.val, y.val, born⟩ = some (keyV x, .held y.val) := by
  simp [Go.WideElems.rd, keyOf_val hx, asIs]
 refine ⟨by simp, by simpa using hx, ⟨_, clock, hb, ⟨by simp [maxLen], ⟨by simpa using hc, by simp, by simp⟩, by simpa using ⟨_, _, hrd⟩⟩, by simp, ?_⟩, rfl, ?_, ?_⟩
 ·simp only [List.map_cons, List.map_nil, List.foldr_cons, List.foldr_nil, Go.WideElems.rg, hrd, Option.getD_some]
  rfl
 ·intro p hp zd
  rw [List.mem_singleton.1 hp]
  simp [DataW.atKey, same_keyV hx hx]
 ·intro z hz hn zd
  have hn : x ≠ z := fun e => hn (by simp [e])
  simp [DataW.atKey, same_keyV hz hx, hn]
theorem enters_keys (args : Array Value) (w : World) : (callFunc 220 args).run Tryz.prog w = .ok (.enter 220 args) w := by kernel_rfl
theorem collect_one {w : World} {r : Option Nat} {m : List (Vl × Vl)} {Bm : Nat} (h : (r = none ∧ m = []) ∨ ∃ b, r = some b ∧ Flds w b m) (hl : m.length ≤ 1000000) (hB : Bm < w.heap.size) (hm : w.cell? ⟨Bm, 0, none⟩ = some (.map r)) :
 Calls Tryz.prog 218 #[.func (.func 220) #[] #[.pointer (some ⟨Bm, 0, none⟩)]] w fun e w' => ∃ (v : Value) (ss : List Vl), e = .returned v ∧ ss.Perm (m.map Prod.fst) ∧ w'.ownsRow w.heap.size 208 3 v ss.length (flat ss) ∧ (v = .slice none 0 0 ↔ ss = []) ∧ Below w.heap.size w w' := by
 rcases h with ⟨rfl, rfl⟩ | ⟨b, rfl, h⟩
 ·refine Calls.mono ((callsIn_wide (n := 9)).1 (collect_in 9 (by omega) _ _ enters_keys (fun ss => ss = []) 0 (by omega) w (vkeys_none 7 (by omega) Bm w hB hm))) ?_
  rintro e w' ⟨v, ss, rfl, rfl, h1, h2, h3⟩
  exact ⟨v, [], rfl, List.Perm.refl _, h1, h2, h3⟩
 ·refine Calls.mono ((callsIn_wide (n := 9)).1 (collect_in 9 (by omega) _ _ enters_keys (fun ss => ss.Perm (m.map Prod.fst)) m.length hl w (vkeys_gives 7 (by omega) Bm b m w hB hm h))) ?_
  rintro e w' ⟨v, ss, rfl, hp, h1, h2, h3⟩
  exact ⟨v, ss, rfl, hp, h1, h2, h3⟩
def collectOv : Ov := fun f => if f == 218 then some acollect else none
theorem collectOv_ok {G : Nat} {gl : Nat → Bool} {xt : Xt} {B : Bs} : OvOk (envOf Tryz.prog G gl xt) B collectOv := by
 intro f m hm
 unfold collectOv at hm
 split at hm <;> cases hm
 rename_i hf
 have hf : f = 218 := by simpa using hf
 subst hf
 refine ⟨loc_collect, fun args s r s' hr lo old p w args' hw ha => ?_⟩
 unfold acollect at hr
 cases hargs : keysOf args with
 | none => rw [hargs] at hr; cases hr
 | some a =>
 rw [hargs] at hr
 obtain rfl := keysOf_some hargs
 dsimp only at hr
 unfold akeys at hr
 split at hr <;> (try (cases hr; done))
 rename_i hg
 simp only [Bool.and_eq_true, beq_iff_eq, Option.isNone_iff_eq_none] at hg
 obtain ⟨hoff, hsp⟩ := hg
 obtain ⟨v', rfl, hv⟩ := arr_one ha
 obtain ⟨x', y', rfl, _, hx, hy⟩ := hv.inv
 have hx' : x' = #[] := Array.eq_empty_of_size_eq_zero hx.1.symm
 subst hx'
 obtain ⟨u', rfl, hu⟩ := arr_one hy
 obtain ⟨b, rfl, hab⟩ := hu.inv
 obtain ⟨bb, bo, bs⟩ := b
 obtain rfl : bo = 0 := hab.2.1.trans hoff
 obtain rfl : bs = none := hab.2.2.trans hsp
 obtain ⟨o, s1, h1, h2⟩ := mb_some hr
 have hs1 : s.h.get a.block = some o ∧ s1 = s.read a.block := by
  unfold mget at h1
  split at h1
  ·rename_i e; cases h1; exact ⟨e, rfl⟩
  ·cases h1
 obtain ⟨hget, rfl⟩ := hs1
 cases o <;> first | (cases h2; done) | skip
 rename_i c e fr
 dsimp only at h2
 obtain ⟨c', e', fr', k1, k2, k3⟩ := cells_in hw.wr hab hget
 have hB : bb < w.heap.size := (Array.getElem?_eq_some_iff.1 k1).1
 have hcell : ∀ u, c[0]? = some u → ∃ u', w.cell? ⟨bb, 0, none⟩ = some u' ∧ VR p u u' := by
  intro u hu
  have h0 : 0 < c.size := (Array.getElem?_eq_some_iff.1 hu).1
  have h0' : 0 < c'.size := by omega
  refine ⟨c'[0], ?_, k3 0 u _ hu (by simp [h0'])⟩
  simp [World.cell?, k1, h0']
 have nil : ∀ {r : Option Nat} {m : List (Vl × Vl)} (s2 : St), ((r = none ∧ m = []) ∨ ∃ b, r = some b ∧ Flds w b m) → m = [] → w.cell? ⟨bb, 0, none⟩ = some (.map r) → WR (Env.cx (envOf Tryz.prog G gl xt) { B with lo, old }) p s2 w →
  Calls Tryz.prog 218 #[.func (.func 220) #[] #[.pointer (some ⟨bb, 0, none⟩)]] w fun e w' => ∃ q, Le p q ∧ WE (envOf Tryz.prog G gl xt) { B with lo, old } q s2 w' ∧ EndR q (.ok (.slice none 0 0)) e := by
  intro r m s2 h hm hc hw2
  subst hm
  refine (collect_one h (by simp) hB hc).mono ?_
  rintro e w' ⟨v, ss, rfl, hp, _, hn, hb⟩
  have := hn.2 (List.perm_nil.1 hp)
  subst this
  exact ⟨p, Le.refl _, ⟨hw2.wide hb, hw.gl⟩, VR.of_leaf rfl⟩
 cases hc0 : c[0]? with
 | none => rw [hc0] at h2; cases h2
 | some u0 =>
 rw [hc0] at h2
 cases u0 <;> first | (cases h2; done) | skip
 rename_i rr
 cases rr with
 | none =>
  cases h2
  obtain ⟨u', hu1, hu2⟩ := hcell _ hc0
  have := leaf_eq rfl hu2
  subst this
  exact nil _ (.inl ⟨rfl, rfl⟩) rfl hu1 (hw.wr.read _)
 | some r0 =>
  obtain ⟨u', hu1, hu2⟩ := hcell _ hc0
  obtain ⟨r', k, rfl, hr'⟩ := hu2.inv
  unfold aone at h2
  obtain ⟨o2, s2, g1, g2⟩ := mb_some h2
  have hs2 : (s.read a.block).h.get r0 = some o2 ∧ s2 = (s.read a.block).read r0 := by
   unfold mget at g1
   split at g1
   ·rename_i e; cases g1; exact ⟨e, rfl⟩
   ·cases g1
  obtain ⟨hget2, rfl⟩ := hs2
  cases o2 <;> first | (cases g2; done) | skip
  rename_i es cl
  dsimp only at g2
  obtain ⟨b2, k2', o', j1, j2, j3⟩ := hw.wr.heap _ _ hget2
  rw [hr'] at j1; cases j1
  obtain ⟨es', rfl, hes⟩ := j3
  cases hnil : es.toList with
  | nil =>
   rw [hnil] at g2
   cases g2
   have : es' = #[] := Array.eq_empty_of_size_eq_zero (by have := hes.1; rw [← Array.length_toList, hnil] at this; simpa using this.symm)
   subst this
   refine nil (m := []) _ (.inr ⟨r', rfl, .map [], by simp, by simp, ⟨#[], cl, j2, ⟨by simp, ⟨by simp, by simp, by simp⟩, by simp⟩, by simp, rfl⟩, rfl, by simp, fun x _ _ zd => rfl⟩) rfl hu1 ((hw.wr.read _).read _)
  | cons e0 tl =>
   rw [hnil] at g2
   cases tl with
   | cons _ _ => cases g2
   | nil =>
   have hone := hnil
   dsimp only at g2
   cases hx : vlOf e0.key with
   | none => rw [hx] at g2; cases g2
   | some x =>
   cases hy : vlOf e0.val with
   | none => rw [hx, hy] at g2; cases g2
   | some y =>
   rw [hx, hy] at g2
   dsimp only at g2
   split at g2 <;> (try (cases g2; done))
   rename_i hok
   simp only [Bool.and_eq_true, decide_eq_true_eq] at hok
   have hxv := vlOf_some hx
   have hyv := vlOf_some hy
   have hsz : es'.size = 1 := by have := hes.1; rw [← Array.length_toList, hone] at this; simpa using this.symm
   obtain ⟨e1, he1⟩ : ∃ e1, es' = #[e1] := ⟨es'[0], by
    apply Array.ext
    ·simpa using hsz
    ·intro i h1 h2; simp at h2; subst h2; rfl⟩
   subst he1
   have hrel := hes.2 0 e0 e1 (by rw [← Array.getElem?_toList, hone]; rfl) rfl
   have hk : e1.key = x.val := leaf3 (hxv ▸ hrel.1)
   have hv : e1.val = y.val := leaf3 (hyv ▸ hrel.2.1)
   have hbn : e1.born = e0.born := hrel.2.2
   have hfl : FldsD w r' [(x, y)] (.map [(keyV x, .held y.val)]) := one_flds (born := e1.born) (clock := cl) (wf_of hok.1) (by rw [j2, ← hk, ← hv]) (by rw [hbn]; exact hok.2)
   obtain ⟨n, s3, m1, m2⟩ := mb_some g2
   unfold mnew at m1
   split at m1 <;> (try (cases m1; done))
   rename_i htop
   cases m1
   cases m2
   refine (collect_one (m := [(x, y)]) (.inr ⟨r', rfl, _, hfl⟩) (by simp) hB hu1).mono ?_
   rintro e w' ⟨v, ss, rfl, hp, hrow, hn, hb⟩
   obtain rfl : ss = [x] := List.perm_singleton.1 (by simpa using hp)
   obtain ⟨hl, hrow⟩ := hrow
   rcases hrow with ⟨rfl, h0⟩ | ⟨g, cap, cur, rfl, q1, q2, q3, q4, q5, q6⟩
   ·cases h0
   have hw3 := (hw.wr.read a.block).read r0
   refine ⟨Ex.ext p s.ctr g cap, ?_, ⟨?_, ?_⟩, ?_⟩
   ·exact hw3.extend htop g cap
   ·refine hw3.made htop hb q1 q2 (.inl ⟨cur, (0, 0), rfl, ?_, ?_, by simp, .inr ⟨rfl, q5⟩⟩)
    ·simp only [Vl.list, List.size_toArray, List.length_cons, List.length_nil]; simp only [List.length_singleton] at q3; omega
    ·intro i u u' a1 a2
     have hi : i < 3 := by have := (Array.getElem?_eq_some_iff.1 a1).1; simpa [Vl.list] using this
     have : cur.toList.take 3 = x.list := by simpa [flat] using q6
     have h3 : (cur.toList.take 3)[i]? = some u := by rw [this]; simpa using a1
     rw [List.getElem?_take_of_lt hi, Array.getElem?_toList, a2] at h3
     cases h3
     refine VR.of_leaf ?_
     have hm := List.mem_of_getElem? (l := x.list) (i := i) (by simpa using a1)
     simp only [Vl.list, List.mem_cons, List.not_mem_nil, or_false] at hm
     rcases hm with rfl | rfl | rfl <;> rfl
   ·intro z hz
    obtain ⟨k, hk⟩ := hw.gl z hz
    exact ⟨k, hw3.extend htop g cap _ _ hk⟩
   ·exact (VR.cl _).slU ⟨s.ctr, 0, none⟩ ⟨g, 0, none⟩ 1 cap cap (ext_self _ _ _ _) rfl rfl q3 (Nat.le_refl _)
end Go.Proofs.YtpboencfnjmmbaaGreatDoor
