/-
  TjBase, TreeJ, joined.
  Conditions: as each theorem says.
-/
import Derived.Test.YthghjnkeofkoiaaGreatDoorTkStmts
import Derived.Test.YthghjnkeofkoiaaGreatDoorShelfCloneStmts
import Derived.Test.YthghjnkeofkoiaaGreatDoorJSo
import Derived.Test.YthghjnkeofkoiaaGreatDoorTrAwake
/-
  Rows of statements copied, and put one behind the other.
  Conditions: as each theorem says.
-/
namespace Go.Proofs.YthghjnkeofkoiaaGreatDoor
open Go.RowKit TM
set_option linter.unusedVariables false
theorem txSs_app : ∀ l m : List TS, txSs (l ++ m) = txSs l ++ txSs m
  | [], m => rfl
  | e :: l, m => by rw [List.cons_append, txSs, txSs_app l m, txSs, List.append_assoc]
theorem ssC_one {P : Nat → Prop} {w : World} : ∀ {l : List TS} {cs : List Value}, SsC P w l cs → ∀ u ∈ cs, u.oneCell' = true
  | [], cs, h, u, hu => by rw [show cs = [] from h] at hu; cases hu
  | e :: l, cs, ⟨a, b, c, cs', h1, h2, h3⟩, u, hu => by
    rw [h1] at hu
    rcases List.mem_append.1 hu with hu | hu
    · exact sixS_cells h2 u hu
    · exact ssC_one h3 u hu
theorem ssC_app {P : Nat → Prop} {w : World} {m : List TS} {ds : List Value} (hd : SsC P w m ds) : ∀ {l : List TS} {cs : List Value}, SsC P w l cs → SsC P w (l ++ m) (cs ++ ds)
  | [], cs, h => by rw [show cs = [] from h]; exact hd
  | e :: l, cs, ⟨a, b, c, cs', h1, h2, h3⟩ => ⟨a, b, c, cs' ++ ds, by rw [h1]; simp, h2, ssC_app hd h3⟩
/-- A row's cells, where its block says. -/
theorem row_cellsA {w : World} {bs : Nat} {e : TypeId} {size g n cap : Nat} {xs : List Value} (h : w.ownsRow bs e size (.slice (some ⟨g, 0, none⟩) n cap) n xs) : ∀ (j : Nat) (u : Value), xs[j]? = some u → w.cell? ((⟨g, 0, none⟩ : Addr).add j) = some u := fun j u hj => by
  have := h.cells (g := g) rfl j u hj
  simpa [Addr.add] using this
theorem row_on {w w' : World} {bs : Nat} {e : TypeId} {size n : Nat} {v : Value} {xs : List Value} (h : w.ownsRow bs e size v n xs) (hb : Below w.heap.size w w') : w'.ownsRow bs e size v n xs := by
  refine ⟨h.1, h.2.imp id ?_⟩
  rintro ⟨g, cap, cur, rfl, hbg, hg, rest⟩
  exact ⟨g, cap, cur, rfl, hbg, (hb.block g (lt_of_block hg)).trans hg, rest⟩
/-- A row read as statements. -/
theorem row_stmts {P : Nat → Prop} {w : World} {bs n : Nat} {v : Value} {cs : List Value} {l : List TS} (hr : w.ownsRow bs 30 6 v n cs) (hl : l.length = n) (hes : SsC P w l cs) (hP : ∀ k, bs ≤ k → k < w.heap.size → P k) : SlAt P v l.length (fun g o => SsAt P w g o l) := by
  obtain ⟨ao, cap, rfl, h1, h2⟩ := row_shape hr
  refine ⟨ao, cap, by rw [hl], by rw [hl]; exact h1, h2, fun hn => ?_⟩
  obtain ⟨g, cap2, cur2, hv2, _, _, hbg, hblk⟩ := row_at hr (by omega)
  cases hv2
  exact ⟨g, 0, rfl, hP g hbg (lt_of_block hblk), SsC.at (cs := cs) hes (row_cells hr)⟩
theorem clone_stmts {w : World} {bs n : Nat} {v : Value} {cs : List Value} {l : List TS} {P : Nat → Prop} (hr : w.ownsRow bs 30 6 v n cs) (hn : n ≤ 100000) (hes : SsC P w l cs) :
    Calls Tryz.prog 20 #[v] w fun e w' => ∃ v', e = .returned v' ∧ w'.ownsRow w.heap.size 30 6 v' n cs ∧ Below w.heap.size w w' := by
  obtain ⟨i0, hi, hz0, hz1, hz2⟩ := info_parts infoStmt
  have hr0 := hr
  rcases hr.2 with ⟨rfl, rfl⟩ | ⟨g, cap, cur, rfl, hb, hg, h1, h2, _⟩
  · refine (AnyE.slices_Clone_nil Tryz.cloneStmts 0 0 w).mono ?_
    rintro e w' ⟨rfl, rfl⟩
    exact ⟨_, rfl, ⟨hr0.1, .inl ⟨rfl, rfl⟩⟩, Below.refl _ _⟩
  · refine (AnyE.slices_Clone Tryz.cloneStmts i0 _ 6 104 hi hz0 hz1 hz2 rfl (by decide) (fun W => by exact Tryz.sizeOf30 W) g 0 n cap cs w hr0.1 (by unfold maxLen; omega) (by omega) (fun j u hj => row_cells hr0 j u hj) (ssC_one hes)).mono ?_
    rintro e w' ⟨v', rfl, h3, _, h4⟩
    exact ⟨v', rfl, h3, h4⟩
/-- append(v, u...) of two rows of statements, the first its own. -/
theorem wpList_append_stmts {ops : Array Oper} {rest : List Oper} {o : Oper} {a : Act} {w : World} {Q : Exit → Act → World → Prop} (hgd : o.guard = none) (s x : Operand)
    (ho : o.op = .call { callee := .builtin .append, args := #[s, x], argTypes := #[24, 24] }) (base b2 : Nat) (v u : Value) (n m : Nat) (xs ys : List Value)
    (hs : a.eval s = v) (hown : w.ownsRow base 30 6 v n xs) (hx : a.eval x = u) (hu : w.ownsRow b2 30 6 u m ys) (hy : ∀ c ∈ ys, c.oneCell' = true) (hl1 : n ≤ 100000) (hl2 : m ≤ 100000) (hbase : base ≤ w.heap.size)
    (h : ∀ v' w', w'.ownsRow base 30 6 v' (n + m) (xs ++ ys) → Below base w w' → wpList Tryz.prog ops Q rest (a.put o.dst v') w') : wpList Tryz.prog ops Q (o :: rest) a w := by
  obtain ⟨ti, hti, hz0, hz1, hz2⟩ := info_parts infoStmt
  have key : ∃ v' w', (Builtin.append_ #[24, 24] o.type #[v, u]).run Tryz.prog w = .ok v' w' ∧ w'.ownsRow base 30 6 v' (n + m) (xs ++ ys) ∧ Below base w w' := by
    have hu0 := hu
    rcases hu.2 with ⟨rfl, rfl⟩ | ⟨g, cap, cur, rfl, hb, hg, h1, h2, _⟩
    · have hy0 : ys = [] := List.eq_nil_of_length_eq_zero hu0.1
      subst hy0
      refine ⟨v, w, run_append_owned_none (P := Tryz.prog) w base 24 o.type 30 ti 6 Tryz.underlying24 hti v n xs hown, ?_, Below.refl _ _⟩
      simpa using hown
    · obtain ⟨v', w', hr, h1, h2, _⟩ := run_append_own (P := Tryz.prog) w base 24 o.type 30 ti _ 6 104 Tryz.underlying24 hti hz0 hz1 hz2 rfl (by decide) v n xs hown ⟨g, 0, none⟩ m cap ys hu0.1 (row_cellsA hu0) hy (by unfold maxLen; omega) (by omega) hbase
      exact ⟨v', w', hr, h1, (Below.refl base w).grown h2 hbase (fun j e => (hown.lt j e).1)⟩
  obtain ⟨v', w', hr, h1, h2⟩ := key
  refine wpList_plain hgd fun K' hK' => ?_
  unfold Oper.wp
  simp [execOp, ho, resolve, invoke, builtin, hs, hx, hr, Result.andThen]
  exact hK' _ _ (h v' w' h1 h2)
end Go.Proofs.YthghjnkeofkoiaaGreatDoor

/-
  The law TreeJoins: statements, one row behind the other, are printed so.
  Conditions: as each theorem says.
-/
namespace Go.Proofs.YthghjnkeofkoiaaGreatDoor
open Go.RowKit TM
set_option linter.unusedVariables false
theorem txSs_bound {l : List TS} {n : Nat} (h : ∀ e ∈ l, (txS e).length ≤ 1000000) (hl : l.length ≤ n) : (txSs l).length ≤ n * 1000000 := Nat.le_trans (txSs_len h) (Nat.mul_le_mul_right _ hl)
theorem two_texts (a b : Bs) : (⟨a.toArray⟩ : ByteArray) ++ ⟨b.toArray⟩ = ⟨(a ++ b).toArray⟩ := by
  have h : ((⟨a.toArray⟩ : ByteArray) ++ ⟨b.toArray⟩).data = a.toArray ++ b.toArray := ByteArray.data_append
  cases hc : ((⟨a.toArray⟩ : ByteArray) ++ ⟨b.toArray⟩)
  rw [hc] at h
  simp only at h
  rw [h]
  simp
set_option maxRecDepth 100000 in
set_option maxHeartbeats 4000000 in
theorem joins_any {xs ys : List XX} (hox : ∀ x ∈ xs, x.ok) (hoy : ∀ x ∈ ys, x.ok) {w : World} {v u : Value} (hv : XSl w v xs) (hu : XSl w u ys) (hL : Lw w) :
    Calls Tryz.prog 5 #[v, u] w fun e w' => e = .returned (.bool true) ∧ Below w.heap.size w w' := by
  have HL : Hid (Lw w) := hL
  have HV := Lib.hid hv
  have HU := Lib.hid hu
  obtain ⟨ad, cap, rfl, hc1, hc2, _⟩ := hv
  obtain ⟨ad2, cap2, rfl, hd1, hd2, _⟩ := hu
  unfold maxLen at hc2 hd2
  clear hL
  go_enter Tryz.func5, Tryz.ntmps5
  go_wp2_with fail
  refine (awake6 _ HL.out).mono ?_
  rintro e w1 ⟨rfl, b1⟩
  have HB1 : Hid (Below w.heap.size w w1) := b1
  have HL1 : Hid (Lw w1) := HL.out.below b1
  have HV1 := Lib.hid (HV.out.up b1)
  have HU1 := Lib.hid (HU.out.up b1)
  clear b1 HL HV HU
  by_cases h50 : 50 < xs.length
  · have h50i : 50 < (xs.length : Int) := by omega
    go_wp2
    go_ret
    exact ⟨rfl, HB1.out⟩
  by_cases h51 : 50 < ys.length
  · have h50i : ¬ 50 < (xs.length : Int) := by omega
    have h51i : 50 < (ys.length : Int) := by omega
    go_wp2
    go_ret
    exact ⟨rfl, HB1.out⟩
  have h50i : ¬ 50 < (xs.length : Int) := by omega
  have h51i : ¬ 50 < (ys.length : Int) := by omega
  obtain ⟨T, hT1, hT2, hT3⟩ := make_any (by omega) hox
  obtain ⟨U, hU1, hU2, hU3⟩ := make_any (by omega) hoy
  have HT3 := Lib.hid hT3
  have HU3 := Lib.hid hU3
  have hbT := txSs_bound (fun e he => (hT1 e he).2.2) (show T.length ≤ 50 by omega)
  have hbU := txSs_bound (fun e he => (hU1 e he).2.2) (show U.length ≤ 50 by omega)
  clear hT3 hU3 hT1 hU1
  go_wp2_with fail
  refine (HT3.out _ _ HV1.out).mono ?_
  rintro e w2 ⟨vT, rfl, s2, b2, cs, r2, c2⟩
  have HB2 : Hid (Below w.heap.size w w2) := HB1.out.trans (b2.mono HB1.out.size)
  have HL2 : Hid (Lw w2) := HL1.out.below b2
  have HU2 := Lib.hid (HU1.out.up b2)
  have hs1 := HB1.out.size
  have hs2 := b2.size
  have HR2 := Lib.hid r2
  have HC2 : Hid (SsC (· < w2.heap.size) w2 T cs) := SsC.kept (fun k hk => ⟨hk.2, rfl⟩) c2
  clear b2 s2 r2 c2 HV1 HU1 HL1 HB1
  go_wp2_with fail
  refine (HU3.out _ _ HU2.out).mono ?_
  rintro e w3 ⟨vU, rfl, s3, b3, ds, r3, c3⟩
  have HB3 : Hid (Below w.heap.size w w3) := HB2.out.trans (b3.mono HB2.out.size)
  have HL3 : Hid (Lw w3) := HL2.out.below b3
  have hs3 := b3.size
  have HR3 := Lib.hid (row_on HR2.out b3)
  have HC3 : Hid (SsC (· < w3.heap.size) w3 T cs) := SsC.kept (fun k hk => ⟨Nat.lt_of_lt_of_le hk hs3, b3.block k hk⟩) HC2.out
  have HD3 : Hid (SsC (· < w3.heap.size) w3 U ds) := SsC.kept (fun k hk => ⟨hk.2, rfl⟩) c3
  have HE3 := Lib.hid r3
  clear b3 s3 r3 c3 HU2 HL2 HB2 HR2 HC2
  go_wp2_with fail
  refine (clone_stmts HR3.out (by omega) HC3.out).mono ?_
  rintro e w4 ⟨vC, rfl, r4, b4⟩
  have HB4 : Hid (Below w.heap.size w w4) := HB3.out.trans (b4.mono HB3.out.size)
  have HL4 : Hid (Lw w4) := HL3.out.below b4
  have HW4 : Hid (Below w3.heap.size w3 w4) := b4
  have hs4 := b4.size
  have HR4 := Lib.hid r4
  have HE4 := Lib.hid (row_on HE3.out b4)
  clear r4 b4
  go_wp2_with (at_builtin; refine wpList_append_stmts rfl (.tmp 22) (.tmp 23) rfl w3.heap.size _ vC vU T.length U.length cs ds rfl HR4.out rfl HE4.out (ssC_one HD3.out) (by omega) (by omega) hs4 ?_)
  intro vJ w5 r5 b5
  have hW5 : Below w3.heap.size w3 w5 := HW4.out.trans b5
  have HB5 : Hid (Below w.heap.size w w5) := HB3.out.trans (hW5.mono HB3.out.size)
  have HL5 : Hid (Lw w5) := HL3.out.below hW5
  have hs5 := hW5.size
  have hC5 : SsC (· < w5.heap.size) w5 T cs := SsC.kept (fun k hk => ⟨Nat.lt_of_lt_of_le hk hs5, hW5.block k hk⟩) HC3.out
  have hD5 : SsC (· < w5.heap.size) w5 U ds := SsC.kept (fun k hk => ⟨Nat.lt_of_lt_of_le hk hs5, hW5.block k hk⟩) HD3.out
  have HJ5 : Hid (SsIn w5.heap.size w5 vJ (T ++ U)) := row_stmts r5 (by simp) (ssC_app hD5 hC5) (fun k _ h => h)
  have HT5 : Hid (SsIn w5.heap.size w5 vT T) := row_stmts (row_on HR3.out hW5) rfl hC5 (fun k _ h => h)
  have HU5 : Hid (SsIn w5.heap.size w5 vU U) := row_stmts (row_on HE3.out hW5) rfl hD5 (fun k _ h => h)
  clear r5 b5 hW5 hC5 hD5 HR3 HC3 HD3 HE3 HB3 HL3 HB4 HL4 HR4 HE4 HW4
  go_wp2_with fail
  refine (print_any _ HL5.out.g HJ5.out (by rw [txSs_app, List.length_append]; omega)).mono ?_
  rintro e w6 ⟨rfl, b6⟩
  have HB6 : Hid (Below w.heap.size w w6) := HB5.out.trans (b6.mono HB5.out.size)
  have HL6 : Hid (Lw w6) := HL5.out.below b6
  have HT6 : Hid (SsIn w6.heap.size w6 vT T) := SlAt.imp (HT5.out.on b6) (fun k h => Nat.lt_of_lt_of_le h b6.size) fun g o _ h => SsAt.kept (fun k hk => ⟨Nat.lt_of_lt_of_le hk b6.size, rfl⟩) T (by assumption) h
  have HU6 : Hid (SsIn w6.heap.size w6 vU U) := SlAt.imp (HU5.out.on b6) (fun k h => Nat.lt_of_lt_of_le h b6.size) fun g o _ h => SsAt.kept (fun k hk => ⟨Nat.lt_of_lt_of_le hk b6.size, rfl⟩) U (by assumption) h
  clear b6 HT5 HU5 HJ5 HB5 HL5
  go_wp2_with fail
  refine (print_any _ HL6.out.g HT6.out (by omega)).mono ?_
  rintro e w7 ⟨rfl, b7⟩
  have HB7 : Hid (Below w.heap.size w w7) := HB6.out.trans (b7.mono HB6.out.size)
  have HL7 : Hid (Lw w7) := HL6.out.below b7
  have HU7 : Hid (SsIn w7.heap.size w7 vU U) := SlAt.imp (HU6.out.on b7) (fun k h => Nat.lt_of_lt_of_le h b7.size) fun g o _ h => SsAt.kept (fun k hk => ⟨Nat.lt_of_lt_of_le hk b7.size, rfl⟩) U (by assumption) h
  clear b7 HT6 HU6 HB6 HL6
  go_wp2_with fail
  refine (print_any _ HL7.out.g HU7.out (by omega)).mono ?_
  rintro e w8 ⟨rfl, b8⟩
  have HB8 : Hid (Below w.heap.size w w8) := HB7.out.trans (b8.mono HB7.out.size)
  clear b8 HU7 HB7 HL7
  have hfin := two_texts (txSs T) (txSs U)
  rw [← txSs_app] at hfin
  have hz1 : (⟨(txSs T).toArray⟩ : ByteArray).size = (txSs T).length := by simp [ByteArray.size]
  have hz2 : (⟨(txSs U).toArray⟩ : ByteArray).size = (txSs U).length := by simp [ByteArray.size]
  generalize (⟨(txSs T).toArray⟩ : ByteArray) = sT at hfin hz1 ⊢
  generalize (⟨(txSs U).toArray⟩ : ByteArray) = sU at hfin hz2 ⊢
  rw [← hfin]
  go_wp2
  go_ret
  exact ⟨rfl, HB8.out⟩
end Go.Proofs.YthghjnkeofkoiaaGreatDoor
