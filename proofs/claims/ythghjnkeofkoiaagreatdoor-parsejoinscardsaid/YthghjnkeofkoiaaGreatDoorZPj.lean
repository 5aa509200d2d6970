/-
  The law ParseJoins: two texts that are modules, a line feed between, are a module of the statements of both.
  Conditions: as each theorem says.
-/
import Derived.Test.YthghjnkeofkoiaaGreatDoorZPx
import Derived.Test.YthghjnkeofkoiaaGreatDoorZTj
namespace Go.Proofs.YthghjnkeofkoiaaGreatDoor
open Go.RowKit LM TM PM
set_option linter.unusedVariables false
def SlC (w : World) (v : Value) (n : Nat) (cs : List Value) : Prop := cs.length = n * 6 ∧ ∃ a cap, v = .slice a n cap ∧ n ≤ cap ∧ cap ≤ maxLen ∧ (0 < n → ∃ g o, a = some ⟨g, o, none⟩ ∧ ∀ (j : Nat) (u : Value), cs[j]? = some u → w.cell? ⟨g, o + j, none⟩ = some u)
theorem cells_of {P : Nat → Prop} {w : World} {g : Nat} : ∀ {l : List TS} {o : Nat}, SsAt P w g o l → ∃ cs, SsC P w l cs ∧ cs.length = l.length * 6 ∧ ∀ (j : Nat) (u : Value), cs[j]? = some u → w.cell? ⟨g, o + j, none⟩ = some u
  | [], o, _ => ⟨[], rfl, rfl, fun j u h => by simp at h⟩
  | e :: l, o, ⟨⟨a, b, c, h1, h2⟩, h3⟩ => by
    obtain ⟨cs, k1, k2, k3⟩ := cells_of h3
    refine ⟨sixS e a b c ++ cs, ⟨a, b, c, cs, rfl, h2, k1⟩, by rw [List.length_append, sixS_len, k2, List.length_cons]; omega, fun j u hj => ?_⟩
    by_cases h6 : j < 6
    · rw [List.getElem?_append_left (by rw [sixS_len]; exact h6)] at hj
      cases e with
      | mk kd nm xs bd el ps =>
        obtain ⟨c0, c1, c2, c3, c4, c5⟩ := h1
        rcases (show j = 0 ∨ j = 1 ∨ j = 2 ∨ j = 3 ∨ j = 4 ∨ j = 5 from by omega) with rfl | rfl | rfl | rfl | rfl | rfl <;> (simp only [sixS] at hj; cases hj; assumption)
    · rw [List.getElem?_append_right (by rw [sixS_len]; omega), sixS_len] at hj
      have := k3 (j - 6) u hj
      rwa [show o + 6 + (j - 6) = o + j from by omega] at this
theorem slc_of {P : Nat → Prop} {w : World} {v : Value} {l : List TS} (h : SlAt P v l.length (fun g o => SsAt P w g o l)) : ∃ cs, SlC w v l.length cs ∧ SsC P w l cs := by
  obtain ⟨a, cap, h1, h2, h3, h4⟩ := h
  by_cases hn : 0 < l.length
  · obtain ⟨g, o, e1, e2, e3⟩ := h4 hn
    obtain ⟨cs, k1, k2, k3⟩ := cells_of e3
    exact ⟨cs, ⟨k2, a, cap, h1, h2, h3, fun _ => ⟨g, o, e1, k3⟩⟩, k1⟩
  · have hl : l = [] := List.eq_nil_of_length_eq_zero (by omega)
    subst hl
    exact ⟨[], ⟨rfl, a, cap, h1, h2, h3, fun h => absurd h (by simp)⟩, rfl⟩
theorem addr_add {g o j : Nat} : (⟨g, o, none⟩ : Addr).add j = ⟨g, o + j, none⟩ := by
  unfold Addr.add
  by_cases h : j = 0
  · subst h; simp
  · simp [h]
theorem run_append_none_any {P : Program} (w : World) (base : Nat) (t ty e : TypeId) (i : TypeInfo) (size : Nat) (ht : P.underlying t = some (.slice e)) (hi : P.info? e = some i)
    (v : Value) (n : Nat) (xs : List Value) (cap : Nat) (hown : w.ownsRow base e size v n xs) :
    (Builtin.append_ #[t, t] ty #[v, .slice none 0 cap]).run P w = .ok v w := by
  rcases hown.2 with ⟨rfl, rfl⟩ | ⟨g, cap, cur, rfl, _, _, hnc, _⟩
  · simp [Builtin.append_, run_underlying ht, sizeOf, typeInfo, hi, Builtin.lenOf, Builtin.firstCells]
  · simp [Builtin.append_, run_underlying ht, sizeOf, typeInfo, hi, Builtin.lenOf, Builtin.firstCells, hnc, storeCells]
theorem SlC.up {w w' : World} {v : Value} {n : Nat} {cs : List Value} (h : SlC w v n cs) (hb : Below w.heap.size w w') : SlC w' v n cs := by
  obtain ⟨h0, a, cap, h1, h2, h3, h4⟩ := h
  refine ⟨h0, a, cap, h1, h2, h3, fun hn => ?_⟩
  obtain ⟨g, o, e1, e2⟩ := h4 hn
  refine ⟨g, o, e1, fun j u hj => (hb.cell (p := ⟨g, o + j, none⟩) (World.block_lt_of_cell? _ _ (e2 j u hj))).trans (e2 j u hj)⟩
theorem wpList_append_slcW {ops : Array Oper} {rest : List Oper} {o : Oper} {a : Act} {w : World} {Q : Exit → Act → World → Prop} (hgd : Region.wanted o (yielded ops a.tmps) = true) (s x : Operand)
    (ho : o.op = .call { callee := .builtin .append, args := #[s, x], argTypes := #[24, 24] }) (base : Nat) (v u : Value) (n m : Nat) (xs ys : List Value)
    (hs : a.eval s = v) (hown : w.ownsRow base 30 6 v n xs) (hx : a.eval x = u) (hu : SlC w u m ys) (hy : ∀ c ∈ ys, c.oneCell' = true) (hl1 : n ≤ 100000) (hl2 : m ≤ 100000) (hbase : base ≤ w.heap.size)
    (h : ∀ v' w', w'.ownsRow base 30 6 v' (n + m) (xs ++ ys) → Below base w w' → wpList Tryz.prog ops Q rest (a.put o.dst v') w') : wpList Tryz.prog ops Q (o :: rest) a w := by
  obtain ⟨ti, hti, hz0, hz1, hz2⟩ := info_parts infoStmt
  have key : ∃ v' w', (Builtin.append_ #[24, 24] o.type #[v, u]).run Tryz.prog w = .ok v' w' ∧ w'.ownsRow base 30 6 v' (n + m) (xs ++ ys) ∧ Below base w w' := by
    obtain ⟨hyl, ao, cap, rfl, h1, h2, h3⟩ := hu
    cases ao with
    | none =>
      have hm : m = 0 := by
        rcases Nat.eq_zero_or_pos m with h | h
        · exact h
        · obtain ⟨g, o, e, _⟩ := h3 h; cases e
      subst hm
      have hy0 : ys = [] := List.eq_nil_of_length_eq_zero (by simpa using hyl)
      subst hy0
      refine ⟨v, w, run_append_none_any (P := Tryz.prog) w base 24 o.type 30 ti 6 Tryz.underlying24 hti v n xs cap hown, ?_, Below.refl _ _⟩
      simpa using hown
    | some ad =>
      obtain ⟨v', w', hr, q1, q2, _⟩ := run_append_own (P := Tryz.prog) w base 24 o.type 30 ti _ 6 104 Tryz.underlying24 hti hz0 hz1 hz2 rfl (by decide) v n xs hown ad m cap ys hyl (fun j c hj => by
        have hj2 := (List.getElem?_eq_some_iff.1 hj).1
        obtain ⟨g, o, e, hc⟩ := h3 (by omega)
        cases e
        rw [addr_add]
        exact hc j c hj) hy (by unfold maxLen; omega) (by omega) hbase
      exact ⟨v', w', hr, q1, (Below.refl base w).grown q2 hbase (fun j e => (hown.lt j e).1)⟩
  obtain ⟨v', w', hr, h1, h2⟩ := key
  refine wpList_step fun K' hK' => ?_
  rw [if_pos hgd]
  unfold Oper.wp
  simp [execOp, ho, resolve, invoke, builtin, hs, hx, hr, Result.andThen]
  exact hK' _ _ (h v' w' h1 h2)
theorem wpList_append_slc {ops : Array Oper} {rest : List Oper} {o : Oper} {a : Act} {w : World} {Q : Exit → Act → World → Prop} (hgd : o.guard = none) (s x : Operand)
    (ho : o.op = .call { callee := .builtin .append, args := #[s, x], argTypes := #[24, 24] }) (base : Nat) (v u : Value) (n m : Nat) (xs ys : List Value)
    (hs : a.eval s = v) (hown : w.ownsRow base 30 6 v n xs) (hx : a.eval x = u) (hu : SlC w u m ys) (hy : ∀ c ∈ ys, c.oneCell' = true) (hl1 : n ≤ 100000) (hl2 : m ≤ 100000) (hbase : base ≤ w.heap.size)
    (h : ∀ v' w', w'.ownsRow base 30 6 v' (n + m) (xs ++ ys) → Below base w w' → wpList Tryz.prog ops Q rest (a.put o.dst v') w') : wpList Tryz.prog ops Q (o :: rest) a w :=
  wpList_append_slcW (by simp [Region.wanted, hgd]) s x ho base v u n m xs ys hs hown hx hu hy hl1 hl2 hbase h
set_option maxRecDepth 100000 in
theorem clone_slc {w : World} {v : Value} {n : Nat} {cs : List Value} (h : SlC w v n cs) (hn : n ≤ 100000) (h1 : ∀ u ∈ cs, u.oneCell' = true) :
    Calls Tryz.prog 20 #[v] w fun e w' => ∃ v', e = .returned v' ∧ w'.ownsRow w.heap.size 30 6 v' n cs ∧ Below w.heap.size w w' := by
  have HS := Lib.hid h
  have H1 := Lib.hid h1
  obtain ⟨hl, ao, cap, rfl, hc1, hc2, hg⟩ := h
  have q22 : ∀ (w : World) (a : Option Addr) (n c n' c' : Nat), (binOp .eql 24 (.slice a n c) (.slice none n' c')).run Tryz.prog w = .ok (.bool a.isNone) w := fun w a n c n' c' => Lib.run_eql_slice_nil w _ _ a n c n' c' Tryz.underlying24
  unfold maxLen at hc2
  cases ao with
  | none =>
    have hm : n = 0 := by
      rcases Nat.eq_zero_or_pos n with h | h
      · exact h
      · obtain ⟨g, o, e, _⟩ := hg h; cases e
    clear hg h1
    go_enter Tryz.func20, Tryz.ntmps20
    go_wp2
    go_ret
    exact ⟨_, rfl, ⟨hl, .inl ⟨rfl, hm⟩⟩, Below.refl _ _⟩
  | some ad =>
    clear hg h1
    go_enter Tryz.func20, Tryz.ntmps20
    go_wp2_with (at_builtin; refine wpList_append_slc rfl (.tmp 5) (.tmp 6) rfl w.heap.size (.slice (some ⟨w.heap.size, 0, none⟩) 0 0) _ 0 n [] cs rfl (World.ownsRow_made w #[] 0 (Nat.le_refl _) (Nat.zero_le _) (by simp)) rfl (HS.out.up ((Below.refl _ _).alloc (Nat.le_refl _) _)) H1.out (by omega) hn (by simp) ?_)
    intro v7 w7 r7 b7
    have HR : Hid (w7.ownsRow w.heap.size 30 6 v7 n cs) := by show World.ownsRow _ _ _ _ _ _ _; simpa using r7
    have HB : Hid (Below w.heap.size w w7) := ((Below.refl _ w).alloc (Nat.le_refl _) _).trans b7
    clear r7 b7
    go_wp2
    go_ret
    exact ⟨v7, rfl, HR.out, HB.out⟩
def P3 (s : ByteArray) (w w' : World) (v : Value) (e : Nat) : Prop := Below w.heap.size w w' ∧ (∃ a n c, v = .slice a n c) ∧ ((e = 0 ∧ ∃ l r, PG s.data.toList = .ok l r ∧ Lie (RS v l) w.heap.size w'.heap.size w') ∨ (e ≠ 0 ∧ ∃ a, PG s.data.toList = .bad a e))
theorem parse_three (s : ByteArray) (hs : s.size ≤ 8192) (w : World) (hL : Lv w) : Calls Tryz.prog 23 #[.string s] w fun en w' => ∃ (v : Value) (q : Int) (e : Nat), en = .returned (.tuple #[v, .int .i64 q, .int .i64 (e : Int)]) ∧ P3 s w w' v e := by
  cases h : PG s.data.toList with
  | ok l r =>
    refine (pg_ok rfl h (by rw [← bsz]; exact hs) w hL).mono ?_
    rintro en w' ⟨v, rfl, hl, hb⟩
    obtain ⟨a, c, hv, _⟩ := hl.at'
    exact ⟨v, 0, 0, rfl, hb, ⟨a, _, c, hv⟩, .inl ⟨rfl, l, r, h, hl⟩⟩
  | bad a e =>
    refine (pg_bad rfl h (by rw [← bsz]; exact hs) w hL).mono ?_
    rintro en w' ⟨rfl, hb⟩
    exact ⟨_, _, e, rfl, hb, ⟨_, _, _, rfl⟩, .inr ⟨pg_nz h, a, h⟩⟩
theorem few_stmts {s : List UInt8} {l : List TS} {r : List Tok} (h : PG s = .ok l r) (hs : s.length ≤ 8192) : l.length ≤ 100000 := by
  unfold PG at h
  cases h1 : lexR 0 s with
  | bad _ _ => rw [h1] at h; cases h
  | toks ts =>
    rw [h1] at h
    obtain ⟨g1, g2⟩ := lexR_good hs h1
    have key : ∀ (k : Nat) (acc : List TS) (t : List Tok), GoodT t → ∀ y r, moduleLoop (stmtG 20) k acc t = .ok y r → y.length ≤ acc.length + t.length := by
      intro k
      induction k with
      | zero => intro acc t _ y r h; cases h
      | succ k ih =>
        intro acc t hG y r h
        rw [moduleLoop] at h
        by_cases hk : (hd0 t).kind = 0
        · rw [if_pos hk] at h; cases h; omega
        · rw [if_neg hk] at h
          obtain ⟨z, ts1, q1, q2⟩ := PR.bind_ok h
          obtain ⟨a1, a2⟩ := eats_stmtG 20 _ hG z ts1 q1
          have := ih _ _ a1 y r q2
          simp only [List.length_append, List.length_cons, List.length_nil] at this
          omega
    have := key _ _ _ g1 _ _ h
    simp only [List.length_nil] at this
    omega
end Go.Proofs.YthghjnkeofkoiaaGreatDoor

namespace Go.Proofs.YthghjnkeofkoiaaGreatDoor
open Go.RowKit LM TM PM
set_option linter.unusedVariables false
theorem size3 (a b : ByteArray) : (a ++ ⟨#[10]⟩ ++ b).size = a.size + 1 + b.size := by
  have h : ((⟨#[10]⟩ : ByteArray)).size = 1 := rfl
  rw [ByteArray.size_append, ByteArray.size_append, h]
set_option maxRecDepth 100000 in
set_option maxHeartbeats 4000000 in
theorem pjoins_any (s1 s2 : ByteArray) (w : World) (hL : Lw w) : Calls Tryz.prog 7 #[.string s1, .string s2] w fun e w' => e = .returned (.bool true) ∧ Below w.heap.size w w' := by
  have HL : Hid (Lw w) := hL
  clear hL
  go_enter Tryz.func7, Tryz.ntmps7
  go_wp2_with fail
  refine (awake7 _ HL.out).mono ?_
  rintro e w1 ⟨rfl, b1⟩
  have HB1 : Hid (Below w.heap.size w w1) := b1
  have HL1 : Hid (Lw w1) := HL.out.below b1
  clear b1 HL
  by_cases h80 : 800 < s1.size
  · have h80i : 800 < (s1.size : Int) := by omega
    go_wp2
    go_ret
    exact ⟨rfl, HB1.out⟩
  by_cases h81 : 800 < s2.size
  · have h80i : ¬ 800 < (s1.size : Int) := by omega
    have h81i : 800 < (s2.size : Int) := by omega
    go_wp2
    go_ret
    exact ⟨rfl, HB1.out⟩
  have h80i : ¬ 800 < (s1.size : Int) := by omega
  have h81i : ¬ 800 < (s2.size : Int) := by omega
  go_wp2_with fail
  refine (parse_three s1 (by omega) w1 HL1.out.v).mono ?_
  rintro en w2 ⟨v1, q1, e1, rfl, b2, ⟨a1, n1, c1, rfl⟩, hP1⟩
  have HB2 : Hid (Below w.heap.size w w2) := HB1.out.trans (b2.mono HB1.out.size)
  have HL2 : Hid (Lw w2) := HL1.out.below b2
  have HP1 := Lib.hid hP1
  clear b2 hP1 HB1 HL1
  go_wp2_with fail
  refine (parse_three s2 (by omega) w2 HL2.out.v).mono ?_
  rintro en w3 ⟨v2, q2, e2, rfl, b3, ⟨a2, n2, c2, rfl⟩, hP2⟩
  have HB3 : Hid (Below w.heap.size w w3) := HB2.out.trans (b3.mono HB2.out.size)
  have HL3 : Hid (Lw w3) := HL2.out.below b3
  have HP2 := Lib.hid hP2
  have HW23 : Hid (Below w2.heap.size w2 w3) := b3
  clear b3 hP2 HB2 HL2
  have b80 : s1.size ≤ 800 := by omega
  have b81 : s2.size ≤ 800 := by omega
  go_wp2_with fail
  have h819 : s1.size + 1 + s2.size ≤ 8192 := by omega
  rw [← size3] at h819
  have H819 := Lib.hid h819
  clear h819
  generalize hS : s1 ++ ⟨#[10]⟩ ++ s2 = S at H819 ⊢
  have HS := Lib.hid hS
  clear hS
  refine (parse_three S H819.out w3 HL3.out.v).mono ?_
  rintro en w4 ⟨v3, q3, e3, rfl, b4, ⟨a3, n3, c3, rfl⟩, hP3⟩
  have HB4 : Hid (Below w.heap.size w w4) := HB3.out.trans (b4.mono HB3.out.size)
  have HP3 := Lib.hid hP3
  have HW34 : Hid (Below w3.heap.size w3 w4) := b4
  clear b4 hP3 HB3 HL3 H819
  by_cases z1 : e1 = 0
  · by_cases z2 : e2 = 0
    · obtain ⟨l, r, g1, y1⟩ : ∃ l r, PG s1.data.toList = .ok l r ∧ Lie (RS (.slice a1 n1 c1) l) w1.heap.size w2.heap.size w2 := by
        rcases HP1.out with ⟨_, h⟩ | ⟨hne, _⟩
        · exact h
        · exact absurd z1 hne
      obtain ⟨m, q, g2, y2⟩ : ∃ l r, PG s2.data.toList = .ok l r ∧ Lie (RS (.slice a2 n2 c2) l) w2.heap.size w3.heap.size w3 := by
        rcases HP2.out with ⟨_, h⟩ | ⟨hne, _⟩
        · exact h
        · exact absurd z2 hne
      obtain ⟨z, p, g3, hz⟩ := pg_join g1 g2 (by rw [← bsz, ← bsz]; omega)
      have g3' : PG S.data.toList = .ok z p := by
        rw [← HS.out, apL, apL, List.append_assoc]
        exact g3
      obtain ⟨h30, y3⟩ : e3 = 0 ∧ Lie (RS (.slice a3 n3 c3) z) w3.heap.size w4.heap.size w4 := by
        rcases HP3.out with ⟨h0, z', p', g4, y⟩ | ⟨_, _, g4⟩
        · rw [g3'] at g4
          simp only [PR.ok.injEq] at g4
          obtain ⟨rfl, rfl⟩ := g4
          exact ⟨h0, y⟩
        · rw [g3'] at g4; cases g4
      subst z1 z2 h30
      have hsame := same_zSs _ _ hz
      have HSM := Lib.hid hsame
      have hln := few_stmts g1 (by rw [← bsz]; omega)
      have hmn := few_stmts g2 (by rw [← bsz]; omega)
      have w24 : Below w2.heap.size w2 w4 := HW23.out.trans (HW34.out.mono HW23.out.size)
      have k1 := lie_up y1 w24
      have k2 := lie_up y2 HW34.out
      have k3 := lie_up y3 (Below.refl _ _)
      have HK3 : Hid (SlAt (· < w4.heap.size) (.slice a3 n3 c3) z.length (fun g o => SsAt (· < w4.heap.size) w4 g o z)) := k3
      obtain ⟨cs, i1, i2⟩ := slc_of k1
      obtain ⟨ds, j1, j2⟩ := slc_of k2
      obtain ⟨_, _, hv1, _⟩ := k1
      obtain ⟨_, _, hv2, _⟩ := k2
      obtain ⟨_, _, hv3, _⟩ := k3
      have hn1 : n1 = l.length := by cases hv1; rfl
      have hn2 : n2 = m.length := by cases hv2; rfl
      clear hv1 hv2 hv3
      subst hn1 hn2
      have I1 := Lib.hid i1
      have I2 := Lib.hid i2
      have J1 := Lib.hid j1
      have J2 := Lib.hid j2
      clear i1 i2 j1 j2 y1 y2 y3 g1 g2 g3 g3' hz hsame w24 HP1 HP2 HP3 HW23 HW34
      go_wp2_with fail
      refine (clone_slc I1.out hln (ssC_one I2.out)).mono ?_
      rintro en w5 ⟨vC, rfl, r5, b5⟩
      have HB5 : Hid (Below w.heap.size w w5) := HB4.out.trans (b5.mono HB4.out.size)
      have HW45 : Hid (Below w4.heap.size w4 w5) := b5
      have HR5 := Lib.hid r5
      have hs5 := b5.size
      clear r5 b5
      go_wp2_with (at_builtin; refine wpList_append_slcW (by first | rfl | simp [go_sem]) (.tmp 56) (.tmp 57) rfl w4.heap.size vC _ l.length m.length cs ds rfl HR5.out rfl (J1.out.up HW45.out) (ssC_one J2.out) hln hmn hs5 ?_)
      intro vJ w6 r6 b6
      have b46 : Below w4.heap.size w4 w6 := HW45.out.trans b6
      have HB6 : Hid (Below w.heap.size w w6) := HB4.out.trans (b46.mono HB4.out.size)
      have hkp : ∀ k, k < w4.heap.size → k < w6.heap.size ∧ w6.heap[k]? = w4.heap[k]? := fun k hk => ⟨Nat.lt_of_lt_of_le hk b46.size, b46.block k hk⟩
      have hJ6 : SlAt (· < w6.heap.size) vJ (l ++ m).length (fun g o => SsAt (· < w6.heap.size) w6 g o (l ++ m)) := row_stmts r6 (by simp) (ssC_app (SsC.kept hkp J2.out) (SsC.kept hkp I2.out)) (fun k _ h => h)
      have hZ6 : SlAt (· < w6.heap.size) (.slice a3 n3 c3) z.length (fun g o => SsAt (· < w6.heap.size) w6 g o z) := HK3.out.imp (fun k hk => (hkp k hk).1) fun g o hg hA => SsAt.kept hkp z hg hA
      have hc := same_any hZ6 hJ6
      rw [HSM.out] at hc
      have HC := Lib.hid hc
      clear hc hJ6 hZ6 hkp b46 b6 r6
      go_wp2_with fail
      refine HC.out.mono ?_
      rintro en w7 ⟨rfl, b7⟩
      have HB7 : Hid (Below w.heap.size w w7) := HB6.out.trans (b7.mono HB6.out.size)
      clear b7 HC
      go_wp2
      go_ret
      exact ⟨rfl, HB7.out⟩
    · have z2i : ¬ ((e2 : Int) = 0) := by omega
      subst z1
      go_wp2
      go_ret
      exact ⟨rfl, HB4.out⟩
  · have z1i : ¬ ((e1 : Int) = 0) := by omega
    go_wp2
    go_ret
    exact ⟨rfl, HB4.out⟩
end Go.Proofs.YthghjnkeofkoiaaGreatDoor
