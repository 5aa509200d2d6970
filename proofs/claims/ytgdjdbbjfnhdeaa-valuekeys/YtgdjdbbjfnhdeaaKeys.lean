/-
  The walk of ValueKeys (promise P2.1): it returns true for every slice of values, and writes nothing that was there before the call.
  Conditions: as each theorem says (the argument's cells, read before the call).
-/
import Derived.Test.YtgdjdbbjfnhdeaaAsks
import Derived.Maps.OwnSet
import Derived.Maps.OwnOps
import Derived.DeepKeys4
import Derived.WalkSpells
import Derived.Deep.Slices
import Derived.Deep.RegionWith
namespace Go.Proofs.Ytgdjdbbjfnhdeaa
open Go.ChangeShapes Go.WideShapes Go.ChangeAt Go.RowKit Go.Maps
set_option linter.unusedVariables false
theorem laidOut : laidOutB Try.prog = true := by kernel_rfl
theorem row26 : (26 : TypeId) < Try.prog.types.size := of_decide_eq_true (by kernel_rfl)
theorem wide26 : (match Try.prog.underlying 26 with | some (.array _ _) | some (.struct _) => true | _ => false) = true := by kernel_rfl
theorem law26 : Go.WideMaps.KeyLaw Try.prog 26 := deep_law_laid laidOut (m := 3) (by omega) row26 (by kernel_rfl) wide26
theorem keyed26 : Keyed Try.prog 26 := Keyed.of_law law26
theorem cells26 : Try.prog.cellsOf 26 = 3 := by kernel_rfl
theorem cells24 : Try.prog.cellsOf 24 = 1 := by kernel_rfl
theorem keyType26 : Try.prog.keyType 26 = true := by kernel_rfl
theorem two_of {n : Nat} (h : 26 < n) : ∃ d, n = d + 2 := ⟨n - 2, by omega⟩
def keyL (c m : Int) (t : ByteArray) : Lit := .string (keyBytes [.int .u8 c, .int .i64 m, .string t.data.toList])
theorem key3 {P : Program} {k a b c : TypeId} {n0 n1 n2 g0 g1 g2 p0 p1 p2 : String} {e0 e1 e2 : Bool} {y0 y1 y2 : Nat} {q0 q1 : IntKind} (x y : Int) (t : ByteArray)
    (hu : P.underlying k = some (.struct #[⟨n0, a, 0, e0, g0, p0, y0⟩, ⟨n1, b, 1, e1, g1, p1, y1⟩, ⟨n2, c, 2, e2, g2, p2, y2⟩])) (hk : P.keyType k = true) (hck : P.cellsOf k = 3) (ha : P.cellsOf a = 1) (hb : P.cellsOf b = 1) (hc : P.cellsOf c = 1)
    (ua : P.underlying a = some (.int q0)) (ub : P.underlying b = some (.int q1)) (uc : P.underlying c = some .string) (m0 : n0 ≠ "_") (m1 : n1 ≠ "_") (m2 : n2 ≠ "_") (hs : 26 < P.types.size)
    (wx : (Lit.int q0 x).wf = true) (wy : (Lit.int q1 y).wf = true) (ht : t.size ≤ maxLen) :
    keyOf P k (.agg #[.int q0 x, .int q1 y, .string t]) = some (.string (keyBytes [.int q0 x, .int q1 y, .string t.data.toList])) := by
  obtain ⟨d, hd⟩ := two_of hs
  simp [keyOf, hu, hk, Value.formed, hck, Program.keyLits, Value.cells, ha, hb, hc, hd, ua, ub, uc, wx, wy, ht, m0, m1, m2]
theorem key26 (c m : Int) (t : ByteArray) (hc : (Lit.int .u8 c).wf = true) (hm : (Lit.int .i64 m).wf = true) (ht : t.size ≤ maxLen) :
    keyOf Try.prog 26 (.agg #[.int .u8 c, .int .i64 m, .string t]) = some (keyL c m t) :=
  key3 c m t Try.underlying26 keyType26 cells26 cells24 cells2 cells9 Try.underlying24 Try.underlying2 Try.underlying9 (by decide) (by decide) (by decide) row26 hc hm ht
theorem keyL_inj {c m c' m' : Int} {t t' : ByteArray} (hc : (Lit.int .u8 c).wf = true) (hm : (Lit.int .i64 m).wf = true) (ht : t.size ≤ maxLen) (hc' : (Lit.int .u8 c').wf = true) (hm' : (Lit.int .i64 m').wf = true) (ht' : t'.size ≤ maxLen)
    (h : keyL c m t = keyL c' m' t') : c = c' ∧ m = m' ∧ t = t' := by
  have h1 := key26 c m t hc hm ht
  have h2 := key26 c' m' t' hc' hm' ht'
  rw [← h] at h2
  have := law26.inj h1 h2
  simp at this
  exact this
/-- K's last place of a key among the first k. -/
def lastTo (K : Nat → List UInt8) : Nat → List UInt8 → Int
  | 0, _ => 0
  | k + 1, x => if K k = x then k else lastTo K k x
theorem zero3 (w : World) : (zeroValue 3).run Try.prog w = .ok (.int .i64 0) w := by kernel_rfl

theorem lastTo_lt (K : Nat → List UInt8) (x : List UInt8) : ∀ k, 0 ≤ lastTo K k x ∧ lastTo K k x ≤ k
  | 0 => ⟨Int.le_refl _, Int.le_refl _⟩
  | k + 1 => by
    have := lastTo_lt K x k
    simp only [lastTo]
    split <;> omega
/-- The inner loop's 'last' behind j rounds, at element i. -/
def innerLast (K : Nat → List UInt8) (i : Nat) : Nat → Int
  | 0 => i
  | j + 1 => if K j = K i then max (innerLast K i j) j else innerLast K i j
theorem inner_le (K : Nat → List UInt8) (i : Nat) : ∀ j, j ≤ i → innerLast K i j = i
  | 0, _ => rfl
  | j + 1, h => by
    have := inner_le K i j (by omega)
    simp only [innerLast, this]
    split <;> omega
theorem inner_gt (K : Nat → List UInt8) (i : Nat) : ∀ d, innerLast K i (i + 1 + d) = lastTo K (i + 1 + d) (K i)
  | 0 => by
    have := inner_le K i i (Nat.le_refl _)
    simp [innerLast, lastTo, this]
  | d + 1 => by
    have h1 := inner_gt K i d
    have h2 := lastTo_lt K (K i) (i + 1 + d)
    rw [← Nat.add_assoc]
    simp only [innerLast, lastTo, h1]
    split <;> omega
theorem inner_end (K : Nat → List UInt8) (i n : Nat) (h : i < n) : innerLast K i n = lastTo K n (K i) := by
  have := inner_gt K i (n - (i + 1))
  rwa [show i + 1 + (n - (i + 1)) = n from by omega] at this
theorem inner_bd (K : Nat → List UInt8) (i n : Nat) (h : i < n) : ∀ j, j ≤ n → 0 ≤ innerLast K i j ∧ innerLast K i j ≤ n
  | 0, _ => by simp only [innerLast]; omega
  | j + 1, hj => by
    have := inner_bd K i n h j (by omega)
    simp only [innerLast]
    split <;> omega
theorem bytes_ne {a b : ByteArray} (h : a ≠ b) : (a.toList == b.toList) = false := by
  rw [← beq_toListBytes]
  cases hb : (a == b)
  · rfl
  · refine absurd ?_ h
    obtain ⟨x⟩ := a
    obtain ⟨y⟩ := b
    have : (x == y) = true := hb
    rw [eq_of_beq this]
theorem max_is (a b : Int) : (if a < b then b else a) = max a b := by split <;> omega
theorem int_is {k : IntKind} {a b : Int} (h : a = b) : Value.int k a = .int k b := by rw [h]
theorem awake_below (w : World) : Calls Try.prog 6 #[] w fun e w' => e = .returned (.bool true) ∧ Below w.heap.size w w' := by
  refine (awake_any w).mono ?_
  rintro e w' ⟨rfl, rfl⟩
  exact ⟨rfl, ((Below.refl _ _).alloc (Nat.le_refl _) _).alloc (by simp) _⟩

set_option maxHeartbeats 2000000 in
theorem keys_any (b off len cap : Nat) (ks ns : Nat → Int) (ss : Nat → ByteArray) (K : Nat → List UInt8) (w0 : World) (hm : len ≤ 40) (hb0 : b < w0.heap.size) (hcap : len ≤ cap) (hcap2 : cap ≤ maxLen)
    (c00 : ∀ j, j < len → w0.cell? ⟨b, off + j * 3, none⟩ = some (.int .u8 (ks j))) (c10 : ∀ j, j < len → w0.cell? ⟨b, off + j * 3 + 1, none⟩ = some (.int .i64 (ns j))) (c20 : ∀ j, j < len → w0.cell? ⟨b, off + j * 3 + 2, none⟩ = some (.string (ss j)))
    (bk : ∀ j, 0 ≤ ks j ∧ ks j ≤ 255) (bn : ∀ j, -9223372036854775808 ≤ ns j ∧ ns j ≤ 9223372036854775807)
    (hK : ∀ j, keyOf Try.prog 26 (.agg #[.int .u8 (ks j % 5), .int .i64 (mkN (ks j) (ns j)), .string (mkS (ks j) (ss j))]) = some (.string (K j))) :
    Calls Try.prog 5 #[.slice (some ⟨b, off, none⟩) len cap] w0 fun e w' => e = .returned (.bool true) ∧ Below w0.heap.size w0 w' := by
  have hmm := @run_makeMap Try.prog
  unfold maxLen at hcap2
  have C0 : Hid (∀ (w1 : World), Below w0.heap.size w0 w1 → ∀ j, j < len → w1.cell? ⟨b, off + j * 3, none⟩ = some (.int .u8 (ks j)) ∧ w1.cell? ⟨b, off + j * 3 + 1, none⟩ = some (.int .i64 (ns j)) ∧ w1.cell? ⟨b, off + j * 3 + 2, none⟩ = some (.string (ss j))) :=
    fun w1 h j hj => ⟨(h.cell (by exact hb0)).trans (c00 j hj), (h.cell (by exact hb0)).trans (c10 j hj), (h.cell (by exact hb0)).trans (c20 j hj)⟩
  have HK : Hid (∀ j, keyOf Try.prog 26 (.agg #[.int .u8 (ks j % 5), .int .i64 (mkN (ks j) (ns j)), .string (mkS (ks j) (ss j))]) = some (.string (K j))) := hK
  clear c00 c10 c20 hK
  go_enter Try.func5, Try.ntmps5
  go_wp2_with fail
  refine (awake_below _).mono ?_
  rintro e w ⟨rfl, hbw⟩
  have hsz := hbw.size
  go_wp2_with fail
  go_loopw [19] (fun i wr => ∃ k : Nat, k ≤ len ∧ i = .int .i64 k ∧ (∃ D : DataW Unit, wr.ownsMap Try.prog 26 (plainElem Try.prog 3) w.heap.size k D ∧ IsMap D ∧ ∀ x, D.atKey (.string x) (.lit (.int .i64 0)) = .lit (.int .i64 (lastTo K k x))) ∧ Below w.heap.size w wr ∧ w.heap.size + 1 ≤ wr.heap.size)
    (fun i _ => len - (intOf i).toNat)
  case atStart => exact ⟨0, Nat.zero_le _, rfl, ⟨.map [], World.ownsMap_made _ _ _ _, ⟨_, rfl⟩, fun y => rfl⟩, (Below.refl _ _).alloc (Nat.le_refl _) _, by simp⟩
  case round =>
    obtain ⟨k, hk, rfl, ⟨D, hown, hD, hat⟩, hnx, hws⟩ := hrel
    have HA : Hid (∀ x, D.atKey (.string x) (.lit (.int .i64 0)) = .lit (.int .i64 (lastTo K k x))) := hat
    clear hat
    by_cases hlt : k < len
    · obtain ⟨e0, e1, e2⟩ := C0.out _ (hbw.trans (hnx.mono hsz)) k hlt
      have hkk := HK.out k
      have bkk := bk k
      have bnn := bn k
      generalize ks k = kk at e0 hkk bkk
      generalize ns k = nn at e1 hkk bnn
      generalize ss k = sk at e2 hkk
      have HKK : Hid (keyOf Try.prog 26 (.agg #[.int .u8 (kk % 5), .int .i64 (mkN kk nn), .string (mkS kk sk)]) = some (.string (K k))) := hkk
      clear hkk
      go_wp2_with fail
      refine (make_any kk nn sk _ bkk.1 bkk.2 bnn.1 bnn.2).mono ?_
      rintro e w' ⟨rfl, rfl⟩
      go_wp2_with (at_mapUpdate; refine wpList_mapUpdate_own _ rfl _ _ _ 39 rfl 26 3 keyed26 Try.underlying39 (plainElem Try.prog 3) w.heap.size k D rfl (((hown.alloc _).alloc _).alloc _) (by unfold maxLen; omega) _ _ _ rfl rfl HKK.out _ [] (plainElem_int Try.underlying3 (WalkArith.wf_i64 (by omega))) ?_; intro w2 hown2 hgrow2)
      have s1 := hgrow2.size
      simp at s1
      go_roundw
      case rel =>
        refine ⟨k + 1, by omega, by go_num, ⟨_, hown2, hD.put _ _, fun x => ?_⟩, ?_, by omega⟩
        · simp only [lastTo]
          by_cases hx : K k = x
          · subst hx
            rw [if_pos rfl, Maps.atKey_put_same hD (by simp [WideAt.IsKeyLit])]
          · rw [if_neg hx, Maps.atKey_put_other (by simpa using fun h => hx h.symm), HA.out x]
        · exact ((((hnx.alloc hnx.size _).alloc (by simp; omega) _).alloc (by simp; omega) _).grown hgrow2 (by simp; omega) (fun j hj => by cases hj; exact Nat.le_refl _))
      case measure => simp [intOf]; omega
    · have : k = len := by omega
      subst this
      have HA' := HA
      go_wp2_with fail
      go_loopw [31] (fun i wr => ∃ i' : Nat, i' ≤ k ∧ i = .int .i64 i' ∧ wr.ownsMap Try.prog 26 (plainElem Try.prog 3) w.heap.size k D ∧ Below w.heap.size w wr ∧ w.heap.size + 1 ≤ wr.heap.size)
        (fun i _ => k - (intOf i).toNat)
      case atStart => exact ⟨0, Nat.zero_le _, rfl, hown, hnx, hws⟩
      case round =>
        clear hown hnx hws
        obtain ⟨i, hi, rfl, hown, hnx, hws⟩ := hrel
        obtain ⟨wo, hwo⟩ : ∃ x, x = wr := ⟨wr, rfl⟩
        subst hwo
        by_cases hlt : i < k
        · obtain ⟨e0, e1, e2⟩ := C0.out _ (hbw.trans (hnx.mono hsz)) i hlt
          have hki := HK.out i
          have bki := bk i
          have bni := bn i
          generalize ks i = ki at e0 hki bki
          generalize ns i = ni at e1 hki bni
          generalize ss i = si at e2 hki
          have HKI : Hid (keyOf Try.prog 26 (.agg #[.int .u8 (ki % 5), .int .i64 (mkN ki ni), .string (mkS ki si)]) = some (.string (K i))) := hki
          clear hki
          go_wp2_with fail
          go_loopw [39, 8] (fun j l wi => ∃ j' : Nat, j' ≤ k ∧ j = .int .i64 j' ∧ l = .int .i64 (innerLast K i j') ∧ wi.ownsMap Try.prog 26 (plainElem Try.prog 3) w.heap.size k D ∧ Below (wo.heap.size + 1) (wo.alloc (Obj.cells #[.int .u8 ki, .int .i64 ni, .string si] 35)) wi)
            (fun j _ _ => k - (intOf j).toNat)
          case atStart => exact ⟨0, Nat.zero_le _, rfl, rfl, hown.alloc _, Below.refl _ _⟩
          case round =>
            obtain ⟨j, hj, rfl, rfl, howni, hni⟩ := hrel
            have hnw : Below w.heap.size w wr := (hnx.alloc hnx.size _).trans (hni.mono (by omega))
            have hs2 := hni.size
            simp at hs2
            have hs3 : wo.heap.size < wr.heap.size := by omega
            have d0 : wr.cell? ⟨wo.heap.size, 0, none⟩ = some (.int .u8 ki) := (hni.cell (by simp)).trans (by go_simp)
            have d1 : wr.cell? ⟨wo.heap.size, 1, none⟩ = some (.int .i64 ni) := (hni.cell (by simp)).trans (by go_simp)
            have d2 : wr.cell? ⟨wo.heap.size, 2, none⟩ = some (.string si) := (hni.cell (by simp)).trans (by go_simp)
            by_cases hlj : j < k
            · obtain ⟨f0, f1, f2⟩ := C0.out _ (hbw.trans (hnw.mono hsz)) j hlj
              have hkj := HK.out j
              have bkj := bk j
              have bnj := bn j
              generalize ks j = kj at f0 hkj bkj
              generalize ns j = nj at f1 hkj bnj
              generalize ss j = sj at f2 hkj
              have HKJ : Hid (keyOf Try.prog 26 (.agg #[.int .u8 (kj % 5), .int .i64 (mkN kj nj), .string (mkS kj sj)]) = some (.string (K j))) := hkj
              clear hkj
              have hib := inner_bd K i k hlt j hj
              have HIS : Hid (innerLast K i (j + 1) = if K j = K i then max (innerLast K i j) j else innerLast K i j) := rfl
              have hA : ∀ (o : Obj) (q : Nat), (wr.alloc o).cell? ⟨wo.heap.size, q, none⟩ = wr.cell? ⟨wo.heap.size, q, none⟩ := fun o q => ((Below.refl wr.heap.size wr).alloc (Nat.le_refl _) o).cell (by exact hs3)
              have hB : ∀ (o o2 o3 : Obj) (q : Nat), (((wr.alloc o).alloc o2).alloc o3).cell? ⟨wo.heap.size, q, none⟩ = wr.cell? ⟨wo.heap.size, q, none⟩ := fun o o2 o3 q => ((((Below.refl wr.heap.size wr).alloc (Nat.le_refl _) o).alloc (by simp) o2).alloc (by simp <;> omega) o3).cell (by exact hs3)
              by_cases hke : K j = K i
              · have hve := law26.inj HKJ.out (hke ▸ HKI.out)
                simp only [Value.agg.injEq, Array.mk.injEq, List.cons.injEq, Value.int.injEq, Value.string.injEq, true_and, and_true] at hve
                obtain ⟨v1, v2, v3⟩ := hve
                rw [if_pos hke] at HIS
                clear hke
                go_wp2_with fail
                go_region_with (go_at_call 13; refine (make_any _ _ _ _ (by omega) (by omega) (by omega) (by omega)).mono ?_; rintro e w' ⟨rfl, rfl⟩)
                all_goals go_wp2_with fail
                all_goals
                  refine ⟨⟨j + 1, by omega, by go_num, int_is (by rw [HIS.out, max_is]), ?_, ?_⟩, by simp [intOf]; omega⟩
                  · exact (((((howni.alloc _).alloc _).alloc _).alloc _).alloc _).drew
                  · exact (((((hni.alloc (by omega) _).alloc (by simp; omega) _).alloc (by simp; omega) _).alloc (by simp; omega) _).alloc (by simp; omega) _).drew
              · have hve : ¬ (kj % 5 = ki % 5 ∧ mkN kj nj = mkN ki ni ∧ mkS kj sj = mkS ki si) := by
                  rintro ⟨h1, h2, h3⟩
                  have := HKJ.out
                  rw [h1, h2, h3, HKI.out] at this
                  exact hke (by simpa using this.symm)
                rw [if_neg hke] at HIS
                clear hke
                by_cases v1 : kj % 5 = ki % 5
                · by_cases v2 : mkN kj nj = mkN ki ni
                  · have v3 : ((mkS kj sj).toList == (mkS ki si).toList) = false := by
                      exact bytes_ne fun h => hve ⟨v1, v2, h⟩
                    clear hve
                    go_wp2_with fail
                    go_region_with (go_at_call 13; refine (make_any _ _ _ _ (by omega) (by omega) (by omega) (by omega)).mono ?_; rintro e w' ⟨rfl, rfl⟩)
                    all_goals go_wp2_with fail
                    all_goals
                      refine ⟨⟨j + 1, by omega, by go_num, int_is (by rw [HIS.out]), ?_, ?_⟩, by simp [intOf]; omega⟩
                      · exact (((((howni.alloc _).alloc _).alloc _).alloc _).alloc _).drew
                      · exact (((((hni.alloc (by omega) _).alloc (by simp; omega) _).alloc (by simp; omega) _).alloc (by simp; omega) _).alloc (by simp; omega) _).drew
                  · have v2' : (mkN kj nj == mkN ki ni) = false := beq_eq_false_iff_ne.2 v2
                    clear hve v2
                    go_wp2_with fail
                    go_region_with (go_at_call 13; refine (make_any _ _ _ _ (by omega) (by omega) (by omega) (by omega)).mono ?_; rintro e w' ⟨rfl, rfl⟩)
                    all_goals go_wp2_with fail
                    all_goals
                      refine ⟨⟨j + 1, by omega, by go_num, int_is (by rw [HIS.out]), ?_, ?_⟩, by simp [intOf]; omega⟩
                      · exact (((((howni.alloc _).alloc _).alloc _).alloc _).alloc _).drew
                      · exact (((((hni.alloc (by omega) _).alloc (by simp; omega) _).alloc (by simp; omega) _).alloc (by simp; omega) _).alloc (by simp; omega) _).drew
                · have v1' : (kj % 5 == ki % 5) = false := beq_eq_false_iff_ne.2 v1
                  clear hve v1
                  go_wp2_with fail
                  go_region_with (go_at_call 13; refine (make_any _ _ _ _ (by omega) (by omega) (by omega) (by omega)).mono ?_; rintro e w' ⟨rfl, rfl⟩)
                  all_goals go_wp2_with fail
                  all_goals
                    refine ⟨⟨j + 1, by omega, by go_num, int_is (by rw [HIS.out]), ?_, ?_⟩, by simp [intOf]; omega⟩
                    · exact (((((howni.alloc _).alloc _).alloc _).alloc _).alloc _).drew
                    · exact (((((hni.alloc (by omega) _).alloc (by simp; omega) _).alloc (by simp; omega) _).alloc (by simp; omega) _).alloc (by simp; omega) _).drew
            · have : j = k := by omega
              subst this
              clear hlj
              go_wp2_with fail
              refine (make_any ki ni si _ bki.1 bki.2 bni.1 bni.2).mono ?_
              rintro e w' ⟨rfl, rfl⟩
              have hie := inner_end K i j hlt
              have HIE : Hid (innerLast K i j = lastTo K j (K i)) := hie
              clear hie
              go_wp2_with (at_lookup; refine wpList_lookup_own_int _ rfl _ _ 39 rfl 26 3 .i64 keyed26 Try.underlying39 Try.underlying3 (zero3 _) w.heap.size j D rfl ((howni.alloc _).alloc _) _ _ rfl HKI.out ?_; intro c hatc hwc; obtain rfl : c = innerLast K i j := (by have h1 := hatc.symm.trans (HA.out (K i)); rw [HIE.out]; simpa using h1))
              go_roundw
              case rel => exact ⟨i + 1, by omega, by go_num, (howni.alloc _).alloc _, (hnw.alloc (by omega) _).alloc (by simp; omega) _, by simp; omega⟩
              case measure => simp [intOf]; omega
        · have : i = k := by omega
          subst this
          have hse := hown.size_le
          go_wp2_with (at_len; refine wpList_len_own _ rfl _ 39 rfl 26 3 Try.underlying39 (plainElem Try.prog 3) w.heap.size _ D rfl hown ?_)
          go_ret
          exact ⟨ret_bool rfl, hbw.trans (hnx.mono hsz)⟩

theorem keys_long (a : Option Addr) (len cap : Nat) (w : World) (hl : 40 < len) (hm : len ≤ maxLen) :
    Calls Try.prog 5 #[.slice a len cap] w fun e w' => e = .returned (.bool true) ∧ Below w.heap.size w w' := by
  unfold maxLen at hm
  go_enter Try.func5, Try.ntmps5
  go_wp2_with fail
  refine (awake_below _).mono ?_
  rintro e w1 ⟨rfl, hb⟩
  go_wp2
  go_ret
  exact ⟨rfl, hb⟩

theorem keys_none (a : Option Addr) (cap : Nat) (w : World) :
    Calls Try.prog 5 #[.slice a 0 cap] w fun e w' => e = .returned (.bool true) ∧ Below w.heap.size w w' := by
  have hmm := @run_makeMap Try.prog
  go_enter Try.func5, Try.ntmps5
  go_wp2_with fail
  refine (awake_below _).mono ?_
  rintro e w1 ⟨rfl, hb⟩
  go_wp2_with fail
  refine wp_loop_rounds 1 ?_
  rw [rounds_succ]
  go_wp2_with fail
  refine wp_loop_rounds 1 ?_
  rw [rounds_succ]
  go_wp2_with (at_len; refine wpList_len_own _ rfl _ 39 rfl 26 3 Try.underlying39 (plainElem Try.prog 3) w1.heap.size 0 (.map [] : DataW Unit) rfl (World.ownsMap_made _ _ _ _) ?_)
  go_ret
  exact ⟨ret_bool rfl, hb.alloc hb.size _⟩
end Go.Proofs.Ytgdjdbbjfnhdeaa
