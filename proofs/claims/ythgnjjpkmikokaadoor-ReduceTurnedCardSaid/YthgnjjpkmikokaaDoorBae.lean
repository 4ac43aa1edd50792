/- Rule trees as values: what a list of nodes and a tree read as; valid trees. -/
/- The walk of Few. -/
/- The walks of the reference's order of positions and of its Right for neighbourhoods. -/
import Derived.Test.YthgnjjpkmikokaaDoorBac
import Derived.Test.YthgnjjpkmikokaaDoorBad
import Derived.Deep.CutRange
namespace Go.Proofs.YthgnjjpkmikokaaDoor
open Go.RowKit

/-- a list of nodes -/
def NR (w : World) (B : Nat) (A : Option Addr) (m : Nat) (lv : Nat → Int) (nx : Nat → List Int) : Prop :=
  0 < m → ∃ g o, A = some ⟨g, o, none⟩ ∧ g < B ∧ ∀ k, k < m → ∃ A' c', w.cell? ⟨g, o + k * 2, none⟩ = some (.int .i64 (lv k)) ∧ w.cell? ⟨g, o + k * 2 + 1, none⟩ = some (.slice A' (nx k).length c') ∧ Reads w B A' (nx k).length (il (nx k))
section
variable {w w' : World} {B B' m : Nat} {A : Option Addr} {lv : Nat → Int} {nx : Nat → List Int}
theorem NR.below (h : NR w B A m lv nx) (hb : Below B w w') : NR w' B A m lv nx := fun hn => by
  obtain ⟨g, o, e, hg, hc⟩ := h hn
  exact ⟨g, o, e, hg, fun k hk => by
    obtain ⟨A', c', h1, h2, h3⟩ := hc k hk
    exact ⟨A', c', (hb.cell (p := ⟨g, _, none⟩) hg).trans h1, (hb.cell (p := ⟨g, _, none⟩) hg).trans h2, h3.below hb⟩⟩
theorem NR.more (h : NR w B A m lv nx) (hB : B ≤ B') : NR w B' A m lv nx := fun hn => by
  obtain ⟨g, o, e, hg, hc⟩ := h hn
  exact ⟨g, o, e, Nat.lt_of_lt_of_le hg hB, fun k hk => by
    obtain ⟨A', c', h1, h2, h3⟩ := hc k hk
    exact ⟨A', c', h1, h2, h3.more hB⟩⟩
theorem NR.later (h : NR w w.heap.size A m lv nx) (hb : Below w.heap.size w w') : NR w' w'.heap.size A m lv nx := (h.below hb).more hb.size
end

/-- a rule tree -/
structure Tr where
  st : Int
  n : Nat
  f : Nat → P2
  m : Nat
  lv : Nat → Int
  nx : Nat → List Int
/-- what its lists read as -/
def TS (w : World) (AH AN : Option Addr) (T : Tr) : Prop := QReads w w.heap.size AH T.n T.f ∧ NR w w.heap.size AN T.m T.lv T.nx
theorem TS.later {w w' : World} {AH AN : Option Addr} {T : Tr} (h : TS w AH AN T) (hb : Below w.heap.size w w') : TS w' AH AN T := ⟨h.1.later hb, h.2.later hb⟩

/-- an element of a node with the index i and the level l -/
def El (st : Int) (lv : Nat → Int) (i : Nat) (l k : Int) : Prop := 0 ≤ k ∧ (l = 1 → k < st) ∧ (1 < l → k < (i : Int) ∧ lv k.toNat = l - 1)
/-- a node with the index i -/
def Nd (st : Int) (n : Nat) (lv : Nat → Int) (i : Nat) (l : Int) (e : List Int) : Prop := 1 ≤ l ∧ l ≤ (n : Int) ∧ (e.length : Int) = st ∧ ∀ s, s < e.length → El st lv i l (ig e s)
/-- a valid tree -/
structure Rt (T : Tr) : Prop where
  s1 : 2 ≤ T.st
  s2 : T.st ≤ 8
  hd : Hd T.f T.n
  m1 : 1 ≤ T.m
  m2 : T.m ≤ 4096
  nd : ∀ i, i < T.m → Nd T.st T.n T.lv i (T.lv i) (T.nx i)
  top : T.lv (T.m - 1) = (T.n : Int)
/-- a small tree -/
def Sm (T : Tr) : Prop := T.n ≤ 40 ∧ T.m ≤ 400 ∧ ∀ k, k < T.m → (T.nx k).length ≤ 20
/-- a bool came back; if it is true, S -/
def BoolThat (S : Prop) (w : World) (e : Ending) (w' : World) : Prop := ∃ q, e = .returned (.bool q) ∧ (q = true → S) ∧ Below w.heap.size w w'
theorem Blk.three {w : World} {g : Nat} {t : TypeId} {a b c : Value} (h : Blk w g t #[a, b, c]) : w.cell? ⟨g, 0, none⟩ = some a ∧ w.cell? ⟨g, 1, none⟩ = some b ∧ w.cell? ⟨g, 2, none⟩ = some c ∧ g < w.heap.size :=
  ⟨by rw [h.cell]; rfl, by rw [h.cell]; rfl, by rw [h.cell]; rfl, h.lt⟩

/-- a state -/
def sta (s n : Int) : Bool := decide (0 ≤ n) && decide (n < s)
theorem sta_iff (s n : Int) : sta s n = true ↔ 0 ≤ n ∧ n < s := by simp [sta]
theorem isState_any (s n : Int) (w : World) : Calls Tryd.prog 35 #[.int .i64 s, .int .i64 n] w fun e w' => e = .returned (.bool (sta s n)) ∧ w = w' := by
  by_cases h : 0 ≤ n
  · rw [sta, decide_eq_true h]
    go_enter Tryd.func35, Tryd.ntmps35
    go_wp2
    go_ret
    exact ⟨ret_bool (by simp), rfl⟩
  · rw [sta, decide_eq_false h]
    go_enter Tryd.func35, Tryd.ntmps35
    go_wp2
    go_ret
    exact ⟨rfl, rfl⟩
/-- all are states -/
def als (s : Int) (l : List Int) : Bool := (List.range l.length).all fun i => sta s (ig l i)
theorem als_iff (s : Int) (l : List Int) : als s l = true ↔ ∀ i, i < l.length → 0 ≤ ig l i ∧ ig l i < s := by
  simp only [als, List.all_eq_true, List.mem_range, sta_iff]
theorem als_no {s : Int} {l : List Int} {i : Nat} (hi : i < l.length) (h : sta s (ig l i) = false) : als s l = false := by
  rw [← Bool.not_eq_true, als_iff]
  intro h'
  have := (sta_iff s (ig l i)).2 (h' i hi)
  rw [h] at this
  cases this
end Go.Proofs.YthgnjjpkmikokaaDoor
namespace Go.Proofs.YthgnjjpkmikokaaDoor
open Go.RowKit

set_option maxRecDepth 100000 in
set_option maxHeartbeats 2000000 in
theorem few_any (AH : Option Addr) (cH : Nat) (AN : Option Addr) (cN : Nat) (T : Tr) (w : World) (h : TS w AH AN T) (h1 : T.n < 9223372036854775808) (h2 : T.m < 9223372036854775808) (h4 : ∀ k, k < T.m → (T.nx k).length < 9223372036854775808) :
    Calls Tryd.prog 14 #[.agg #[.int .i64 T.st, .slice AH T.n cH, .slice AN T.m cN]] w fun e w' => BoolThat (Sm T) w e w' := by
  obtain ⟨-, hV⟩ := h
  have SM := Lib.hid (show T.n ≤ 40 → T.m ≤ 400 → (∀ k, k < T.m → (T.nx k).length ≤ 20) → Sm T from fun a b c => ⟨a, b, c⟩)
  generalize Sm T = SMT at SM ⊢
  obtain ⟨st, n, f, m, lv, nx⟩ := T
  simp only at *
  have K1 := Blk.new w 25 #[.int .i64 st, .slice AH n cH, .slice AN m cN]
  have B1 : Below w.heap.size w (w.alloc (.cells #[.int .i64 st, .slice AH n cH, .slice AN m cN] 25)) := (Below.refl _ _).alloc (Nat.le_refl _) _
  have HV := Lib.hid hV
  have H4 := Lib.hid h4
  clear hV h4
  by_cases l1 : n ≤ 40
  · by_cases l2 : m ≤ 400
    · have d1 : decide (40 < (n : Int)) = false := by rw [decide_eq_false_iff_not]; omega
      have d2 : decide (400 < (m : Int)) = false := by rw [decide_eq_false_iff_not]; omega
      go_enter Tryd.func14, Tryd.ntmps14
      go_wp2_with fail
      generalize w.alloc (.cells #[.int .i64 st, .slice AH n cH, .slice AN m cN] 25) = w0 at K1 B1 ⊢
      obtain ⟨a0, a1, a2, a3⟩ := K1.three
      have B2 := Lib.hid B1
      clear K1 B1
      go_wp2
      go_loop [17] (fun iv => ∃ j : Nat, j ≤ m ∧ iv = .int .i64 (j : Int) ∧ ∀ i, i < j → (nx i).length ≤ 20) (fun iv => m - (intOf iv).toNat)
      case atStart => exact ⟨0, Nat.zero_le _, rfl, fun i hi => absurd hi (by omega)⟩
      case round =>
        obtain ⟨j, hj, rfl, hno⟩ := hrel
        have HN := Lib.hid hno
        clear hno
        by_cases hlt : j < m
        · obtain ⟨g1, o1, rfl, hb, hc⟩ := HV.out.below B2.out (by omega)
          obtain ⟨A', c', -, hc, -⟩ := hc j hlt
          have hl := H4.out j hlt
          have HN2 := Lib.hid (show (nx j).length ≤ 20 → ∀ i, i < j + 1 → (nx i).length ≤ 20 from fun h i hi => by
            by_cases e : i < j
            · exact HN.out i e
            · obtain rfl : i = j := by omega
              exact h)
          generalize (nx j).length = q at hc hl HN2
          by_cases hm : q ≤ 20
          · have HN3 := Lib.hid (HN2.out hm)
            go_wp2
            go_round
            case rel => exact ⟨j + 1, by omega, by go_num, HN3.out⟩
            case measure => simp [intOf]; omega
          · go_wp2
            go_ret
            exact ⟨_, rfl, fun h => (by cases h), B2.out⟩
        · obtain rfl : j = m := by omega
          go_wp2
          go_ret
          exact ⟨_, rfl, fun _ => SM.out l1 l2 HN.out, B2.out⟩
    · have d1 : decide (40 < (n : Int)) = false := by rw [decide_eq_false_iff_not]; omega
      have d2 : decide (400 < (m : Int)) = true := by rw [decide_eq_true_iff]; omega
      go_enter Tryd.func14, Tryd.ntmps14
      go_wp2
      go_ret
      exact ⟨_, rfl, fun h => (by cases h), B1⟩
  · have d1 : decide (40 < (n : Int)) = true := by rw [decide_eq_true_iff]; omega
    go_enter Tryd.func14, Tryd.ntmps14
    go_wp2
    go_ret
    exact ⟨_, rfl, fun h => (by cases h), B1⟩
end Go.Proofs.YthgnjjpkmikokaaDoor
namespace Go.Proofs.YthgnjjpkmikokaaDoor
open Go.RowKit

theorem before_any (x y u v : Int) (w : World) :
    Calls Tryd.prog 38 #[.agg #[.int .i64 x, .int .i64 y], .agg #[.int .i64 u, .int .i64 v]] w fun e w' => e = .returned (.bool (decide (pc (x, y) (u, v) < 0))) ∧ Below w.heap.size w w' := by
  have B2 : Below w.heap.size w ((w.alloc (.cells #[.int .i64 x, .int .i64 y] 40)).alloc (.cells #[.int .i64 u, .int .i64 v] 40)) := ((Below.refl _ _).alloc (Nat.le_refl _) _).alloc (by simp) _
  have HP := Lib.hid (pc_lt (x, y) (u, v))
  by_cases h1 : y < v
  · have HD := Lib.hid (show decide (pc (x, y) (u, v) < 0) = true by rw [decide_eq_true_iff, HP.out]; exact .inl h1)
    go_enter Tryd.func38, Tryd.ntmps38
    go_wp2
    go_ret
    exact ⟨ret_bool HD.out.symm, B2⟩
  · by_cases h2 : y = v
    · subst h2
      by_cases h3 : x < u
      · have HD := Lib.hid (show decide (pc (x, y) (u, y) < 0) = true by rw [decide_eq_true_iff, HP.out]; exact .inr ⟨rfl, h3⟩)
        have d := decide_eq_false h1
        clear h1
        go_enter Tryd.func38, Tryd.ntmps38
        go_wp2
        go_ret
        exact ⟨ret_bool HD.out.symm, B2⟩
      · have HD := Lib.hid (show decide (pc (x, y) (u, y) < 0) = false by rw [decide_eq_false_iff_not, HP.out]; simp only; omega)
        have d := decide_eq_false h1
        have d3 := decide_eq_false h3
        clear h1 h3
        go_enter Tryd.func38, Tryd.ntmps38
        go_wp2
        go_ret
        exact ⟨ret_bool HD.out.symm, B2⟩
    · have HD := Lib.hid (show decide (pc (x, y) (u, v) < 0) = false by rw [decide_eq_false_iff_not, HP.out]; simp only; omega)
      have d := decide_eq_false h1
      have d3 : (y == v) = false := by rw [beq_eq_false_iff_ne]; exact h2
      clear h1 h2
      go_enter Tryd.func38, Tryd.ntmps38
      go_wp2
      go_ret
      exact ⟨ret_bool HD.out.symm, B2⟩

set_option maxRecDepth 100000 in
set_option maxHeartbeats 4000000 in
theorem rright_all (A : Option Addr) (n c : Nat) (f : Nat → P2) (w : World) (h : QReads w w.heap.size A n f) (hn : n ≤ 1000) :
    Calls Tryd.prog 15 #[.slice A n c] w fun e w' => BoolThat (Hd f n) w e w' := by
  have HD := Lib.hid (show (1 ≤ n ∧ n ≤ 25) → (∀ i, i < n → ofs (f i)) → (∀ i, i + 1 < n → pc (f i) (f (i + 1)) < 0) → Hd f n from fun a b c => ⟨a, b, fun i hi => c i (by omega)⟩)
  generalize Hd f n = HDN at HD ⊢
  by_cases hn1 : 1 ≤ n
  · by_cases hn2 : n ≤ 25
    · have hl1 : decide ((n : Int) < 1) = false := by rw [decide_eq_false_iff_not]; omega
      have hl2 : decide (25 < (n : Int)) = false := by rw [decide_eq_false_iff_not]; omega
      have H := Lib.hid h
      clear h
      go_enter Tryd.func15, Tryd.ntmps15
      go_wp2
      go_loopw [3] (fun iv wr => ∃ j : Nat, j ≤ n ∧ iv = .int .i64 (j : Int) ∧ ((∀ i, i < j → ofs (f i)) ∧ ∀ i, i + 1 < j → pc (f i) (f (i + 1)) < 0) ∧ Below w.heap.size w wr) (fun iv _ => n - (intOf iv).toNat)
      case atStart => exact ⟨0, Nat.zero_le _, rfl, ⟨fun i hi => absurd hi (by omega), fun i hi => absurd hi (by omega)⟩, Below.refl _ _⟩
      case round =>
        obtain ⟨j, hj, rfl, hso, hbel⟩ := hrel
        have R := H.out.below hbel
        have HB := Lib.hid hbel
        have HS := Lib.hid hso
        clear hso
        by_cases hjn : j < n
        · obtain ⟨g1, o1, rfl, hb1, hc1⟩ := R (by omega)
          have c1 := hc1 j hjn
          have hgw : g1 < wr.heap.size := Nat.lt_of_lt_of_le hb1 hbel.size
          clear hbel
          obtain ⟨⟨x1, x2⟩, hx⟩ : ∃ x, x = f j := ⟨_, rfl⟩
          rw [← hx] at c1
          obtain ⟨c10, c11⟩ := c1
          simp only at c10 c11
          have K7 := Lib.hid (Blk.new wr 40 #[.int .i64 x1, .int .i64 x2])
          have B7 := Lib.hid (HB.out.alloc HB.out.size (.cells #[.int .i64 x1, .int .i64 x2] 40))
          have BW := Lib.hid ((Below.refl wr.heap.size wr).alloc (Nat.le_refl _) (.cells #[.int .i64 x1, .int .i64 x2] 40))
          have HX := Lib.hid hx
          have S7 : wr.heap.size < (wr.alloc (.cells #[.int .i64 x1, .int .i64 x2] 40)).heap.size := by simp
          by_cases b1 : x1 < -2
          · have e1 : decide (x1 < -2) = true := decide_eq_true b1
            clear hc1 R hx b1
            go_wp2_with fail
            generalize wr.alloc (.cells #[.int .i64 x1, .int .i64 x2] 40) = w1 at K7 B7 BW S7 ⊢
            obtain ⟨q0, q1, q2, q3, q4⟩ := K7.out.two
            go_quiet (fail)
            go_wp2
            go_ret
            exact ⟨_, rfl, fun h => (by cases h), below_drewN B7.out _⟩
          · have e1 : decide (x1 < -2) = false := decide_eq_false b1
            by_cases b2 : 2 < x1
            · have e2 : decide (2 < x1) = true := decide_eq_true b2
              clear hc1 R hx b1 b2
              go_wp2_with fail
              generalize wr.alloc (.cells #[.int .i64 x1, .int .i64 x2] 40) = w1 at K7 B7 BW S7 ⊢
              obtain ⟨q0, q1, q2, q3, q4⟩ := K7.out.two
              go_quiet (fail)
              go_wp2
              go_ret
              exact ⟨_, rfl, fun h => (by cases h), below_drewN B7.out _⟩
            · have e2 : decide (2 < x1) = false := decide_eq_false b2
              by_cases b3 : x2 < -2
              · have e3 : decide (x2 < -2) = true := decide_eq_true b3
                clear hc1 R hx b1 b2 b3
                go_wp2_with fail
                generalize wr.alloc (.cells #[.int .i64 x1, .int .i64 x2] 40) = w1 at K7 B7 BW S7 ⊢
                obtain ⟨q0, q1, q2, q3, q4⟩ := K7.out.two
                go_quiet (fail)
                go_wp2
                go_ret
                exact ⟨_, rfl, fun h => (by cases h), below_drewN B7.out _⟩
              · have e3 : decide (x2 < -2) = false := decide_eq_false b3
                by_cases b4 : 2 < x2
                · have e4 : decide (2 < x2) = true := decide_eq_true b4
                  clear hc1 R hx b1 b2 b3 b4
                  go_wp2_with fail
                  generalize wr.alloc (.cells #[.int .i64 x1, .int .i64 x2] 40) = w1 at K7 B7 BW S7 ⊢
                  obtain ⟨q0, q1, q2, q3, q4⟩ := K7.out.two
                  go_quiet (fail)
                  go_wp2
                  go_ret
                  exact ⟨_, rfl, fun h => (by cases h), below_drewN B7.out _⟩
                · have e4 : decide (2 < x2) = false := decide_eq_false b4
                  have HO := Lib.hid (show ofs (f j) from by rw [← hx]; exact ⟨by omega, by omega, by omega, by omega⟩)
                  have HS2 := Lib.hid (show ∀ i, i < j + 1 → ofs (f i) from fun i hi => by
                    by_cases e : i < j
                    · exact HS.out.1 i e
                    · obtain rfl : i = j := by omega
                      exact HO.out)
                  by_cases hj0 : j = 0
                  · subst hj0
                    have d0 : decide ((0 : Int) < 0) = false := by decide
                    have d00 : decide ((0 : Nat) < 0) = false := by decide
                    simp only [Nat.zero_mul, Nat.add_zero, Nat.zero_add] at c10 c11
                    clear hc1 R hx b1 b2 b3 b4
                    go_wp2_with fail
                    generalize wr.alloc (.cells #[.int .i64 x1, .int .i64 x2] 40) = w1 at K7 B7 BW S7 ⊢
                    obtain ⟨q0, q1, q2, q3, q4⟩ := K7.out.two
                    go_quiet (fail)
                    go_wp2
                    go_roundw
                    case rel => exact ⟨0 + 1, by omega, by go_num, ⟨HS2.out, fun i hi => absurd hi (by omega)⟩, below_drewN B7.out _⟩
                    case measure => simp [intOf]; omega
                  · obtain ⟨i, hi⟩ : ∃ i, j = i + 1 := ⟨j - 1, by omega⟩
                    have hin : i < n := by omega
                    have e0 : (j : Int) - 1 = (i : Int) := by omega
                    have hd1 : decide (0 < (j : Int)) = true := by rw [decide_eq_true_iff]; omega
                    have hd2 : decide (0 < j) = true := by rw [decide_eq_true_iff]; omega
                    have hw1 : IntKind.i64.wrap ((j : Int) - 1) = (i : Int) := by rw [e0]; exact IntWalk.i64_in _ (by omega)
                    have c2 := hc1 i hin
                    obtain ⟨⟨y1, y2⟩, hy⟩ : ∃ y, y = f i := ⟨_, rfl⟩
                    rw [← hy] at c2
                    have P := fun w => before_any y1 y2 x1 x2 w
                    have HQ := Lib.hid (show decide (pc (y1, y2) (x1, x2) < 0) = true → ∀ i', i' + 1 < j + 1 → pc (f i') (f (i' + 1)) < 0 from fun hq i' hi' => by
                      by_cases e : i' + 1 < j
                      · exact HS.out.2 i' e
                      · obtain rfl : i' = i := by omega
                        rw [← hi, ← hx, ← hy]; exact of_decide_eq_true hq)
                    generalize decide (pc (y1, y2) (x1, x2) < 0) = q at P HQ
                    have PH := Lib.hid P
                    have C2 := Lib.hid c2
                    clear hc1 R hx b1 b2 b3 b4 hy hi hj0 c2 e0 P
                    cases q with
                    | true =>
                      have HQT := Lib.hid (HQ.out rfl)
                      go_wp2_with fail
                      generalize wr.alloc (.cells #[.int .i64 x1, .int .i64 x2] 40) = w1 at K7 B7 BW S7 ⊢
                      have d0 := fun p : LowW w1.heap.size w1 => LowW.cell (a := ⟨g1, o1 + i * 2, none⟩) (Nat.lt_of_lt_of_le hgw BW.out.size) ((BW.out.cell hgw).trans C2.out.1) p
                      have d1 := fun p : LowW w1.heap.size w1 => LowW.cell (a := ⟨g1, o1 + i * 2 + 1, none⟩) (Nat.lt_of_lt_of_le hgw BW.out.size) ((BW.out.cell hgw).trans C2.out.2) p
                      have q0 := fun p : LowW w1.heap.size w1 => (K7.out.below p.below K7.out.lt).two.1
                      have q1 := fun p : LowW w1.heap.size w1 => (K7.out.below p.below K7.out.lt).two.2.1
                      clear c10 c11
                      refine wp_region_low w1.heap.size w1 (by kernel_rfl) (by kernel_rfl) (Below.refl _ _) ?_
                      repeat (quiet_step (first | (go_at_call 38; with_reducible exact LowW.of_call _ (Nat.le_refl _) (PH.out _))))
                      refine wpQuiet_nil ?_
                      rintro w3 ⟨p, rfl⟩
                      have B3 := Lib.hid (B7.out.trans (p.below.mono B7.out.size))
                      clear d0 d1 q0 q1 hw1
                      generalize p.w = w3 at B3 ⊢
                      go_wp2
                      go_roundw
                      case rel => exact ⟨j + 1, by omega, by go_num, ⟨HS2.out, HQT.out⟩, B3.out⟩
                      case measure => simp [intOf]; omega
                    | false =>
                      go_wp2_with fail
                      generalize wr.alloc (.cells #[.int .i64 x1, .int .i64 x2] 40) = w1 at K7 B7 BW S7 ⊢
                      have d0 := fun p : LowW w1.heap.size w1 => LowW.cell (a := ⟨g1, o1 + i * 2, none⟩) (Nat.lt_of_lt_of_le hgw BW.out.size) ((BW.out.cell hgw).trans C2.out.1) p
                      have d1 := fun p : LowW w1.heap.size w1 => LowW.cell (a := ⟨g1, o1 + i * 2 + 1, none⟩) (Nat.lt_of_lt_of_le hgw BW.out.size) ((BW.out.cell hgw).trans C2.out.2) p
                      have q0 := fun p : LowW w1.heap.size w1 => (K7.out.below p.below K7.out.lt).two.1
                      have q1 := fun p : LowW w1.heap.size w1 => (K7.out.below p.below K7.out.lt).two.2.1
                      clear c10 c11
                      refine wp_region_low w1.heap.size w1 (by kernel_rfl) (by kernel_rfl) (Below.refl _ _) ?_
                      repeat (quiet_step (first | (go_at_call 38; with_reducible exact LowW.of_call _ (Nat.le_refl _) (PH.out _))))
                      refine wpQuiet_nil ?_
                      rintro w3 ⟨p, rfl⟩
                      have B3 := Lib.hid (B7.out.trans (p.below.mono B7.out.size))
                      clear d0 d1 q0 q1 hw1
                      generalize p.w = w3 at B3 ⊢
                      go_wp2
                      go_ret
                      exact ⟨_, rfl, fun h => (by cases h), B3.out⟩
        · obtain rfl : j = n := by omega
          clear R hbel
          go_wp2
          go_ret
          exact ⟨_, rfl, fun _ => HD.out ⟨hn1, hn2⟩ HS.out.1 HS.out.2, HB.out⟩
    · have hl1 : decide ((n : Int) < 1) = false := by rw [decide_eq_false_iff_not]; omega
      have hl2 : decide (25 < (n : Int)) = true := by rw [decide_eq_true_iff]; omega
      clear h
      go_enter Tryd.func15, Tryd.ntmps15
      go_wp2
      go_ret
      exact ⟨_, rfl, fun h => (by cases h), Below.refl _ _⟩
  · have hl1 : decide ((n : Int) < 1) = true := by rw [decide_eq_true_iff]; omega
    clear h
    go_enter Tryd.func15, Tryd.ntmps15
    go_wp2
    go_ret
    exact ⟨_, rfl, fun h => (by cases h), Below.refl _ _⟩
end Go.Proofs.YthgnjjpkmikokaaDoor
