/- The walk of wolfram's number, on any text. -/
/- The walk of wolfram's Parse, by what divide answers. -/
/- Both Parse functions answer the same, on any text of at most 1000 bytes. -/
import Derived.Test.YtjekpmkghpjamaaGreatDoorMab
import Derived.Test.YtjekpmkghpjamaaGreatDoorMaa
import Derived.Test.YtjekpmkghpjamaaGreatDoorMbi
import Derived.Test.YtjekpmkghpjamaaGreatDoorMbg
import Derived.Test.YtjekpmkghpjamaaGreatDoorMav
import Derived.Test.YtjekpmkghpjamaaGreatDoorMbh
import Derived.Below
import Derived.BigQuiet
import Derived.Deep.AppendLies
import Derived.Deep.Draws
import Derived.Deep.QuietTactic
import Derived.IntWalk
import Derived.Laws.IdiomStrings
import Derived.Laws.OwnMore
import Derived.Laws.Rows
import Derived.Lib.AtoiAllCases
import Derived.Lib.Hide
import Derived.Lib.IfaceEq
import Derived.Lib.Strings
import Derived.LoopN
import Derived.Shelf.Abstract
import Derived.Shelf.Lays
import Derived.Shelf.LaysC
import Derived.Shelf.Strconv.AtoiAll
import Derived.Shelf.Strings.SlTrimAscii
import Derived.StillTail
import Derived.StillTailTactics
import Derived.Test.YtjekpmkghpjamaaGreatDoorRows
import Derived.WalkKit
import Derived.Test.YtjekpmkghpjamaaGreatDoorMax
import Derived.Laws.Externs
import Derived.Laws.ShiftsVar
import Derived.Lib.IndexEntry
import Derived.Shelf.Strings.Search1
import Derived.Test.YtjekpmkghpjamaaGreatDoorMba
import Derived.Test.YtjekpmkghpjamaaGreatDoorMbe
namespace Go.Proofs.YtjekpmkghpjamaaGreatDoor
open Go.RowKit
/-- what the walk reads of the package variables: ErrRange holds some error -/
def Vr (u : TypeId) (x : Value) (w : World) : Prop := 5 < w.heap.size ∧ w.cell? ⟨5, 0, none⟩ = some (.iface u x)
theorem Vr.later {u : TypeId} {x : Value} {w w' : World} (h : Vr u x w) (hb : Below w.heap.size w w') : Vr u x w' :=
  ⟨Nat.lt_of_lt_of_le h.1 hb.size, (hb.cell (p := ⟨5, 0, none⟩) h.1).trans h.2⟩
/-- Atoi at a numeral -/
theorem atoi_any {l : List UInt8} (h : numl l = true) (hl : l.length ≤ 1000) (u : TypeId) (x : Value) (w : World) (hv : Vr u x w) :
    Calls Tryz.prog 78 #[.string (tx l)] w fun e w' => Below w.heap.size w w' ∧ ((va 0 l ≤ big ∧ e = .returned (.tuple #[.int .i64 (va 0 l : Int), .nilIface])) ∨ (¬ va 0 l ≤ big ∧ ∃ y t g, e = .returned (.tuple #[.int .i64 y, .iface t (.pointer (some ⟨g, 0, none⟩))]))) := by
  have e1 : (tx l).data.toList = l := by simp [tx]
  by_cases hb : va 0 l ≤ big
  · refine (Any.strconv_Atoi_ok atoiLays (tx l) (by rw [tx_size]; omega) (va 0 l : Int) (by rw [e1]; exact (atoi_num h).1 hb) w).mono ?_
    rintro e w' ⟨rfl, hw⟩
    refine ⟨?_, .inl ⟨hb, rfl⟩⟩
    rcases hw with rfl | ⟨t, rfl⟩
    · exact Below.refl _ _
    · exact Lib.bytesWorld_below _ _ _
  · refine (Any.strconv_Atoi_range atoiLays (tx l) (by rw [tx_size]; omega) (by rw [e1]; exact (atoi_num h).2 hb) (.iface u x) w hv.2 (.inr ⟨u, x, rfl⟩)).mono ?_
    rintro e w' ⟨N, rfl, _, _, hbel⟩
    exact ⟨hbel, .inr ⟨hb, _, _, _, rfl⟩⟩
set_option maxRecDepth 100000 in
theorem number_zero (u : TypeId) (x : Value) (w : World) (hv : Vr u x w) :
    Calls Tryz.prog 44 #[.string (tx [48])] w fun e w' => e = .returned (.tuple #[.int .i64 0, .bool true]) ∧ Below w.heap.size w w' := by
  have T := Lib.hid (trim_any [48] w)
  rw [trim_all (by decide)] at T
  have A := fun w hv => Lib.hid (atoi_any (l := [48]) (by decide) (by decide) u x w hv)
  have HV := Lib.hid hv
  unfold tx at *
  go_enter Tryz.func44, Tryz.ntmps44
  go_wp2_with (first
    | (go_at_call 84; (with_reducible refine T.out.mono ?_); rintro e w1 ⟨rfl, hb⟩; have B1 := Lib.hid hb; have HV1 := Lib.hid (HV.out.later hb); clear hb)
    | (go_at_call 78; (with_reducible refine (A _ HV1.out).out.mono ?_); rintro e w2 ⟨hb, ⟨_, rfl⟩ | ⟨h9, _⟩⟩; rotate_left; (exact absurd (by decide) h9); have B2 := Lib.hid (B1.out.trans (hb.mono B1.out.size)); clear hb))
  go_ret2
  exact ⟨rfl, B2.out⟩
set_option maxRecDepth 100000 in
theorem number_yes {c : UInt8} {r : List UInt8} (h : numl (c :: r) = true) (hc : c.toNat ≠ 48) (hl : (c :: r).length ≤ 1000) (u : TypeId) (x : Value) (w : World) (hv : Vr u x w) :
    Calls Tryz.prog 44 #[.string (tx (c :: r))] w fun e w' => e = .returned (.tuple #[.int .i64 (nv (c :: r)), .bool true]) ∧ Below w.heap.size w w' := by
  have T := Lib.hid (trim_any (c :: r) w)
  rw [trim_all (numl_cons h).2.1] at T
  have A := fun w hv => Lib.hid (atoi_any (l := c :: r) h hl u x w hv)
  have NV := Lib.hid (show nv (c :: r) = if va 0 (c :: r) ≤ big then (va 0 (c :: r) : Int) else -1 from rfl)
  have HV := Lib.hid hv
  have hz : (0 : Int) < ((tx (c :: r)).size : Int) := by rw [tx_size]; simp
  have e0 : ((tx (c :: r)).toList == []) = false := by rw [Lib.toList_data]; simp [tx]
  have e1 : ∀ h, ((tx (c :: r))[0]'h).toNat = c.toNat := fun h => rfl
  have e2 : (((c.toNat : Nat) : Int) == 48) = false := by rw [beq_eq_false_iff_ne]; omega
  have e3 : ((tx (c :: r)).toList == [48]) = false := by
    rw [Lib.toList_data, beq_eq_false_iff_ne]
    simp only [tx]
    intro e
    injection e with e _
    exact hc (by rw [e]; rfl)
  generalize tx (c :: r) = s at T A hz e0 e1 e3 ⊢
  generalize nv (c :: r) = v at NV ⊢
  generalize va 0 (c :: r) = m at A NV
  unfold tx at T
  generalize c.toNat = cn at e1 e2
  clear h hc hl hv
  go_enter Tryz.func44, Tryz.ntmps44
  go_wp2_with (first
    | (go_at_call 84; (with_reducible refine T.out.mono ?_); rintro e w1 ⟨rfl, hb⟩; have B1 := Lib.hid hb; have HV1 := Lib.hid (HV.out.later hb); clear hb)
    | fail)
  refine (A _ HV1.out).out.mono ?_
  rintro e w2 ⟨hb, ⟨h1, rfl⟩ | ⟨h1, y, t, g, rfl⟩⟩
  · have hv : v = (m : Int) := by rw [NV.out, if_pos h1]
    subst hv
    have B2 := Lib.hid (B1.out.trans (hb.mono B1.out.size))
    clear hb
    go_wp2
    go_ret2
    exact ⟨rfl, B2.out⟩
  · have hv : v = -1 := by rw [NV.out, if_neg h1]
    subst hv
    have B2 := Lib.hid (B1.out.trans (hb.mono B1.out.size))
    clear hb
    go_wp2
    go_ret2
    exact ⟨rfl, B2.out⟩
set_option maxRecDepth 100000 in
theorem number_letters {l : List UInt8} (h : l.all dgt = false) (w : World) :
    Calls Tryz.prog 44 #[.string (tx l)] w fun e w' => e = .returned (.tuple #[.int .i64 0, .bool false]) ∧ Below w.heap.size w w' := by
  have T := Lib.hid (trim_any l w)
  obtain ⟨c, r, hr⟩ := trim_some h
  rw [hr] at T
  have e0 : ((tx (c :: r)).toList == []) = false := by rw [Lib.toList_data]; simp [tx]
  generalize tx (c :: r) = s1 at T e0
  generalize tx l = s at T ⊢
  clear h hr
  go_enter Tryz.func44, Tryz.ntmps44
  go_wp2_with (go_at_call 84; (with_reducible refine T.out.mono ?_); rintro e w1 ⟨rfl, hb⟩; have B1 := Lib.hid hb; clear hb)
  go_ret2
  exact ⟨rfl, B1.out⟩
set_option maxRecDepth 100000 in
theorem number_empty (w : World) :
    Calls Tryz.prog 44 #[.string (tx [])] w fun e w' => e = .returned (.tuple #[.int .i64 0, .bool false]) ∧ Below w.heap.size w w' := by
  have T := Lib.hid (trim_any [] w)
  rw [trim_all (by decide)] at T
  unfold tx at *
  go_enter Tryz.func44, Tryz.ntmps44
  go_wp2_with (go_at_call 84; (with_reducible refine T.out.mono ?_); rintro e w1 ⟨rfl, hb⟩; have B1 := Lib.hid hb; clear hb)
  go_ret2
  exact ⟨rfl, B1.out⟩
set_option maxRecDepth 100000 in
theorem number_lead {c d : UInt8} {r : List UInt8} (h : (c :: d :: r).all dgt = true) (hc : c.toNat = 48) (w : World) :
    Calls Tryz.prog 44 #[.string (tx (c :: d :: r))] w fun e w' => e = .returned (.tuple #[.int .i64 0, .bool false]) ∧ Below w.heap.size w w' := by
  have T := Lib.hid (trim_any (c :: d :: r) w)
  rw [trim_all h] at T
  have hz : (0 : Int) < ((tx (c :: d :: r)).size : Int) := by rw [tx_size]; simp; omega
  have e0 : ((tx (c :: d :: r)).toList == []) = false := by rw [Lib.toList_data]; simp [tx]
  have e1 : ∀ h, ((tx (c :: d :: r))[0]'h).toNat = c.toNat := fun h => rfl
  have e2 : (((c.toNat : Nat) : Int) == 48) = true := by rw [hc]; rfl
  have e3 : ((tx (c :: d :: r)).toList == [48]) = false := by
    rw [Lib.toList_data, beq_eq_false_iff_ne]
    simp [tx]
  generalize tx (c :: d :: r) = s at T hz e0 e1 e3 ⊢
  unfold tx at T
  generalize c.toNat = cn at e1 e2
  clear h hc
  go_enter Tryz.func44, Tryz.ntmps44
  go_wp2_with (go_at_call 84; (with_reducible refine T.out.mono ?_); rintro e w1 ⟨rfl, hb⟩; have B1 := Lib.hid hb; clear hb)
  go_ret2
  exact ⟨rfl, B1.out⟩
/-- number at any text -/
theorem number_anyW (l : List UInt8) (hl : l.length ≤ 1000) (u : TypeId) (x : Value) (w : World) (hv : Vr u x w) :
    Calls Tryz.prog 44 #[.string (tx l)] w fun e w' => e = .returned (.tuple #[.int .i64 (if numl l then nv l else 0), .bool (numl l)]) ∧ Below w.heap.size w w' := by
  cases ha : l.all dgt with
  | false =>
    have hn : numl l = false := by unfold numl; rw [ha]; simp
    rw [hn]
    exact number_letters ha w
  | true =>
    match l, hl, ha with
    | [], _, _ => exact number_empty w
    | c :: r, hl, ha =>
      by_cases hc : c.toNat = 48
      · have hc' : c = 48 := UInt8.toNat_inj.1 hc
        subst hc'
        match r, hl, ha with
        | [], _, _ => exact number_zero u x w hv
        | d :: r, hl, ha =>
          have hn : numl (48 :: d :: r) = false := by unfold numl; simp
          rw [hn]
          exact number_lead ha hc w
      · have hn : numl (c :: r) = true := by unfold numl; rw [ha]; simp [hc]
        rw [hn]
        exact number_yes hn hc hl u x w hv
end Go.Proofs.YtjekpmkghpjamaaGreatDoor
namespace Go.Proofs.YtjekpmkghpjamaaGreatDoor
open Go.RowKit
theorem nv_bd (l : List UInt8) : -1 ≤ nv l ∧ nv l ≤ 9223372036854775807 := by
  unfold nv big
  split <;> omega
theorem digits_any (t n : Int) (w : World) (hn : n ≤ 9223372036854775807) :
    Calls Tryz.prog 45 #[.int .i64 t, .int .i64 n] w fun e w' => ∃ A k c, e = .returned (.tuple #[.slice A k c, .int .i64 (der t n)]) ∧ Below w.heap.size w w' := by
  unfold der
  by_cases h : 2 ≤ t ∧ t ≤ 8
  · rw [if_neg (fun h2 => h2 h)]
    by_cases hn0 : n < 0
    · rw [if_pos hn0]
      exact (digits_neg t n w h hn0).mono fun e w' ⟨he, hw⟩ => ⟨none, 0, 0, he, hw ▸ Below.refl _ _⟩
    · rw [if_neg hn0]
      obtain ⟨tn, rfl⟩ := Int.eq_ofNat_of_zero_le (show 0 ≤ t by omega)
      obtain ⟨nn, rfl⟩ := Int.eq_ofNat_of_zero_le (show 0 ≤ n by omega)
      rw [Int.toNat_natCast, Int.toNat_natCast]
      exact (digits_pos tn nn _ w (by omega) (by omega) rfl (by omega)).mono fun e w' ⟨A, k, c, he, _, hb⟩ => ⟨A, k, c, he, hb⟩
  · rw [if_pos h]
    exact (digits_arg t n w h).mono fun e w' ⟨he, hw⟩ => ⟨none, 0, 0, he, hw ▸ Below.refl _ _⟩
theorem elem_any (n : Int) (w : World) :
    Calls Tryz.prog 7 #[.int .i64 n] w fun e w' => ∃ cs, e = .returned (.tuple #[.agg cs, .int .i64 (if 0 ≤ n ∧ n ≤ 255 then 0 else 5)]) ∧ Below w.heap.size w w' := by
  by_cases h : 0 ≤ n ∧ n ≤ 255
  · rw [if_pos h]
    obtain ⟨nn, rfl⟩ := Int.eq_ofNat_of_zero_le h.1
    exact (elem_in nn w (by omega)).mono fun e w' ⟨he, hb⟩ => ⟨_, he, hb⟩
  · rw [if_neg h]
    exact (elem_out n w h).mono fun e w' ⟨he, hb⟩ => ⟨_, he, hb⟩

theorem results_tmp4 {fn : Func} {t1 t2 t3 t4 : Tmp} (h : fn.results = #[.tmp t1, .tmp t2, .tmp t3, .tmp t4]) (tmps : Array Value) (P : Program) (w : World) :
    (results fn tmps).run P w = .ok (.tuple #[tmps.getD t1 undef, tmps.getD t2 undef, tmps.getD t3 undef, tmps.getD t4 undef]) w := by
  simp [results, h]
section
variable (s c b : ByteArray) (x y : Int) (u : TypeId) (v : Value) (w : World)
set_option maxRecDepth 100000 in
theorem parse_syn (sm p q : Bool) (hpq : (p && q) = false) (hv : Vr u v w)
    (D : Calls Tryz.prog 43 #[.string s] w fun e w' => e = .returned (.tuple #[.string c, .string b, .bool sm]) ∧ Below w.heap.size w w')
    (N1 : ∀ w, Vr u v w → Calls Tryz.prog 44 #[.string c] w fun e w' => e = .returned (.tuple #[.int .i64 x, .bool p]) ∧ Below w.heap.size w w')
    (N2 : ∀ w, Vr u v w → Calls Tryz.prog 44 #[.string b] w fun e w' => e = .returned (.tuple #[.int .i64 y, .bool q]) ∧ Below w.heap.size w w') :
    Calls Tryz.prog 17 #[.string s] w fun e w' => e = .returned (.tuple #[.int .i64 0, .int .i64 0, .bool false, .int .i64 15]) ∧ Below w.heap.size w w' := by
  have HD := Lib.hid D
  have H1 := Lib.hid N1
  have H2 := Lib.hid N2
  have HV := Lib.hid hv
  clear D N1 N2 hv
  cases p with
  | false =>
    go_enter Tryz.func17, Tryz.ntmps17
    go_wp2_with (first
      | (go_at_call 44; (with_reducible refine (H2.out _ V2.out).mono ?_); rintro e w3 ⟨rfl, hb⟩; have B3 := Lib.hid (B2.out.trans (hb.mono B2.out.size)); clear hb)
      | (go_at_call 44; (with_reducible refine (H1.out _ V1.out).mono ?_); rintro e w2 ⟨rfl, hb⟩; have B2 := Lib.hid (B1.out.trans (hb.mono B1.out.size)); have V2 := Lib.hid (V1.out.later hb); clear hb)
      | (go_at_call 43; (with_reducible refine HD.out.mono ?_); rintro e w1 ⟨rfl, hb⟩; have B1 := Lib.hid hb; have V1 := Lib.hid (HV.out.later hb); clear hb))
    (try simp only [Exit.inBlock, Exit.then])
    refine bodyPost_ret (results_tmp4 rfl _ _ _) rfl ?_
    exact ⟨rfl, B3.out⟩
  | true =>
    obtain rfl : q = false := by simpa using hpq
    go_enter Tryz.func17, Tryz.ntmps17
    go_wp2_with (first
      | (go_at_call 44; (with_reducible refine (H2.out _ V2.out).mono ?_); rintro e w3 ⟨rfl, hb⟩; have B3 := Lib.hid (B2.out.trans (hb.mono B2.out.size)); clear hb)
      | (go_at_call 44; (with_reducible refine (H1.out _ V1.out).mono ?_); rintro e w2 ⟨rfl, hb⟩; have B2 := Lib.hid (B1.out.trans (hb.mono B1.out.size)); have V2 := Lib.hid (V1.out.later hb); clear hb)
      | (go_at_call 43; (with_reducible refine HD.out.mono ?_); rintro e w1 ⟨rfl, hb⟩; have B1 := Lib.hid hb; have V1 := Lib.hid (HV.out.later hb); clear hb))
    (try simp only [Exit.inBlock, Exit.then])
    refine bodyPost_ret (results_tmp4 rfl _ _ _) rfl ?_
    exact ⟨rfl, B3.out⟩
set_option maxRecDepth 100000 in
theorem parse_total_ok (hx : x ≤ 9223372036854775807) (hd : der y x = 0) (hv : Vr u v w)
    (D : Calls Tryz.prog 43 #[.string s] w fun e w' => e = .returned (.tuple #[.string c, .string b, .bool true]) ∧ Below w.heap.size w w')
    (N1 : ∀ w, Vr u v w → Calls Tryz.prog 44 #[.string c] w fun e w' => e = .returned (.tuple #[.int .i64 x, .bool true]) ∧ Below w.heap.size w w')
    (N2 : ∀ w, Vr u v w → Calls Tryz.prog 44 #[.string b] w fun e w' => e = .returned (.tuple #[.int .i64 y, .bool true]) ∧ Below w.heap.size w w') :
    Calls Tryz.prog 17 #[.string s] w fun e w' => e = .returned (.tuple #[.int .i64 y, .int .i64 x, .bool true, .int .i64 0]) ∧ Below w.heap.size w w' := by
  have HD := Lib.hid D
  have H1 := Lib.hid N1
  have H2 := Lib.hid N2
  have HV := Lib.hid hv
  clear D N1 N2 hv
  · have DG := Lib.hid (fun w => digits_any y x w hx)
    rw [hd] at DG
    clear hd
    go_enter Tryz.func17, Tryz.ntmps17
    go_wp2_with (first
      | (go_at_call 44; (with_reducible refine (H2.out _ V2.out).mono ?_); rintro e w3 ⟨rfl, hb⟩; have B3 := Lib.hid (B2.out.trans (hb.mono B2.out.size)); clear hb)
      | (go_at_call 44; (with_reducible refine (H1.out _ V1.out).mono ?_); rintro e w2 ⟨rfl, hb⟩; have B2 := Lib.hid (B1.out.trans (hb.mono B1.out.size)); have V2 := Lib.hid (V1.out.later hb); clear hb)
      | (go_at_call 43; (with_reducible refine HD.out.mono ?_); rintro e w1 ⟨rfl, hb⟩; have B1 := Lib.hid hb; have V1 := Lib.hid (HV.out.later hb); clear hb)
      | (go_at_call 45; (with_reducible refine (DG.out _).mono ?_); rintro e w4 ⟨A, k, cc, rfl, hb⟩; have B4 := Lib.hid (B3.out.trans (hb.mono B3.out.size)); clear hb))
    (try simp only [Exit.inBlock, Exit.then])
    refine bodyPost_ret (results_tmp4 rfl _ _ _) rfl ?_
    exact ⟨rfl, B4.out⟩
set_option maxRecDepth 100000 in
theorem parse_elem_ok (hx : 0 ≤ x ∧ x ≤ 255) (hv : Vr u v w)
    (D : Calls Tryz.prog 43 #[.string s] w fun e w' => e = .returned (.tuple #[.string c, .string b, .bool false]) ∧ Below w.heap.size w w')
    (N1 : ∀ w, Vr u v w → Calls Tryz.prog 44 #[.string c] w fun e w' => e = .returned (.tuple #[.int .i64 x, .bool true]) ∧ Below w.heap.size w w')
    (N2 : ∀ w, Vr u v w → Calls Tryz.prog 44 #[.string b] w fun e w' => e = .returned (.tuple #[.int .i64 y, .bool true]) ∧ Below w.heap.size w w') :
    Calls Tryz.prog 17 #[.string s] w fun e w' => e = .returned (.tuple #[.int .i64 y, .int .i64 x, .bool false, .int .i64 0]) ∧ Below w.heap.size w w' := by
  have HD := Lib.hid D
  have H1 := Lib.hid N1
  have H2 := Lib.hid N2
  have HV := Lib.hid hv
  clear D N1 N2 hv
  · have DG := Lib.hid (fun w => elem_any x w)
    rw [if_pos hx] at DG
    clear hx
    go_enter Tryz.func17, Tryz.ntmps17
    go_wp2_with (first
      | (go_at_call 44; (with_reducible refine (H2.out _ V2.out).mono ?_); rintro e w3 ⟨rfl, hb⟩; have B3 := Lib.hid (B2.out.trans (hb.mono B2.out.size)); clear hb)
      | (go_at_call 44; (with_reducible refine (H1.out _ V1.out).mono ?_); rintro e w2 ⟨rfl, hb⟩; have B2 := Lib.hid (B1.out.trans (hb.mono B1.out.size)); have V2 := Lib.hid (V1.out.later hb); clear hb)
      | (go_at_call 43; (with_reducible refine HD.out.mono ?_); rintro e w1 ⟨rfl, hb⟩; have B1 := Lib.hid hb; have V1 := Lib.hid (HV.out.later hb); clear hb)
      | (go_at_call 7; (with_reducible refine (DG.out _).mono ?_); rintro e w4 ⟨cs, rfl, hb⟩; have B4 := Lib.hid (B3.out.trans (hb.mono B3.out.size)); clear hb))
    (try simp only [Exit.inBlock, Exit.then])
    refine bodyPost_ret (results_tmp4 rfl _ _ _) rfl ?_
    exact ⟨rfl, B4.out⟩
end
end Go.Proofs.YtjekpmkghpjamaaGreatDoor
namespace Go.Proofs.YtjekpmkghpjamaaGreatDoor
open Go.RowKit
theorem numl_dgt {l : List UInt8} (h : numl l = true) : l.all dgt = true := by
  unfold numl at h
  rw [Bool.and_eq_true] at h
  exact h.2
theorem numl_slash {l : List UInt8} (h : numl l = true) : 47 ∉ l := fun h2 => by
  have := List.all_eq_true.1 (numl_dgt h) 47 h2
  cases this

section
variable (u : TypeId) (v : Value)
/-- the program's Parse behind divide -/
theorem go_syn (l p q : List UInt8) (sm : Bool) (w : World) (hv : Vr u v w) (hp : p.length ≤ 1000) (hq : q.length ≤ 1000) (hpq : (numl p && numl q) = false)
    (D : Calls Tryz.prog 43 #[.string (tx l)] w fun e w' => e = .returned (.tuple #[.string (tx p), .string (tx q), .bool sm]) ∧ Below w.heap.size w w') :
    Calls Tryz.prog 17 #[.string (tx l)] w fun e w' => e = .returned (.tuple #[.int .i64 0, .int .i64 0, .bool false, .int .i64 15]) ∧ Below w.heap.size w w' :=
  parse_syn (tx l) (tx p) (tx q) _ _ u v w sm (numl p) (numl q) hpq hv D (fun w hv => number_anyW p hp u v w hv) (fun w hv => number_anyW q hq u v w hv)
theorem number_num {p : List UInt8} (hp : p.length ≤ 1000) (h : numl p = true) (w : World) (hv : Vr u v w) :
    Calls Tryz.prog 44 #[.string (tx p)] w fun e w' => e = .returned (.tuple #[.int .i64 (nv p), .bool true]) ∧ Below w.heap.size w w' := by
  have h2 := number_anyW p hp u v w hv
  rw [h] at h2
  exact h2
theorem go_w (r : List UInt8) (w : World) (hv : Vr u v w) (hr : r.length ≤ 999) (h : numl r = true) (h2 : 0 ≤ nv r ∧ nv r ≤ 255) :
    Calls Tryz.prog 17 #[.string (tx (87 :: r))] w fun e w' => e = .returned (.tuple #[.int .i64 2, .int .i64 (nv r), .bool false, .int .i64 0]) ∧ Below w.heap.size w w' :=
  parse_elem_ok (tx (87 :: r)) (tx r) (tx [50]) (nv r) 2 u v w h2 hv (divide_w r w hr) (fun w hv => number_num u v (by omega) h w hv) (fun w hv => number_num u v (p := [50]) (by decide) (by decide) w hv)
theorem go_t (a b : List UInt8) (w : World) (hv : Vr u v w) (hr : a.length + b.length + 1 ≤ 999) (ha : numl a = true) (hb : numl b = true) (h2 : der (nv b) (nv a) = 0) :
    Calls Tryz.prog 17 #[.string (tx (84 :: (a ++ 47 :: b)))] w fun e w' => e = .returned (.tuple #[.int .i64 (nv b), .int .i64 (nv a), .bool true, .int .i64 0]) ∧ Below w.heap.size w w' :=
  parse_total_ok (tx (84 :: (a ++ 47 :: b))) (tx a) (tx b) (nv a) (nv b) u v w (nv_bd a).2 h2 hv (divide_t (a ++ 47 :: b) (tx a) (tx b) true w (by simp; omega) (cut_yes b w (numl_slash ha) (by omega))) (fun w hv => number_num u v (by omega) ha w hv) (fun w hv => number_num u v (by omega) hb w hv)
end
end Go.Proofs.YtjekpmkghpjamaaGreatDoor
