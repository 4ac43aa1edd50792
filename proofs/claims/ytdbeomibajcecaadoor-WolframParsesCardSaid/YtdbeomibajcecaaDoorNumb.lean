/- The walk of wolfram's number, on any text. -/
import Derived.Test.YtdbeomibajcecaaDoorTrim
import Derived.Test.YtdbeomibajcecaaDoorAlay
import Derived.Shelf.Strconv.AtoiAll
import Derived.Lib.IfaceEq
import Derived.Laws.IdiomStrings
namespace Go.Proofs.YtdbeomibajcecaaDoor
open Go.RowKit

/-- what the walk reads of the package variables: ErrRange holds some error -/
def Vr (u : TypeId) (x : Value) (w : World) : Prop := 2 < w.heap.size ∧ w.cell? ⟨2, 0, none⟩ = some (.iface u x)
theorem Vr.later {u : TypeId} {x : Value} {w w' : World} (h : Vr u x w) (hb : Below w.heap.size w w') : Vr u x w' :=
  ⟨Nat.lt_of_lt_of_le h.1 hb.size, (hb.cell (p := ⟨2, 0, none⟩) h.1).trans h.2⟩
/-- Atoi at a numeral -/
theorem atoi_any {l : List UInt8} (h : numl l = true) (hl : l.length ≤ 1000) (u : TypeId) (x : Value) (w : World) (hv : Vr u x w) :
    Calls Tryd.prog 26 #[.string (tx l)] w fun e w' => Below w.heap.size w w' ∧ ((va 0 l ≤ big ∧ e = .returned (.tuple #[.int .i64 (va 0 l : Int), .nilIface])) ∨ (¬ va 0 l ≤ big ∧ ∃ y t g, e = .returned (.tuple #[.int .i64 y, .iface t (.pointer (some ⟨g, 0, none⟩))]))) := by
  have e1 : (tx l).data.toList = l := by simp [tx]
  by_cases hb : va 0 l ≤ big
  · refine (Any.strconv_Atoi_ok atoiLays (tx l) (by rw [tx_size]; omega) (va 0 l : Int) (by rw [e1]; exact (atoi_num h).1 hb) w).mono ?_
    rintro e w' ⟨rfl, hw⟩
    refine ⟨?_, .inl ⟨hb, rfl⟩⟩
    rcases hw with rfl | ⟨t, rfl⟩
    · exact Below.refl _ _
    · exact Lib.bytesWorld_below _ _ _
  · refine (Any.strconv_Atoi_range atoiLays (tx l) (by rw [tx_size]; omega) (by rw [e1]; exact (atoi_num h).2 hb) (.iface u x) w hv.2 (.inr ⟨u, x, rfl⟩)).mono ?_
    rintro e w' ⟨N, rfl, _, _, hbel⟩
    exact ⟨hbel, .inr ⟨hb, _, _, _, rfl⟩⟩
set_option maxRecDepth 100000 in
theorem number_zero (u : TypeId) (x : Value) (w : World) (hv : Vr u x w) :
    Calls Tryd.prog 13 #[.string (tx [48])] w fun e w' => e = .returned (.tuple #[.int .i64 0, .bool true]) ∧ Below w.heap.size w w' := by
  have T := Lib.hid (trim_any [48] w)
  rw [trim_all (by decide)] at T
  have A := fun w hv => Lib.hid (atoi_any (l := [48]) (by decide) (by decide) u x w hv)
  have HV := Lib.hid hv
  unfold tx at *
  go_enter Tryd.func13, Tryd.ntmps13
  go_wp2_with (first
    | (go_at_call 25; (with_reducible refine T.out.mono ?_); rintro e w1 ⟨rfl, hb⟩; have B1 := Lib.hid hb; have HV1 := Lib.hid (HV.out.later hb); clear hb)
    | (go_at_call 26; (with_reducible refine (A _ HV1.out).out.mono ?_); rintro e w2 ⟨hb, ⟨_, rfl⟩ | ⟨h9, _⟩⟩; rotate_left; (exact absurd (by decide) h9); have B2 := Lib.hid (B1.out.trans (hb.mono B1.out.size)); clear hb))
  go_ret2
  exact ⟨rfl, B2.out⟩
set_option maxRecDepth 100000 in
theorem number_yes {c : UInt8} {r : List UInt8} (h : numl (c :: r) = true) (hc : c.toNat ≠ 48) (hl : (c :: r).length ≤ 1000) (u : TypeId) (x : Value) (w : World) (hv : Vr u x w) :
    Calls Tryd.prog 13 #[.string (tx (c :: r))] w fun e w' => e = .returned (.tuple #[.int .i64 (nv (c :: r)), .bool true]) ∧ Below w.heap.size w w' := by
  have T := Lib.hid (trim_any (c :: r) w)
  rw [trim_all (numl_cons h).2.1] at T
  have A := fun w hv => Lib.hid (atoi_any (l := c :: r) h hl u x w hv)
  have NV := Lib.hid (show nv (c :: r) = if va 0 (c :: r) ≤ big then (va 0 (c :: r) : Int) else -1 from rfl)
  have HV := Lib.hid hv
  have hz : (0 : Int) < ((tx (c :: r)).size : Int) := by rw [tx_size]; simp
  have e0 : ((tx (c :: r)).toList == []) = false := by rw [Lib.toList_data]; simp [tx]
  have e1 : ∀ h, ((tx (c :: r))[0]'h).toNat = c.toNat := fun h => rfl
  have e2 : (((c.toNat : Nat) : Int) == 48) = false := by rw [beq_eq_false_iff_ne]; omega
  have e3 : ((tx (c :: r)).toList == [48]) = false := by
    rw [Lib.toList_data, beq_eq_false_iff_ne]
    simp only [tx]
    intro e
    injection e with e _
    exact hc (by rw [e]; rfl)
  generalize tx (c :: r) = s at T A hz e0 e1 e3 ⊢
  generalize nv (c :: r) = v at NV ⊢
  generalize va 0 (c :: r) = m at A NV
  unfold tx at T
  generalize c.toNat = cn at e1 e2
  clear h hc hl hv
  go_enter Tryd.func13, Tryd.ntmps13
  go_wp2_with (first
    | (go_at_call 25; (with_reducible refine T.out.mono ?_); rintro e w1 ⟨rfl, hb⟩; have B1 := Lib.hid hb; have HV1 := Lib.hid (HV.out.later hb); clear hb)
    | fail)
  refine (A _ HV1.out).out.mono ?_
  rintro e w2 ⟨hb, ⟨h1, rfl⟩ | ⟨h1, y, t, g, rfl⟩⟩
  · have hv : v = (m : Int) := by rw [NV.out, if_pos h1]
    subst hv
    have B2 := Lib.hid (B1.out.trans (hb.mono B1.out.size))
    clear hb
    go_wp2
    go_ret2
    exact ⟨rfl, B2.out⟩
  · have hv : v = -1 := by rw [NV.out, if_neg h1]
    subst hv
    have B2 := Lib.hid (B1.out.trans (hb.mono B1.out.size))
    clear hb
    go_wp2
    go_ret2
    exact ⟨rfl, B2.out⟩
set_option maxRecDepth 100000 in
theorem number_letters {l : List UInt8} (h : l.all dgt = false) (w : World) :
    Calls Tryd.prog 13 #[.string (tx l)] w fun e w' => e = .returned (.tuple #[.int .i64 0, .bool false]) ∧ Below w.heap.size w w' := by
  have T := Lib.hid (trim_any l w)
  obtain ⟨c, r, hr⟩ := trim_some h
  rw [hr] at T
  have e0 : ((tx (c :: r)).toList == []) = false := by rw [Lib.toList_data]; simp [tx]
  generalize tx (c :: r) = s1 at T e0
  generalize tx l = s at T ⊢
  clear h hr
  go_enter Tryd.func13, Tryd.ntmps13
  go_wp2_with (go_at_call 25; (with_reducible refine T.out.mono ?_); rintro e w1 ⟨rfl, hb⟩; have B1 := Lib.hid hb; clear hb)
  go_ret2
  exact ⟨rfl, B1.out⟩
set_option maxRecDepth 100000 in
theorem number_empty (w : World) :
    Calls Tryd.prog 13 #[.string (tx [])] w fun e w' => e = .returned (.tuple #[.int .i64 0, .bool false]) ∧ Below w.heap.size w w' := by
  have T := Lib.hid (trim_any [] w)
  rw [trim_all (by decide)] at T
  unfold tx at *
  go_enter Tryd.func13, Tryd.ntmps13
  go_wp2_with (go_at_call 25; (with_reducible refine T.out.mono ?_); rintro e w1 ⟨rfl, hb⟩; have B1 := Lib.hid hb; clear hb)
  go_ret2
  exact ⟨rfl, B1.out⟩
set_option maxRecDepth 100000 in
theorem number_lead {c d : UInt8} {r : List UInt8} (h : (c :: d :: r).all dgt = true) (hc : c.toNat = 48) (w : World) :
    Calls Tryd.prog 13 #[.string (tx (c :: d :: r))] w fun e w' => e = .returned (.tuple #[.int .i64 0, .bool false]) ∧ Below w.heap.size w w' := by
  have T := Lib.hid (trim_any (c :: d :: r) w)
  rw [trim_all h] at T
  have hz : (0 : Int) < ((tx (c :: d :: r)).size : Int) := by rw [tx_size]; simp; omega
  have e0 : ((tx (c :: d :: r)).toList == []) = false := by rw [Lib.toList_data]; simp [tx]
  have e1 : ∀ h, ((tx (c :: d :: r))[0]'h).toNat = c.toNat := fun h => rfl
  have e2 : (((c.toNat : Nat) : Int) == 48) = true := by rw [hc]; rfl
  have e3 : ((tx (c :: d :: r)).toList == [48]) = false := by
    rw [Lib.toList_data, beq_eq_false_iff_ne]
    simp [tx]
  generalize tx (c :: d :: r) = s at T hz e0 e1 e3 ⊢
  unfold tx at T
  generalize c.toNat = cn at e1 e2
  clear h hc
  go_enter Tryd.func13, Tryd.ntmps13
  go_wp2_with (go_at_call 25; (with_reducible refine T.out.mono ?_); rintro e w1 ⟨rfl, hb⟩; have B1 := Lib.hid hb; clear hb)
  go_ret2
  exact ⟨rfl, B1.out⟩
/-- number at any text -/
theorem number_any (l : List UInt8) (hl : l.length ≤ 1000) (u : TypeId) (x : Value) (w : World) (hv : Vr u x w) :
    Calls Tryd.prog 13 #[.string (tx l)] w fun e w' => e = .returned (.tuple #[.int .i64 (if numl l then nv l else 0), .bool (numl l)]) ∧ Below w.heap.size w w' := by
  cases ha : l.all dgt with
  | false =>
    have hn : numl l = false := by unfold numl; rw [ha]; simp
    rw [hn]
    exact number_letters ha w
  | true =>
    match l, hl, ha with
    | [], _, _ => exact number_empty w
    | c :: r, hl, ha =>
      by_cases hc : c.toNat = 48
      · have hc' : c = 48 := UInt8.toNat_inj.1 hc
        subst hc'
        match r, hl, ha with
        | [], _, _ => exact number_zero u x w hv
        | d :: r, hl, ha =>
          have hn : numl (48 :: d :: r) = false := by unfold numl; simp
          rw [hn]
          exact number_lead ha hc w
      · have hn : numl (c :: r) = true := by unfold numl; rw [ha]; simp [hc]
        rw [hn]
        exact number_yes hn hc hl u x w hv
end Go.Proofs.YtdbeomibajcecaaDoor
