/- The walk of Shift at displacements from -2097152 to 2097152. -/
import Derived.Test.YtobaabankhpfjaaDoorRight
import Derived.Test.YtobaabankhpfjaaDoorMath
import Derived.OwnWalk
namespace Go.Proofs.YtobaabankhpfjaaDoor
open Go.RowKit

theorem Tryd.info_cell : (Tryd.prog.info? 40).map (fun i => (i.zero, i.size, i.bytes)) = some (some (.agg #[.int .i64 0, .int .i64 0, .int .i64 0]), 3, 24) := by kernel_rfl

/-- the cells of the first n elements of a list -/
def cells3 (f : Nat → C3) : Nat → List Value
  | 0 => []
  | n + 1 => cells3 f n ++ [.int .i64 (f n).1, .int .i64 (f n).2.1, .int .i64 (f n).2.2]
theorem cells3_len (f : Nat → C3) (n : Nat) : (cells3 f n).length = n * 3 := by
  induction n with
  | zero => rfl
  | succ n ih => simp [cells3, ih]; omega
theorem cells3_at (f : Nat → C3) (n k : Nat) (hk : k < n) : (cells3 f n)[k * 3]? = some (.int .i64 (f k).1) ∧ (cells3 f n)[k * 3 + 1]? = some (.int .i64 (f k).2.1) ∧ (cells3 f n)[k * 3 + 2]? = some (.int .i64 (f k).2.2) := by
  induction n with
  | zero => omega
  | succ n ih =>
    by_cases h : k < n
    · have hl := cells3_len f n
      rw [cells3, List.getElem?_append_left (by omega), List.getElem?_append_left (by omega), List.getElem?_append_left (by omega)]
      exact ih h
    · obtain rfl : k = n := by omega
      have hl := cells3_len f k
      rw [cells3, List.getElem?_append_right (by omega), List.getElem?_append_right (by omega), List.getElem?_append_right (by omega), hl]
      simp
theorem CReads.of_own {w : World} {base g n c : Nat} {e : TypeId} {f : Nat → C3} (h : w.ownsRow base e 3 (.slice (some ⟨g, 0, none⟩) n c) n (cells3 f n)) : CReads w w.heap.size (some ⟨g, 0, none⟩) n f := fun _ => by
  refine ⟨g, 0, rfl, (h.lt g rfl).2, fun k hk => ?_⟩
  have hl := cells3_len f n
  obtain ⟨c1, c2, c3⟩ := cells3_at f n k hk
  simp only [Nat.zero_add]
  refine ⟨?_, ?_, ?_⟩
  · rw [h.cellAt (k * 3) (by omega), c1]
  · rw [h.cellAt (k * 3 + 1) (by omega), c2]
  · rw [h.cellAt (k * 3 + 2) (by omega), c3]

/-- append of one cell within the capacity of a row of the call's own -/
theorem wpList_fit3 {P : Program} {w : World} {ops : Array Oper} {rest : List Oper} {o : Oper} {a : Act} {Q : Exit → Act → World → Prop} (hgd : o.guard = none) (s x : Operand) (t : TypeId)
    (ho : o.op = .call { callee := .builtin .append, args := #[s, x], argTypes := #[t, t] })
    (base : Nat) (e : TypeId) (i : TypeInfo) (ht : P.underlying t = some (.slice e)) (hi : P.info? e = some i) (hsize : i.size = 3)
    (g k cap : Nat) (xs : List Value) (hs : a.eval s = .slice (some ⟨g, 0, none⟩) k cap) (hown : w.ownsRow base e 3 (.slice (some ⟨g, 0, none⟩) k cap) k xs) (u v z : Value)
    (hx : a.eval x = .slice (some ⟨w.heap.size, 0, none⟩) 1 1) (h1 : u.oneCell' = true) (h2 : v.oneCell' = true) (h3 : z.oneCell' = true) (hk : k + 1 ≤ cap) (hbase : base ≤ w.heap.size)
    (h : ∀ w', w'.ownsRow base e 3 (.slice (some ⟨g, 0, none⟩) (k + 1) cap) (k + 1) (xs ++ [u, v, z]) → Below base w w' → wpList P ops Q rest (a.put o.dst (.slice (some ⟨g, 0, none⟩) (k + 1) cap)) w') :
    wpList P ops Q (o :: rest) a (w.alloc (.cells #[u, v, z] e)) := by
  refine wpList_append_fits _ hgd s x t ho base e i 3 ht hi hsize g k cap xs hs (hown.alloc _) ⟨w.heap.size, 0, none⟩ 1 1 [u, v, z] hx rfl ?_ ?_ hk ?_
  · intro j y hj
    match j, hj with
    | 0, hj => simp at hj; subst hj; simp [Addr.add]
    | 1, hj => simp at hj; subst hj; simp [Addr.add]
    | 2, hj => simp at hj; subst hj; simp [Addr.add]
  · intro y hy; simp at hy; rcases hy with rfl | rfl | rfl <;> assumption
  · intro w' hown' hg
    exact h w' hown' (Below.grown ((Below.refl base w).alloc hbase _) hg (by simp; omega) (fun k hk => by obtain rfl := Option.some.inj hk; exact (hown.lt g rfl).1))

theorem own_below3 {w w' : World} {base : Nat} {e : TypeId} {v : Value} {n : Nat} {xs : List Value} (h : w.ownsRow base e 3 v n xs) (hb : Below w.heap.size w w') : w'.ownsRow base e 3 v n xs := by
  refine ⟨h.1, ?_⟩
  rcases h.2 with hn | ⟨g, cap, cur, rfl, hb', hg, rest⟩
  · exact .inl hn
  · refine .inr ⟨g, cap, cur, rfl, hb', ?_, rest⟩
    rw [hb.block g (Array.getElem?_eq_some_iff.1 hg).1]; exact hg

section
variable (A : Option Addr) (n c : Nat) (f : Nat → C3) (dx dy : Int) (w : World)
theorem shift_bad (h : CReads w w.heap.size A n f) (hn : n ≤ 1000000) (hok : ¬ OkL f n) :
    Calls Tryd.prog 10 #[.slice A n c, .int .i64 dx, .int .i64 dy] w fun e w' => e = .returned (.tuple #[.slice none 0 0, .int .i64 2]) ∧ Below w.heap.size w w' := by
  have R := pright_any A n c f w h hn
  rw [decide_eq_false hok] at R
  have R := Lib.hid R
  clear h hok
  go_enter Tryd.func10, Tryd.ntmps10
  go_wp2_with (go_at_call 19; (with_reducible refine R.out.mono ?_); rintro e w1 ⟨rfl, hb⟩; have B1 := Lib.hid hb; clear hb)
  go_ret2
  exact ⟨rfl, B1.out⟩

set_option maxRecDepth 100000 in
set_option maxHeartbeats 2000000 in
/-- the first k moved cells are at valid positions; the next one, if any, is not -/
theorem shift_by (h : CReads w w.heap.size A n f) (hok : OkL f n) (x1 : -2097152 ≤ dx) (x2 : dx ≤ 2097152) (y1 : -2097152 ≤ dy) (y2 : dy ≤ 2097152)
    (k : Nat) (hk : k ≤ n) (h1 : ∀ i, i < k → OkP (mv dx dy f i)) (h2 : k < n → ¬ OkP (mv dx dy f k)) :
    Calls Tryd.prog 10 #[.slice A n c, .int .i64 dx, .int .i64 dy] w fun e w' =>
      (k < n ∧ e = .returned (.tuple #[.slice none 0 0, .int .i64 5]) ∨ k = n ∧ ∃ g, e = .returned (.tuple #[.slice (some ⟨g, 0, none⟩) n n, .int .i64 0]) ∧ CReads w' w'.heap.size (some ⟨g, 0, none⟩) n (mv dx dy f)) ∧ Below w.heap.size w w' := by
  obtain ⟨i0, hi, hz0, hz1, hz2⟩ := info_parts Tryd.info_cell
  have R := pright_any A n c f w h (by have := hok.1; omega)
  rw [decide_eq_true hok] at R
  have R := Lib.hid R
  have HN := hok.1
  have HO := Lib.hid hok.2
  have V1 := Lib.hid (fun w => vshift_yes dx w x1 x2)
  have V2 := Lib.hid (fun w => vshift_yes dy w y1 y2)
  have H := Lib.hid h
  have H1 := Lib.hid h1
  have H2 := Lib.hid h2
  clear h h1 h2 hok
  go_enter Tryd.func10, Tryd.ntmps10
  go_wp2_with (first
    | (go_at_call 19; (with_reducible refine R.out.mono ?_); rintro e w1 ⟨rfl, hb⟩; have B1 := Lib.hid hb; clear hb)
    | (go_at_call 24; (with_reducible refine (V1.out _).mono ?_); rintro e w2 ⟨rfl, rfl⟩)
    | (go_at_call 24; (with_reducible refine (V2.out _).mono ?_); rintro e w2 ⟨rfl, rfl⟩)
    | (at_make; refine wpList_make_own _ rfl _ _ 23 rfl w.heap.size 40 i0 (.agg #[.int .i64 0, .int .i64 0, .int .i64 0]) 3 Tryd.underlying23 hi hz0 hz1 .i64 .i64 _ n rfl rfl (by omega) (by rw [hz2]; omega) (by unfold maxLen; omega) B1.out.size ?_; intro w3 hown3 hgrow3; have B3 := Lib.hid (B1.out.grown hgrow3 B1.out.size (fun k hk => by cases hk)); clear hgrow3))
  obtain ⟨g, hg⟩ : ∃ g, g = w1.heap.size := ⟨_, rfl⟩
  rw [← hg] at hown3 ⊢
  clear hg R B1
  go_loopw [8, 27] (fun lv jv wr => ∃ j : Nat, j ≤ k ∧ jv = .int .i64 (j : Int) ∧ lv = .slice (some ⟨g, 0, none⟩) j n ∧ wr.ownsRow w.heap.size 40 3 (.slice (some ⟨g, 0, none⟩) j n) j (cells3 (mv dx dy f) j) ∧ Below w.heap.size w wr) (fun _ jv _ => n - (intOf jv).toNat)
  case atStart => exact ⟨0, Nat.zero_le _, rfl, rfl, hown3, B3.out⟩
  case round =>
    obtain ⟨j, hj, rfl, rfl, hown, hbel⟩ := hrel
    have R := H.out.below hbel
    have HB := Lib.hid hbel
    have HW := Lib.hid hown
    by_cases hjn : j < n
    · obtain ⟨g1, o1, rfl, hb1, hc1⟩ := R (by omega)
      have c1 := hc1 j hjn
      have hgw : g1 < wr.heap.size := Nat.lt_of_lt_of_le hb1 hbel.size
      have hx0 := (HO.out j hjn).1
      have hpk : OkP (f j) := by
        unfold ex at hx0
        by_cases h : OkP (f j)
        · exact h
        · rw [if_pos h] at hx0; cases hx0
      have V := fun w => vplace_any (mv dx dy f j) w
      have H1j := fun h => H1.out j h
      have H2j := fun (h : j = k) => H2.out (by omega)
      obtain ⟨⟨x, y, s⟩, hx⟩ : ∃ x, x = f j := ⟨_, rfl⟩
      have hmv : mv dx dy f j = (x + dx, y + dy, s) := by unfold mv; rw [← hx]
      rw [hmv] at V
      rw [← hx] at c1 hpk
      obtain ⟨p1, p2, p3, p4⟩ := hpk
      obtain ⟨c10, c11, c12⟩ := c1
      simp only at p1 p2 p3 p4 c10 c11 c12
      have HMV := Lib.hid hmv
      have K7 := Lib.hid (Blk.new wr 40 #[.int .i64 (x + dx), .int .i64 (y + dy), .int .i64 s])
      have B7 := Lib.hid (HB.out.alloc HB.out.size (.cells #[.int .i64 (x + dx), .int .i64 (y + dy), .int .i64 s] 40))
      have BW := Lib.hid ((Below.refl wr.heap.size wr).alloc (Nat.le_refl _) (.cells #[.int .i64 (x + dx), .int .i64 (y + dy), .int .i64 s] 40))
      clear hc1 R hx0 hbel hown hx hmv
      by_cases hp : OkP (x + dx, y + dy, s)
      · rw [decide_eq_true hp] at V
        have V := Lib.hid V
        have hk1 : j + 1 ≤ k := by
          rcases Nat.lt_or_ge j k with h | h
          · exact h
          · exact absurd hp (by have := H2j (by omega); rw [show k = j by omega, HMV.out] at this; exact this)
        have hj5 : j + 1 ≤ n := by omega
        clear hp H1j H2j
        go_wp2_with (first
          | (go_at_call 25; (with_reducible refine (V.out _).mono ?_); rintro e w4 ⟨rfl, hb⟩; obtain ⟨k0, k1, k2, k3⟩ := (K7.out.below hb K7.out.lt).three; have B4 := Lib.hid (B7.out.trans (hb.mono B7.out.size)); have W4 := own_below3 HW.out (BW.out.trans (hb.mono BW.out.size)); have hs4 := B4.out.size; clear hb)
          | (at_builtin; refine wpList_fit3 rfl _ _ 23 rfl w.heap.size 40 i0 Tryd.underlying23 hi hz1 g j n _ rfl W4 (.int .i64 (x + dx)) (.int .i64 (y + dy)) (.int .i64 s) rfl rfl rfl rfl hj5 hs4 ?_; intro w5 hown5 hbel5))
        go_roundw
        case rel => exact ⟨j + 1, hk1, by go_num, rfl, by rw [cells3, HMV.out]; exact hown5, B4.out.trans hbel5⟩
        case measure => simp [intOf]; omega
      · rw [decide_eq_false hp] at V
        have V := Lib.hid V
        have hk1 : j = k := by
          rcases Nat.lt_or_ge j k with h | h
          · exact absurd (by have := H1j h; rw [HMV.out] at this; exact this) hp
          · omega
        have HK := Lib.hid hk1
        clear hp H1j H2j hk1
        go_wp2_with (go_at_call 25; (with_reducible refine (V.out _).mono ?_); rintro e w4 ⟨rfl, hb⟩; have B4 := Lib.hid (B7.out.trans (hb.mono B7.out.size)); clear hb)
        go_ret2
        exact ⟨Or.inl ⟨by have := HK.out; omega, rfl⟩, B4.out⟩
    · obtain rfl : j = k := by omega
      have HJ := Lib.hid (show j = n by omega)
      clear R hbel hown
      go_wp2
      go_ret2
      have hj := HJ.out
      subst hj
      exact ⟨Or.inr ⟨rfl, g, rfl, CReads.of_own HW.out⟩, HB.out⟩
end
end Go.Proofs.YtobaabankhpfjaaDoor
