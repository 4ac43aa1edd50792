/- The walk of From on valid cells at different positions, at every length. -/
import Derived.Test.YtobaabankhpfjaaDoorSort
import Derived.Test.YtobaabankhpfjaaDoorEx
import Derived.Lib.BitFns
namespace Go.Proofs.YtobaabankhpfjaaDoor
open Go.RowKit

/-- append of one cell onto a row of the call's own -/
theorem wpList_append3 {P : Program} {w : World} {ops : Array Oper} {rest : List Oper} {o : Oper} {a : Act} {Q : Exit → Act → World → Prop} (hgd : o.guard = none) (s x : Operand) (t : TypeId)
    (ho : o.op = .call { callee := .builtin .append, args := #[s, x], argTypes := #[t, t] })
    (base : Nat) (e : TypeId) (i : TypeInfo) (z : Value) (bytes : Nat) (ht : P.underlying t = some (.slice e)) (hi : P.info? e = some i) (hz : i.zero = some z)
    (hsize : i.size = 3) (hby : i.bytes = bytes) (hzs : z.cells.size = 3)
    (A : Option Addr) (n c : Nat) (xs : List Value) (hs : a.eval s = .slice A n c) (hown : w.ownsRow base e 3 (.slice A n c) n xs) (u v r : Value)
    (hx : a.eval x = .slice (some ⟨w.heap.size, 0, none⟩) 1 1) (h1 : u.oneCell' = true) (h2 : v.oneCell' = true) (h3 : r.oneCell' = true) (h63 : n + 1 ≤ maxLen) (hbytes : (n + 1) * bytes ≤ 140737488355328) (hbase : base ≤ w.heap.size)
    (h : ∀ g' c' w', w'.ownsRow base e 3 (.slice (some ⟨g', 0, none⟩) (n + 1) c') (n + 1) (xs ++ [u, v, r]) → Below base w w' → wpList P ops Q rest (a.put o.dst (.slice (some ⟨g', 0, none⟩) (n + 1) c')) w') :
    wpList P ops Q (o :: rest) a (w.alloc (.cells #[u, v, r] e)) := by
  refine wpList_append_own _ hgd s x t ho base e i z 3 bytes ht hi hz hsize hby hzs (by decide) _ n xs hs (hown.alloc _) ⟨w.heap.size, 0, none⟩ 1 1 [u, v, r] hx rfl ?_ ?_ h63 hbytes (by simp; omega) ?_
  · intro j y hj
    match j, hj with
    | 0, hj => simp at hj; subst hj; simp [Addr.add]
    | 1, hj => simp at hj; subst hj; simp [Addr.add]
    | 2, hj => simp at hj; subst hj; simp [Addr.add]
  · intro y hy; simp at hy; rcases hy with rfl | rfl | rfl <;> assumption
  · intro v' w' hown' hg _
    obtain ⟨g', c', hv, hg', hs'⟩ := hown'.form (by omega)
    subst hv
    refine h g' c' w' hown' (Below.grown ((Below.refl base w).alloc hbase _) hg (by simp; omega) ?_)
    intro k hk
    exact (hown.lt k hk).1

/-- the sort of no cell -/
theorem sortf_nil (w : World) :
    Calls Tryd.prog 39 #[.slice none 0 0, .func (.func 38) #[] #[]] w fun e w' => e = .returned (.tuple #[]) ∧ Below w.heap.size w w' := by
  have I : ∀ w, Calls Tryd.prog 56 #[.slice none 0 0, .int .i64 0, .int .i64 0, .func (.func 38) #[] #[]] w fun e w' => e = .returned (.tuple #[]) ∧ Below w.heap.size w w' := by
    intro w
    go_enter Tryd.func56, Tryd.ntmps56
    go_wp2
    refine wp_loop_rounds 1 ?_
    rw [rounds_succ]
    go_wp2
    go_end0
    exact ⟨rfl, Below.refl _ _⟩
  have I := Lib.hid I
  have K : ∀ (l : Nat) w, Calls Tryd.prog 47 #[.slice none 0 0, .int .i64 0, .int .i64 0, .int .i64 (l : Nat), .func (.func 38) #[] #[]] w fun e w' => e = .returned (.tuple #[]) ∧ Below w.heap.size w w' := by
    intro l w
    go_enter Tryd.func47, Tryd.ntmps47
    go_wp2
    refine wp_loop_rounds 1 ?_
    rw [rounds_succ]
    go_wp2_with (go_at_call 56; (with_reducible refine (I.out _).mono ?_); rintro e w' ⟨rfl, h1⟩; have H1 := Lib.hid h1; clear h1)
    (try simp only [Exit.inBlock, Exit.then])
    refine bodyPost_ret (results_none rfl _ _ _) rfl ?_
    exact ⟨rfl, H1.out⟩
  have K := Lib.hid K
  have B := Lib.hid (fun w => by have := bits_len 0 w (by omega); rwa [show ((0 : Nat) : Int) = 0 by rfl] at this)
  generalize Lib.bitLen 0 = l at B
  go_enter Tryd.func39, Tryd.ntmps39
  go_wp2_with (first | (go_at_call 48; (with_reducible refine (B.out _).mono ?_); rintro e w' ⟨rfl, rfl⟩) | (go_at_call 47; (with_reducible refine (K.out _ _).mono ?_); rintro e w' ⟨rfl, h1⟩; have H1 := Lib.hid h1; clear h1))
  go_end0
  exact ⟨rfl, H1.out⟩
theorem from_none (A : Option Addr) (c : Nat) (w : World) :
    Calls Tryd.prog 21 #[.slice A 0 c] w fun e w' => e = .returned (.tuple #[.slice none 0 0, .int .i64 0]) ∧ Below w.heap.size w w' := by
  have S := Lib.hid sortf_nil
  go_enter Tryd.func21, Tryd.ntmps21
  go_wp2
  refine wp_loop_rounds 1 ?_
  rw [rounds_succ]
  go_wp2_with (go_at_call 39; (with_reducible refine (S.out _).mono ?_); rintro e w5 ⟨rfl, h1⟩; have B5 := Lib.hid h1; clear h1)
  refine wp_loop_rounds 1 ?_
  rw [rounds_succ]
  go_wp2
  go_ret2
  exact ⟨rfl, B5.out⟩
set_option maxRecDepth 100000 in
set_option maxHeartbeats 2000000 in
theorem from_some (A : Option Addr) (n c : Nat) (f : Nat → C3) (w : World) (h : CReads w w.heap.size A n f) (hn0 : 0 < n) (hn : n ≤ 5000) (hex : ∀ i, i < n → ex (f i) = 0 ∧ (f i).2.2 ≠ 0) (hap : ∀ i j, i < j → j < n → cp (f i) (f j) ≠ 0) :
    Calls Tryd.prog 21 #[.slice A n c] w fun e w' => ∃ A' c' f', e = .returned (.tuple #[.slice A' n c', .int .i64 0]) ∧ CReads w' w'.heap.size A' n f' ∧ (lst f' n).Perm (lst f n) ∧ Up f' n ∧ Below w.heap.size w w' := by
  obtain ⟨i0, hi, hz0, hz1, hz2⟩ := info_parts Tryd.info_cell
  have H := Lib.hid h
  have HX := Lib.hid hex
  have HA := Lib.hid hap
  clear h hex hap
  go_enter Tryd.func21, Tryd.ntmps21
  go_wp2
  go_loopw [4, 11] (fun lv jv wr => ∃ (j : Nat) (B : Option Addr) (d : Nat), j ≤ n ∧ jv = .int .i64 (j : Int) ∧ lv = .slice B j d ∧ wr.ownsRow w.heap.size 40 3 (.slice B j d) j (cells3 f j) ∧ Below w.heap.size w wr) (fun _ jv _ => n - (intOf jv).toNat)
  case atStart => exact ⟨0, none, 0, Nat.zero_le _, rfl, rfl, World.ownsRow_nil _ _ _ _, Below.refl _ _⟩
  case round =>
    obtain ⟨j, B, d, hj, rfl, rfl, hown, hbel⟩ := hrel
    have R := H.out.below hbel
    have HB := Lib.hid hbel
    have HW := Lib.hid hown
    by_cases hjn : j < n
    · obtain ⟨g1, o1, rfl, hb1, hc1⟩ := R (by omega)
      have c1 := hc1 j hjn
      have hgw : g1 < wr.heap.size := Nat.lt_of_lt_of_le hb1 hbel.size
      have hx := HX.out j hjn
      have E := fun w => examine_any (f j) w
      rw [hx.1] at E
      have E := Lib.hid E
      have hcell : cells3 f (j + 1) = cells3 f j ++ [.int .i64 (f j).1, .int .i64 (f j).2.1, .int .i64 (f j).2.2] := rfl
      have hs := hx.2
      generalize f j = x at c1 E hs hcell
      obtain ⟨x1, x2, x3⟩ := x
      have hez : (x3 != 0) = true := by simpa using hs
      obtain ⟨c10, c11, c12⟩ := c1
      simp only at c10 c11 c12 hcell
      have HC := Lib.hid hcell
      have K7 := Lib.hid (Blk.new wr 40 #[.int .i64 x1, .int .i64 x2, .int .i64 x3])
      have B7 := Lib.hid (HB.out.alloc HB.out.size (.cells #[.int .i64 x1, .int .i64 x2, .int .i64 x3] 40))
      have BW := Lib.hid ((Below.refl wr.heap.size wr).alloc (Nat.le_refl _) (.cells #[.int .i64 x1, .int .i64 x2, .int .i64 x3] 40))
      clear hc1 R hx hbel hown hs hcell
      go_wp2_with (first
        | (go_at_call 37; (with_reducible refine (E.out _).mono ?_); rintro e w4 ⟨rfl, hb⟩; obtain ⟨k0, k1, k2, k3⟩ := (K7.out.below hb K7.out.lt).three; have B4 := Lib.hid (B7.out.trans (hb.mono B7.out.size)); have W4 := own_below3 HW.out (BW.out.trans (hb.mono BW.out.size)); have hs4 := B4.out.size; clear hb)
        | (at_builtin; refine wpList_append3 rfl _ _ 23 rfl w.heap.size 40 i0 (.agg #[.int .i64 0, .int .i64 0, .int .i64 0]) 24 Tryd.underlying23 hi hz0 hz1 hz2 rfl B j d _ rfl W4 (.int .i64 x1) (.int .i64 x2) (.int .i64 x3) rfl rfl rfl rfl (by unfold maxLen; omega) (by omega) hs4 ?_; intro g5 c5 w5 hown5 hbel5))
      go_roundw
      case rel => exact ⟨j + 1, _, c5, by omega, by go_num, rfl, by rw [HC.out]; exact hown5, B4.out.trans hbel5⟩
      case measure => simp [intOf]; omega
    · obtain rfl : j = n := by omega
      obtain ⟨g, c5, hv, hg, hs5⟩ := hown.form (by omega)
      injection hv with hv1 hv2 hv3
      subst hv1 hv3
      have hb5 := (hown.lt g rfl).1
      have S := Lib.hid (sortf_any g d j w.heap.size 40 f wr hown (by omega) HA.out)
      clear R hbel hown hjn
      go_wp2_with (go_at_call 39; (with_reducible refine S.out.mono ?_); rintro e w5 ⟨rfl, f', h1, h2, h3, h4⟩; have R5 := Lib.hid h1; have P5 := Lib.hid h2; have U5 := Lib.hid h3; have B5 := Lib.hid (HB.out.trans (h4.mono hb5)); clear h1 h2 h3 h4)
      clear hb5 hg hs5 S HW HX HA H
      go_loopw [8] (fun iv wr => ∃ i : Nat, 1 ≤ i ∧ i ≤ j ∧ iv = .int .i64 (i : Int) ∧ Below w5.heap.size w5 wr) (fun iv _ => j - (intOf iv).toNat)
      case atStart => exact ⟨1, Nat.le_refl _, hn0, rfl, Below.refl _ _⟩
      case round =>
        obtain ⟨i, hi1, hij, rfl, hbel⟩ := hrel
        have HB6 := Lib.hid hbel
        by_cases hlt : i < j
        · obtain ⟨k, hk⟩ : ∃ k, i = k + 1 := ⟨i - 1, by omega⟩
          have hkj : k < j := by omega
          have e1 : (i : Int) - 1 = (k : Int) := by omega
          have hw1 : IntKind.i64.wrap ((i : Int) - 1) = (k : Int) := by rw [e1]; exact IntWalk.i64_in _ (by omega)
          obtain ⟨g1, o1, ha, hb1, hc1⟩ := R5.out (by omega)
          injection ha with ha
          injection ha with ha1 ha2
          subst ha1 ha2
          have c1 := hc1 k hkj
          have c2 := hc1 i hlt
          have U := U5.out k i (by omega) hlt
          have hne : ¬ ((f' k).1 = (f' i).1 ∧ (f' k).2.1 = (f' i).2.1) := fun e => by rw [(cp_zero _ _).2 e] at U; omega
          obtain ⟨⟨x1, x2, x3⟩, hx⟩ : ∃ x, x = f' k := ⟨_, rfl⟩
          obtain ⟨⟨y1, y2, y3⟩, hy⟩ : ∃ y, y = f' i := ⟨_, rfl⟩
          rw [← hx] at c1 hne
          rw [← hy] at c2 hne
          simp only [Nat.zero_add] at c1 c2 hne
          have P := Lib.hid place_any
          have d0 := fun p : LowW wr.heap.size wr => LowW.cell (a := ⟨g, k * 3, none⟩) (Nat.lt_of_lt_of_le hb1 HB6.out.size) ((HB6.out.cell hb1).trans c1.1) p
          have d1 := fun p : LowW wr.heap.size wr => LowW.cell (a := ⟨g, k * 3 + 1, none⟩) (Nat.lt_of_lt_of_le hb1 HB6.out.size) ((HB6.out.cell hb1).trans c1.2.1) p
          have d2 := fun p : LowW wr.heap.size wr => LowW.cell (a := ⟨g, k * 3 + 2, none⟩) (Nat.lt_of_lt_of_le hb1 HB6.out.size) ((HB6.out.cell hb1).trans c1.2.2) p
          have q0 := fun p : LowW wr.heap.size wr => LowW.cell (a := ⟨g, i * 3, none⟩) (Nat.lt_of_lt_of_le hb1 HB6.out.size) ((HB6.out.cell hb1).trans c2.1) p
          have q1 := fun p : LowW wr.heap.size wr => LowW.cell (a := ⟨g, i * 3 + 1, none⟩) (Nat.lt_of_lt_of_le hb1 HB6.out.size) ((HB6.out.cell hb1).trans c2.2.1) p
          have q2 := fun p : LowW wr.heap.size wr => LowW.cell (a := ⟨g, i * 3 + 2, none⟩) (Nat.lt_of_lt_of_le hb1 HB6.out.size) ((HB6.out.cell hb1).trans c2.2.2) p
          (try simp only at d0 d1 d2 q0 q1 q2)
          clear c1 c2 hc1 hx hy U e1 hbel hk
          by_cases e1 : x1 = y1
          · have e2 : (x2 == y2) = false := by rw [beq_eq_false_iff_ne]; intro e; exact hne ⟨e1, e⟩
            subst e1
            clear hne
            go_wp2_with fail
            refine wp_region_low wr.heap.size wr (by kernel_rfl) (by kernel_rfl) (Below.refl _ _) ?_
            repeat (quiet_step (first | (go_at_call 40; with_reducible exact LowW.of_call _ (Nat.le_refl _) (P.out _ _ _ _))))
            refine wpQuiet_nil ?_
            rintro w6 ⟨p, rfl⟩
            have B6 := Lib.hid (HB6.out.trans (p.below.mono HB6.out.size))
            clear d0 d1 d2 q0 q1 q2 hw1
            generalize p.w = w6 at B6 ⊢
            go_wp2
            go_roundw
            case rel => exact ⟨i + 1, by omega, by omega, by go_num, B6.out⟩
            case measure => simp [intOf]; omega
          · have e1 : (x1 == y1) = false := by rw [beq_eq_false_iff_ne]; exact e1
            clear hne
            go_wp2_with fail
            refine wp_region_low wr.heap.size wr (by kernel_rfl) (by kernel_rfl) (Below.refl _ _) ?_
            repeat (quiet_step (first | (go_at_call 40; with_reducible exact LowW.of_call _ (Nat.le_refl _) (P.out _ _ _ _))))
            refine wpQuiet_nil ?_
            rintro w6 ⟨p, rfl⟩
            have B6 := Lib.hid (HB6.out.trans (p.below.mono HB6.out.size))
            clear d0 d1 d2 q0 q1 q2 hw1
            generalize p.w = w6 at B6 ⊢
            go_wp2
            go_roundw
            case rel => exact ⟨i + 1, by omega, by omega, by go_num, B6.out⟩
            case measure => simp [intOf]; omega
        · obtain rfl : i = j := by omega
          clear hbel
          go_wp2
          go_ret2
          exact ⟨_, _, f', rfl, R5.out.later HB6.out, P5.out, U5.out, B5.out.trans (HB6.out.mono B5.out.size)⟩
theorem from_any (A : Option Addr) (n c : Nat) (f : Nat → C3) (w : World) (h : CReads w w.heap.size A n f) (hn : n ≤ 5000) (hex : ∀ i, i < n → ex (f i) = 0 ∧ (f i).2.2 ≠ 0) (hap : ∀ i j, i < j → j < n → cp (f i) (f j) ≠ 0) :
    Calls Tryd.prog 21 #[.slice A n c] w fun e w' => ∃ A' c' f', e = .returned (.tuple #[.slice A' n c', .int .i64 0]) ∧ CReads w' w'.heap.size A' n f' ∧ (lst f' n).Perm (lst f n) ∧ OkL f' n ∧ Below w.heap.size w w' := by
  rcases Nat.eq_zero_or_pos n with e | e
  · subst e
    exact (from_none A c w).mono fun e w' ⟨he, hb⟩ => ⟨none, 0, f, he, CReads.nil, List.Perm.refl _, ⟨by omega, fun i hi => by omega⟩, hb⟩
  · exact (from_some A n c f w h e hn hex hap).mono fun e w' ⟨A', c', f', h1, h2, h3, h4, h5⟩ => ⟨A', c', f', h1, h2, h3, okl_of hn (all_perm (P := fun x => ex x = 0 ∧ x.2.2 ≠ 0) h3 hex) h4, h5⟩
end Go.Proofs.YtobaabankhpfjaaDoor
