/- The walk of tabletree.Tree. -/
/- The walk of the whole: TopTables. -/
import Derived.Test.YtedjjhaopohibaaGreatDoorMs
import Derived.Test.YtedjjhaopohibaaGreatDoorMm
namespace Go.Proofs.YtedjjhaopohibaaGreatDoor
open Go.RowKit

/-- what Tree answers: an error, or a valid tree that leads to the new states -/
def TrOut (T : Tab) (w : World) (e : Ending) (w' : World) : Prop :=
  (∃ er, e = .returned (.tuple #[.agg #[.int .i64 0, .slice none 0 0, .slice none 0 0], .int .i64 er]) ∧ er ≠ 0 ∧ Below w.heap.size w w') ∨
  ∃ (AI : Option Addr) (cI : Nat) (AN : Option Addr) (cN : Nat) (out : List (Int × List Int)), e = .returned (.tuple #[.agg #[.int .i64 T.st, .slice AI T.n cI, .slice AN out.length cN], .int .i64 0]) ∧ Below w.heap.size w w' ∧
    ∀ (q : Nat) (A : Option Addr) (c : Nat) (l : List Int) (w'' : World), Below w'.heap.size w' w'' → Reads w'' w''.heap.size A q (il l) → q ≤ 1000000 →
      Calls Tryz.prog 7 #[.agg #[.int .i64 T.st, .slice AI T.n cI, .slice AN out.length cN], .slice A q c] w'' fun e w3 => e = .returned (.tuple #[.int .i64 (ev T.st T.n l (((nx T l).toNat : Nat) : Int)).1, .int .i64 (ev T.st T.n l (((nx T l).toNat : Nat) : Int)).2]) ∧ Below w''.heap.size w'' w3
theorem TreeOut.form {S n : Nat} {f : Nat → P2} {V : List Int → Nat} {w w' : World} {e : Ending} (h : TreeOut S n f V w e w') : ∃ s A1 n1 c1 A2 n2 c2 er, e = .returned (.tuple #[.agg #[.int .i64 s, .slice A1 n1 c1, .slice A2 n2 c2], .int .i64 er]) ∧ Below w.heap.size w w' := by
  rcases h with ⟨er, h1, h2, h3⟩ | ⟨AI, cI, AN, cN, out, h1, h2, h3, h4, h5, h6, h7⟩
  · exact ⟨_, _, _, _, _, _, _, _, h1, h3⟩
  · exact ⟨_, _, _, _, _, _, _, _, h1, h7⟩
theorem TreeOut.set {S n : Nat} {f : Nat → P2} {V : List Int → Nat} {w0 w w' : World} {e : Ending} (h : TreeOut S n f V w e w') (hb : Below w0.heap.size w0 w) {g : Nat} (hg : g < w.heap.size) (hg0 : w0.heap.size ≤ g) (a b c : Value) : TreeOut S n f V w0 e (((w'.setCell ⟨g, 0, none⟩ a).setCell ⟨g, 1, none⟩ b).setCell ⟨g, 2, none⟩ c) := by
  rcases h with ⟨er, h1, h2, h3⟩ | ⟨AI, cI, AN, cN, out, h1, h2, h3, h4, h5, h6, h7⟩
  · exact .inl ⟨er, h1, h2, below_set3 (hb.trans (h3.mono hb.size)) hg0 a b c⟩
  · exact .inr ⟨AI, cI, AN, cN, out, h1, (h2.keep (Fr.set3 w' g a b c) (fun k hk => by subst hk; exact hg)).low hb.size, h3, h4, h5, h6, below_set3 (hb.trans (h7.mono hb.size)) hg0 a b c⟩
set_option maxRecDepth 100000 in
set_option maxHeartbeats 4000000 in
theorem tree_bad (AH : Option Addr) (cH : Nat) (AV : Option Addr) (cV : Nat) (AR : Option Addr) (cR : Nat) (T : Tab) (w : World) (hM : Mat w) (h : TR w AH AV AR T) (hb : Bd T) (ht : ¬ Rt T) :
    Calls Tryz.prog 5 #[.agg #[.int .i64 T.st, .int .i64 T.sy, .slice AH T.n cH, .slice AV T.nv cV, .slice AR T.nr cR]] w (TrOut T w) := by
  have RT := Lib.hid (fun w' (hb' : Below w.heap.size w w') => rt_any AH cH AV cV AR cR T w' (hM.below hb' hM.1) (h.later hb') hb)
  rw [rt_no ht] at RT
  clear h hb ht hM
  refine Calls.mono (R := fun e w' => e = .returned (.tuple #[.agg #[.int .i64 0, .slice none 0 0, .slice none 0 0], .int .i64 2]) ∧ Below w.heap.size w w') ?_ (fun e w' h => Or.inl ⟨2, h.1, by decide, h.2⟩)
  obtain ⟨st, ky, n, f, nv, v, nr, ri, ro⟩ := T
  simp only at *
  have K0 := (Blk.new w 26 #[.int .i64 st, .int .i64 ky, .slice AH n cH, .slice AV nv cV, .slice AR nr cR]).alloc (.cells #[.int .i64 0, .slice none 0 0, .slice none 0 0] 31)
  have K1 := Blk.new (w.alloc (.cells #[.int .i64 st, .int .i64 ky, .slice AH n cH, .slice AV nv cV, .slice AR nr cR] 26)) 31 #[.int .i64 0, .slice none 0 0, .slice none 0 0]
  rw [World.size_alloc] at K1
  have B0 := ((Below.refl w.heap.size w).alloc (Nat.le_refl _) (.cells #[.int .i64 st, .int .i64 ky, .slice AH n cH, .slice AV nv cV, .slice AR nr cR] 26)).alloc (by simp) (.cells #[.int .i64 0, .slice none 0 0, .slice none 0 0] 31)
  go_enter Tryz.func5, Tryz.ntmps5
  go_upto_region 1 with (fail)
  generalize (w.alloc (.cells #[.int .i64 st, .int .i64 ky, .slice AH n cH, .slice AV nv cV, .slice AR nr cR] 26)).alloc (.cells #[.int .i64 0, .slice none 0 0, .slice none 0 0] 31) = w0 at K0 K1 B0 ⊢
  obtain ⟨t0, t1, t2, t3, t4, t5⟩ := K0.five
  have K1 := Lib.hid K1
  have B0 := Lib.hid B0
  have hwR : w.heap.size ≤ w.heap.size + 1 := by omega
  clear K0
  go_wp2_with (go_at_call 9; (with_reducible refine (RT.out _ B0.out).mono ?_); rintro e w1 ⟨rfl, hb⟩; have B1 := Lib.hid (B0.out.trans (hb.mono B0.out.size)); have K11 := Lib.hid (K1.out.below hb K1.out.lt); obtain ⟨r0, r1, r2, r3, r4, r5, r6⟩ := K11.out.three6; clear hb)
  have KZ : Blk (((w1.setCell ⟨w.heap.size + 1, 0, none⟩ (.int .i64 0)).setCell ⟨w.heap.size + 1, 1, none⟩ (.slice none 0 0)).setCell ⟨w.heap.size + 1, 2, none⟩ (.slice none 0 0)) (w.heap.size + 1) 31 #[.int .i64 0, .slice none 0 0, .slice none 0 0] := by simpa using ((K11.out.set_ 0 (.int .i64 0)).set_ 1 (.slice none 0 0)).set_ 2 (.slice none 0 0)
  have BZ := below_set3 B1.out hwR (.int .i64 0) (.slice none 0 0) (.slice none 0 0)
  obtain ⟨y0, y1, y2, y3⟩ := KZ.three
  exact bodyPost_ret (v := .tuple #[.agg #[.int .i64 0, .slice none 0 0, .slice none 0 0], .int .i64 2]) (by simp [results, Tryz.results5, go_sem, y0, y1, y2]) rfl ⟨rfl, BZ⟩
set_option maxRecDepth 100000 in
set_option maxHeartbeats 4000000 in
theorem tree_good (AH : Option Addr) (cH : Nat) (AV : Option Addr) (cV : Nat) (AR : Option Addr) (cR : Nat) (T : Tab) (w : World) (hM : Mat w) (h : TR w AH AV AR T) (hb : Bd T) (ht : Rt T) :
    Calls Tryz.prog 5 #[.agg #[.int .i64 T.st, .int .i64 T.sy, .slice AH T.n cH, .slice AV T.nv cV, .slice AR T.nr cR]] w (TrOut T w) := by
  have RT := Lib.hid (fun w' (hb' : Below w.heap.size w w') => rt_any AH cH AV cV AR cR T w' (hM.below hb' hM.1) (h.later hb') hb)
  rw [(rt_iff T).2 ht] at RT
  obtain ⟨S, hS⟩ : ∃ S : Nat, T.st = (S : Int) := ⟨T.st.toNat, by have := ht.s1; omega⟩
  have hs1 : 2 ≤ S := by have := ht.s1; omega
  have hs2 : S ≤ 8 := by have := ht.s2; omega
  have hd := ht.hd
  have CO := Lib.hid (fun (w' : World) (hb' : Below w.heap.size w w') (hk : Blk w' w.heap.size 26 #[.int .i64 T.st, .int .i64 T.sy, .slice AH T.n cH, .slice AV T.nv cV, .slice AR T.nr cR]) =>
    show Calls Tryz.prog 10 #[.agg #[.int .i64 T.st, .int .i64 T.sy, .slice AH T.n cH, .slice AV T.nv cV, .slice AR T.nr cR], .func (.func 11) #[] #[.pointer (some ⟨w.heap.size, 0, none⟩)]] w' (TreeOut S T.n T.f (fun m => (nx T m).toNat) w') by
      rw [hS]
      rw [hS] at hk
      by_cases hsm : S ^ T.n ≤ 65536
      · refine collect_any S T.sy AH T.n cH T.f AV T.nv cV AR T.nr cR (fun m => (nx T m).toNat) 11 #[.pointer (some ⟨w.heap.size, 0, none⟩)] w' hs1 hs2 hd.1.1 hd.1.2 hsm (h.later hb').1 (enters_of Tryz.func11 (by kernel_rfl) rfl) (fun w'' A c m hb2 hr hc hst hl => ?_) (fun m hst hl => ?_) (fun l m hst hl h3 he => ?_)
        · have hst' : als T.st m = true := by rw [hS]; exact sts_als.1 hst
          have hk2 := hk.below hb2 hk.lt
          rw [← hS] at hk2
          exact tree1_any AH cH AV cV AR cR T A c w.heap.size m w'' (hM.below (hb'.trans (hb2.mono hb'.size)) hM.1) ((h.later hb').later hb2) hb ht hr hc hst' hk2
        · have hst' : als T.st m = true := by rw [hS]; exact sts_als.1 hst
          have := nx_st ht hl hst'
          show (nx T m).toNat < S
          omega
        · show (nx T m).toNat = (nx T l).toNat
          rw [nx_eqv h3 hl he]
      · exact collect_big S T.sy AH T.n cH T.f AV T.nv cV AR T.nr cR (fun m => (nx T m).toNat) 11 #[.pointer (some ⟨w.heap.size, 0, none⟩)] w' hs1 hs2 hd.1.2 hsm)
  refine Calls.mono (R := TreeOut S T.n T.f (fun m => (nx T m).toNat) w) ?_ (fun e w' h => ?_)
  · clear h hb ht hM hd
    obtain ⟨st, ky, n, f, nv, v, nr, ri, ro⟩ := T
    simp only at *
    have K0 := (Blk.new w 26 #[.int .i64 st, .int .i64 ky, .slice AH n cH, .slice AV nv cV, .slice AR nr cR]).alloc (.cells #[.int .i64 0, .slice none 0 0, .slice none 0 0] 31)
    have K1 := Blk.new (w.alloc (.cells #[.int .i64 st, .int .i64 ky, .slice AH n cH, .slice AV nv cV, .slice AR nr cR] 26)) 31 #[.int .i64 0, .slice none 0 0, .slice none 0 0]
    rw [World.size_alloc] at K1
    have B0 := ((Below.refl w.heap.size w).alloc (Nat.le_refl _) (.cells #[.int .i64 st, .int .i64 ky, .slice AH n cH, .slice AV nv cV, .slice AR nr cR] 26)).alloc (by simp) (.cells #[.int .i64 0, .slice none 0 0, .slice none 0 0] 31)
    generalize hV : (fun m => (nx ⟨st, ky, n, f, nv, v, nr, ri, ro⟩ m).toNat) = V at CO ⊢
    clear hV hS
    go_enter Tryz.func5, Tryz.ntmps5
    go_upto_region 1 with (fail)
    generalize (w.alloc (.cells #[.int .i64 st, .int .i64 ky, .slice AH n cH, .slice AV nv cV, .slice AR nr cR] 26)).alloc (.cells #[.int .i64 0, .slice none 0 0, .slice none 0 0] 31) = w0 at K0 K1 B0 ⊢
    obtain ⟨t0, t1, t2, t3, t4, t5⟩ := K0.five
    have K0 := Lib.hid K0
    have K1 := Lib.hid K1
    have B0 := Lib.hid B0
    have hwR : w.heap.size ≤ w.heap.size + 1 := by omega
    go_upto_region 3 with (go_at_call 9; (with_reducible refine (RT.out _ B0.out).mono ?_); rintro e w1 ⟨rfl, hb⟩; have B1 := Lib.hid (B0.out.trans (hb.mono B0.out.size)); have K10 := Lib.hid (K0.out.below hb K0.out.lt); have K11 := Lib.hid (K1.out.below hb K1.out.lt); obtain ⟨u0, u1, u2, u3, u4, u5⟩ := K10.out.five; have CC := Lib.hid (CO.out _ B1.out K10.out); clear hb)
    have BS := B1.out.size
    have hRl := K11.out.lt
    go_wp2_with (go_at_call 10; (with_reducible refine (CC.out).mono ?_); rintro e w2 hto; obtain ⟨s, A1, n1, c1, A2, n2, c2, er, rfl, hb2⟩ := hto.form; have TO := Lib.hid hto; have K21 := Lib.hid (K11.out.below hb2 hRl); obtain ⟨r0, r1, r2, r3, r4, r5, r6⟩ := K21.out.three6; clear hto hb2)
    have KZ : Blk (((w2.setCell ⟨w.heap.size + 1, 0, none⟩ (.int .i64 s)).setCell ⟨w.heap.size + 1, 1, none⟩ (.slice A1 n1 c1)).setCell ⟨w.heap.size + 1, 2, none⟩ (.slice A2 n2 c2)) (w.heap.size + 1) 31 #[.int .i64 s, .slice A1 n1 c1, .slice A2 n2 c2] := by simpa using ((K21.out.set_ 0 (.int .i64 s)).set_ 1 (.slice A1 n1 c1)).set_ 2 (.slice A2 n2 c2)
    obtain ⟨y0, y1, y2, y3⟩ := KZ.three
    exact bodyPost_ret (v := .tuple #[.agg #[.int .i64 s, .slice A1 n1 c1, .slice A2 n2 c2], .int .i64 er]) (by simp [results, Tryz.results5, go_sem, y0, y1, y2]) rfl (TO.out.set B1.out hRl hwR _ _ _)
  · rcases h with ⟨er, h1, h2, h3⟩ | ⟨AI, cI, AN, cN, out, h1, h2, h3, h4, h5, h6, h7⟩
    · exact Or.inl ⟨er, h1, h2, h3⟩
    · refine Or.inr ⟨AI, cI, AN, cN, out, by rw [hS]; exact h1, h7, fun q A c l w'' hb2 hr hq => ?_⟩
      rw [hS]
      exact eval_out h2 hs1 hs2 hd h3 h4 h5 h6 q A c l w'' hb2 hr hq
end Go.Proofs.YtedjjhaopohibaaGreatDoor
namespace Go.Proofs.YtedjjhaopohibaaGreatDoor
open Go.RowKit

/-- Next in all cases -/
theorem next_all (AH : Option Addr) (cH : Nat) (AV : Option Addr) (cV : Nat) (AR : Option Addr) (cR : Nat) (T : Tab) (AI : Option Addr) (q cI : Nat) (l : List Int) (w : World) (hM : Mat w) (h : TR w AH AV AR T) (hb : Bd T) (hI : Reads w w.heap.size AI q (il l)) (hc : q ≤ cI) :
    Calls Tryz.prog 6 #[.agg #[.int .i64 T.st, .int .i64 T.sy, .slice AH T.n cH, .slice AV T.nv cV, .slice AR T.nr cR], .slice AI q cI] w fun e w' => ∃ y fe : Int, e = .returned (.tuple #[.int .i64 y, .int .i64 fe]) ∧ Below w.heap.size w w' ∧ (fe = 0 → Rt T ∧ q = T.n ∧ als T.st l = true ∧ y = nx T l) := by
  by_cases ht : Rt T
  · by_cases hq : q = T.n
    · subst hq
      cases ha : als T.st l with
      | true => exact (next_ok AH cH AV cV AR cR T AI cI l w hM h hb ht hI hc ha).mono fun e w' h => ⟨_, _, h.1, h.2, fun _ => ⟨ht, rfl, rfl, rfl⟩⟩
      | false => exact (next_state AH cH AV cV AR cR T AI cI l w hM h hb ht hI ha).mono fun e w' h => ⟨_, _, h.1, h.2, fun e => absurd e (by decide)⟩
    · exact (next_len AH cH AV cV AR cR T AI q cI w hM h hb ht hq).mono fun e w' h => ⟨_, _, h.1, h.2, fun e => absurd e (by decide)⟩
  · exact (next_bad AH cH AV cV AR cR T AI q cI w hM h hb ht).mono fun e w' h => ⟨_, _, h.1, h.2, fun e => absurd e (by decide)⟩
/-- Tree in all cases -/
theorem tree_all (AH : Option Addr) (cH : Nat) (AV : Option Addr) (cV : Nat) (AR : Option Addr) (cR : Nat) (T : Tab) (w : World) (hM : Mat w) (h : TR w AH AV AR T) (hb : Bd T) :
    Calls Tryz.prog 5 #[.agg #[.int .i64 T.st, .int .i64 T.sy, .slice AH T.n cH, .slice AV T.nv cV, .slice AR T.nr cR]] w fun e w' => ∃ (s : Int) (A1 : Option Addr) (n1 c1 : Nat) (A2 : Option Addr) (n2 c2 : Nat) (er : Int), e = .returned (.tuple #[.agg #[.int .i64 s, .slice A1 n1 c1, .slice A2 n2 c2], .int .i64 er]) ∧ Below w.heap.size w w' ∧
      (er = 0 → ∀ (q : Nat) (A : Option Addr) (c : Nat) (l : List Int) (w'' : World), Below w'.heap.size w' w'' → Reads w'' w''.heap.size A q (il l) → q ≤ 1000000 →
      Calls Tryz.prog 7 #[.agg #[.int .i64 s, .slice A1 n1 c1, .slice A2 n2 c2], .slice A q c] w'' fun e w3 => e = .returned (.tuple #[.int .i64 (ev T.st T.n l (((nx T l).toNat : Nat) : Int)).1, .int .i64 (ev T.st T.n l (((nx T l).toNat : Nat) : Int)).2]) ∧ Below w''.heap.size w'' w3) := by
  have h : Calls Tryz.prog 5 #[.agg #[.int .i64 T.st, .int .i64 T.sy, .slice AH T.n cH, .slice AV T.nv cV, .slice AR T.nr cR]] w (TrOut T w) := by
    by_cases ht : Rt T
    · exact tree_good AH cH AV cV AR cR T w hM h hb ht
    · exact tree_bad AH cH AV cV AR cR T w hM h hb ht
  refine h.mono fun e w' h => ?_
  rcases h with ⟨er, h1, h2, h3⟩ | ⟨AI, cI, AN, cN, out, h1, h2, h3⟩
  · exact ⟨_, _, _, _, _, _, _, _, h1, h3, fun e => absurd e h2⟩
  · exact ⟨_, _, _, _, _, _, _, _, h1, h2, fun _ => h3⟩
section
variable (AH : Option Addr) (cH : Nat) (AV : Option Addr) (cV : Nat) (AR : Option Addr) (cR : Nat) (T : Tab) (AI : Option Addr) (q cI : Nat) (l : List Int) (w : World)
set_option maxRecDepth 100000 in
set_option maxHeartbeats 4000000 in
theorem law_big (hn : ¬ (T.nr ≤ 20 ∧ T.n ≤ 9 ∧ q ≤ 30 ∧ T.nv ≤ 20)) :
    Calls Tryz.prog 3 #[.agg #[.int .i64 T.st, .int .i64 T.sy, .slice AH T.n cH, .slice AV T.nv cV, .slice AR T.nr cR], .slice AI q cI] w fun e w' => e = .returned (.bool true) ∧ Below w.heap.size w w' := by
  obtain ⟨st, ky, n, f, nv, v, nr, ri, ro⟩ := T
  simp only at *
  have B0 := (Below.refl w.heap.size w).alloc (Nat.le_refl _) (.cells #[.int .i64 st, .int .i64 ky, .slice AH n cH, .slice AV nv cV, .slice AR nr cR] 26)
  have K0 := Blk.new w 26 #[.int .i64 st, .int .i64 ky, .slice AH n cH, .slice AV nv cV, .slice AR nr cR]
  go_enter Tryz.func3, Tryz.ntmps3
  go_upto_region 1 with (fail)
  generalize w.alloc (.cells #[.int .i64 st, .int .i64 ky, .slice AH n cH, .slice AV nv cV, .slice AR nr cR] 26) = w0 at K0 B0 ⊢
  obtain ⟨t0, t1, t2, t3, t4, t5⟩ := K0.five
  have B0 := Lib.hid B0
  clear K0
  by_cases a1 : nr ≤ 20
  · have d1 : decide (20 < (nr : Int)) = false := by rw [decide_eq_false_iff_not]; omega
    by_cases a2 : n ≤ 9
    · have d2 : decide (9 < (n : Int)) = false := by rw [decide_eq_false_iff_not]; omega
      by_cases a3 : q ≤ 30
      · have d3 : decide (30 < (q : Int)) = false := by rw [decide_eq_false_iff_not]; omega
        have d4 : decide (20 < (nv : Int)) = true := by rw [decide_eq_true_iff]; omega
        clear hn
        go_wp2_with (go_at_call 4; (with_reducible refine (awake_any _).mono ?_); rintro e w1 ⟨rfl, hb⟩; have B1 := Lib.hid (B0.out.trans (hb.mono B0.out.size)); clear hb)
        go_ret
        exact ⟨rfl, B1.out⟩
      · have d3 : decide (30 < (q : Int)) = true := by rw [decide_eq_true_iff]; omega
        clear hn
        go_wp2_with (go_at_call 4; (with_reducible refine (awake_any _).mono ?_); rintro e w1 ⟨rfl, hb⟩; have B1 := Lib.hid (B0.out.trans (hb.mono B0.out.size)); clear hb)
        go_ret
        exact ⟨rfl, B1.out⟩
    · have d2 : decide (9 < (n : Int)) = true := by rw [decide_eq_true_iff]; omega
      clear hn
      go_wp2_with (go_at_call 4; (with_reducible refine (awake_any _).mono ?_); rintro e w1 ⟨rfl, hb⟩; have B1 := Lib.hid (B0.out.trans (hb.mono B0.out.size)); clear hb)
      go_ret
      exact ⟨rfl, B1.out⟩
  · have d1 : decide (20 < (nr : Int)) = true := by rw [decide_eq_true_iff]; omega
    clear hn
    go_wp2_with (go_at_call 4; (with_reducible refine (awake_any _).mono ?_); rintro e w1 ⟨rfl, hb⟩; have B1 := Lib.hid (B0.out.trans (hb.mono B0.out.size)); clear hb)
    go_ret
    exact ⟨rfl, B1.out⟩
set_option maxRecDepth 100000 in
set_option maxHeartbeats 4000000 in
theorem law_small (hn : T.nr ≤ 20 ∧ T.n ≤ 9 ∧ q ≤ 30 ∧ T.nv ≤ 20) (hM : Mat w) (h : TR w AH AV AR T) (hb : Bd T) (hI : Reads w w.heap.size AI q (il l)) (hc : q ≤ cI) :
    Calls Tryz.prog 3 #[.agg #[.int .i64 T.st, .int .i64 T.sy, .slice AH T.n cH, .slice AV T.nv cV, .slice AR T.nr cR], .slice AI q cI] w fun e w' => e = .returned (.bool true) ∧ Below w.heap.size w w' := by
  have TA := Lib.hid (fun w' (hb' : Below w.heap.size w w') => tree_all AH cH AV cV AR cR T w' (hM.below hb' hM.1) (h.later hb') hb)
  have NA := Lib.hid (fun w' (hb' : Below w.heap.size w w') => next_all AH cH AV cV AR cR T AI q cI l w' (hM.below hb' hM.1) (h.later hb') hb (hI.later hb') hc)
  have HI := Lib.hid (fun w' (hb' : Below w.heap.size w w') => hI.later hb')
  have HL := Lib.hid (reads_len hI)
  have NS := Lib.hid (fun (ht : Rt T) (hl : l.length = T.n) hs => nx_st ht hl hs)
  clear hM h hb hI hc
  obtain ⟨a1, a2, a3, a4⟩ := hn
  have d1 : decide (20 < (T.nr : Int)) = false := by rw [decide_eq_false_iff_not]; omega
  have d2 : decide (9 < (T.n : Int)) = false := by rw [decide_eq_false_iff_not]; omega
  have d3 : decide (30 < (q : Int)) = false := by rw [decide_eq_false_iff_not]; omega
  have d4 : decide (20 < (T.nv : Int)) = false := by rw [decide_eq_false_iff_not]; omega
  have B0 := (Below.refl w.heap.size w).alloc (Nat.le_refl _) (.cells #[.int .i64 T.st, .int .i64 T.sy, .slice AH T.n cH, .slice AV T.nv cV, .slice AR T.nr cR] 26)
  have K0 := Blk.new w 26 #[.int .i64 T.st, .int .i64 T.sy, .slice AH T.n cH, .slice AV T.nv cV, .slice AR T.nr cR]
  go_enter Tryz.func3, Tryz.ntmps3
  go_upto_region 1 with (fail)
  generalize w.alloc (.cells #[.int .i64 T.st, .int .i64 T.sy, .slice AH T.n cH, .slice AV T.nv cV, .slice AR T.nr cR] 26) = w0 at K0 B0 ⊢
  obtain ⟨t0, t1, t2, t3, t4, t5⟩ := K0.five
  have K0 := Lib.hid K0
  have B0 := Lib.hid B0
  go_upto_region 5 with (first
    | (go_at_call 5; (with_reducible refine (TA.out _ B0.out).mono ?_); rintro e w1 ⟨s, A1, n1, c1, A2, n2, c2, er, rfl, hb, hev⟩; have B1 := Lib.hid ((B0.out.trans (hb.mono B0.out.size)).alloc (Nat.le_trans B0.out.size hb.size) (.cells #[.int .i64 s, .slice A1 n1 c1, .slice A2 n2 c2] 31)); have K1 := Lib.hid ((K0.out.below hb K0.out.lt).alloc (.cells #[.int .i64 s, .slice A1 n1 c1, .slice A2 n2 c2] 31)); have T1 := Lib.hid (Blk.new w1 31 #[.int .i64 s, .slice A1 n1 c1, .slice A2 n2 c2]); obtain ⟨u0, u1, u2, u3, u4, u5⟩ := (K0.out.below hb K0.out.lt).five; have EV := Lib.hid hev; have N1 := Lib.hid (NA.out _ B1.out); clear hb hev)
    | (go_at_call 6; (with_reducible refine (N1.out).mono ?_); rintro e w2 ⟨y, fe, rfl, hb, hnx⟩; have B2 := Lib.hid (B1.out.trans (hb.mono B1.out.size)); have B12 := Lib.hid (show Below w1.heap.size w1 w2 from ((Below.refl _ _).alloc (Nat.le_refl _) _).trans (hb.mono (by simp))); have T2 := Lib.hid (T1.out.below hb T1.out.lt); obtain ⟨v0, v1, v2, v3⟩ := T2.out.three; have HN := Lib.hid hnx; clear hb hnx))
  by_cases e1 : er = 0
  · subst e1
    by_cases e2 : fe = 0
    · subst e2
      obtain ⟨ht, hq, ha, hy⟩ := HN.out rfl
      have E2 := EV.out rfl q AI cI l w2 B12.out (HI.out w2 B2.out) (by omega)
      have hl := HL.out
      have hns := NS.out ht (hl.trans hq) ha
      have ee : (((nx T l).toNat : Nat) : Int) = nx T l := by omega
      rw [ev, if_pos (hl.trans hq), if_pos ha, ee, ← hy] at E2
      have E2 := Lib.hid E2
      clear ht hq ha hy hns ee
      go_wp2_with (first
        | (go_at_call 7; (with_reducible refine (E2.out).mono ?_); rintro e w3 ⟨rfl, hb⟩; have B3 := Lib.hid (B2.out.trans (hb.mono B2.out.size)); clear hb)
        | (go_at_call 4; (with_reducible refine (awake_any _).mono ?_); rintro e w4 ⟨rfl, hb⟩; have B4 := Lib.hid (B3.out.trans (hb.mono B3.out.size)); clear hb))
      go_ret
      exact ⟨rfl, B4.out⟩
    · have f2 : (fe != 0) = true := by rw [bne_iff_ne]; exact e2
      go_wp2_with (go_at_call 4; (with_reducible refine (awake_any _).mono ?_); rintro e w3 ⟨rfl, hb⟩; have B3 := Lib.hid (B2.out.trans (hb.mono B2.out.size)); clear hb)
      go_ret
      exact ⟨rfl, B3.out⟩
  · have f1 : (er != 0) = true := by rw [bne_iff_ne]; exact e1
    go_wp2_with (go_at_call 4; (with_reducible refine (awake_any _).mono ?_); rintro e w3 ⟨rfl, hb⟩; have B3 := Lib.hid (B2.out.trans (hb.mono B2.out.size)); clear hb)
    go_ret
    exact ⟨rfl, B3.out⟩
end
end Go.Proofs.YtedjjhaopohibaaGreatDoor
