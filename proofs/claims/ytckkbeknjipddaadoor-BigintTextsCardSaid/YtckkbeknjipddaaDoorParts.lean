/- The walk of the reference's parts: long division bit by bit. -/
import Derived.Test.YtckkbeknjipddaaDoorBits
import Derived.Test.YtckkbeknjipddaaDoorDiv
namespace Go.Proofs.YtckkbeknjipddaaDoor
open Go.RowKit

def bits8 (d : Nat) : List Nat := [d % 2, d / 2 % 2, d / 4 % 2, d / 8 % 2, d / 16 % 2, d / 32 % 2, d / 64 % 2, d / 128 % 2]
def bitsOf : List Nat → List Nat
  | [] => []
  | d :: l => bits8 d ++ bitsOf l
theorem bitsOf_len (l : List Nat) : (bitsOf l).length = 8 * l.length := by
  induction l with
  | nil => rfl
  | cons d l ih => simp only [bitsOf, List.length_append, ih, List.length_cons, bits8, List.length_nil]; omega
theorem bitsOf_val {l : List Nat} (hl : ∀ d ∈ l, d < 256) : val 2 (bitsOf l) = val 256 l := by
  induction l with
  | nil => rfl
  | cons d l ih =>
    have hd := hl d (List.mem_cons_self ..)
    rw [bitsOf, val_append, ih (fun x hx => hl x (List.mem_cons_of_mem _ hx)), val]
    have h8 : (2 : Nat) ^ (bits8 d).length = 256 := by simp [bits8]
    rw [h8]
    congr 1
    simp only [bits8, val]
    omega
theorem bitsOf_at (l : List Nat) (i : Nat) (hi : i < 8 * l.length) : (bitsOf l)[i]? = some (bitL l i) := by
  induction l generalizing i with
  | nil => simp at hi
  | cons d l ih =>
    unfold bitsOf
    by_cases h8 : i < 8
    · rw [List.getElem?_append_left (by simp [bits8]; omega)]
      have e1 : i / 8 = 0 := by omega
      have e2 : i % 8 = i := by omega
      unfold bitL
      rw [e1, e2]
      simp only [List.getD_cons_zero]
      match i, h8 with
      | 0, _ => simp [bits8]
      | 1, _ => simp [bits8]
      | 2, _ => simp [bits8]
      | 3, _ => simp [bits8]
      | 4, _ => simp [bits8]
      | 5, _ => simp [bits8]
      | 6, _ => simp [bits8]
      | 7, _ => simp [bits8]
    · rw [List.getElem?_append_right (by simp [bits8]; omega)]
      have e0 : (bits8 d).length = 8 := rfl
      rw [e0, ih (i - 8) (by simp at hi; omega)]
      unfold bitL
      have e1 : i / 8 = (i - 8) / 8 + 1 := by omega
      have e2 : (i - 8) % 8 = i % 8 := by omega
      rw [e1, e2, List.getD_cons_succ]
theorem ints_set (l : List Nat) (k d : Nat) : (ints l).set k (.int .i64 (d : Nat)) = ints (l.set k d) := by
  simp [ints, List.map_set]
theorem getD_set' (l : List Nat) (i j v : Nat) (hne : i ≠ j) : (l.set i v).getD j 0 = l.getD j 0 := by
  simp [List.getD, List.getElem?_set, hne]
theorem ints_at' (l : List Nat) (k : Nat) (h : k < l.length) : (ints l)[k]? = some (.int .i64 (l.getD k 0 : Nat)) := by
  simp [ints, List.getD, h]

set_option maxRecDepth 100000 in
set_option maxHeartbeats 1000000 in
theorem parts_any (A : Option Addr) (n c B y : Nat) (xs : List Nat) (w : World) (h : Reads w B A n (ints xs)) (hB : B ≤ w.heap.size) (hn : n ≤ 300) (hx : ∀ d ∈ xs, d < 256) (hy : 0 < y) (hy2 : y < 4294967296) :
    Calls Tryd.prog 30 #[.slice A n c, .int .u64 (y : Nat)] w fun e w' => ∃ A' m c' L r, e = .returned (.tuple #[.slice A' m c', .int .u64 (r : Nat)]) ∧ m ≤ c' ∧ m ≤ 300 ∧ Reads w' w'.heap.size A' m (ints L) ∧ Can 256 L ∧
      val 256 L = val 256 xs / y ∧ r = val 256 xs % y ∧ Below w.heap.size w w' := by
  have HL := Lib.hid (ints_len h)
  obtain ⟨i0, hi, hz0, hz1, hz2⟩ := info_parts Tryd.info_int2
  go_enter Tryd.func30, Tryd.ntmps30
  go_wp2
  go_loopw [6, 7] (fun ov iv wr => ∃ (i : Nat) (A2 : Option Addr) (c2 : Nat), i ≤ 8 * n ∧ iv = .int .i64 i ∧ ov = .slice A2 i c2 ∧ wr.ownsRow w.heap.size 3 1 (.slice A2 i c2) i (ints (List.replicate i 0)) ∧ Below w.heap.size w wr)
    (fun _ iv _ => 8 * n - (intOf iv).toNat)
  case atStart => exact ⟨0, none, 0, Nat.zero_le _, rfl, rfl, World.ownsRow_nil _ _ _ _, Below.refl _ _⟩
  case round =>
    obtain ⟨i, A2, c2, hi8, rfl, rfl, hown, hbel⟩ := hrel
    have hs := hbel.size
    by_cases hlt : i < 8 * n
    · go_wp2_with (at_builtin; refine wpList_append1 rfl _ _ 48 rfl w.heap.size 3 i0 (.int .i64 0) 8 Tryd.underlying48 hi hz0 hz1 hz2 rfl _ _ _ _ rfl hown (.int .i64 0) rfl rfl (by unfold maxLen; omega) (by omega) hs ?_; intro g' c4 w2 hown' hbel')
      go_roundw
      case rel =>
        refine ⟨i + 1, some ⟨g', 0, none⟩, c4, by omega, by go_num, rfl, ?_, hbel.trans hbel'⟩
        rw [List.replicate_succ', ints_append]
        exact hown'
      case measure => simp [intOf]; omega
    · obtain rfl : i = 8 * n := by omega
      have HBL := Lib.hid (show (bitsOf xs).length = 8 * n by rw [bitsOf_len, HL.out])
      have HBV := Lib.hid (bitsOf_val hx)
      rw [show ((8 * n : Nat) : Int) = 8 * (n : Int) by omega]
      go_wp2
      obtain ⟨w0, rfl⟩ : ∃ w0, w0 = wr := ⟨_, rfl⟩
      go_loopw [8, 9] (fun rv iv wr => ∃ (p r : Nat) (O : List Nat), p ≤ 8 * n ∧ iv = .int .i64 ((p : Int) - 1) ∧ rv = .int .u64 r ∧ (∀ d ∈ O, d < 2) ∧ (∀ i, i < p → O.getD i 0 = 0) ∧ val 2 (O.drop p) = val 2 ((bitsOf xs).drop p) / y ∧ r = val 2 ((bitsOf xs).drop p) % y ∧
          wr.ownsRow w.heap.size 3 1 (.slice A2 (8 * n) c2) (8 * n) (ints O) ∧ Below w.heap.size w wr)
        (fun _ iv _ => (intOf iv + 1).toNat)
      case atStart =>
        refine ⟨8 * n, 0, List.replicate (8 * n) 0, Nat.le_refl _, ?_, rfl, ?_, ?_, ?_, ?_, hown, hbel⟩
        · first | rfl | exact congrArg (Value.int .i64) (by omega)
        · intro d hd
          have := (List.mem_replicate.1 hd).2
          omega
        · intro i hi; simp [List.getD, hi]
        · rw [List.drop_eq_nil_of_le (by simp), List.drop_eq_nil_of_le (by rw [HBL.out]; exact Nat.le_refl _)]
          simp [val]
        · rw [List.drop_eq_nil_of_le (by rw [HBL.out]; exact Nat.le_refl _)]
          simp [val]
      case round =>
        obtain ⟨p, r, O, hp, rfl, rfl, hO, hO0, hOv, hr, hown2, hbel2⟩ := hrel
        have hs2 := hbel2.size
        have hry : r < y := by rw [hr]; exact Nat.mod_lt _ hy
        have HO := Lib.hid hO
        have HO0 := Lib.hid hO0
        have HOV := Lib.hid hOv
        have HR := Lib.hid hr
        have HOL := Lib.hid (show O.length = 8 * n by have := hown2.1; simpa [ints] using this)
        clear hO hOv hr hO0
        cases p with
        | zero =>
          have hof := ofBits_any A2 (8 * n) c2 wr.heap.size O wr (Reads.of_own hown2) (Nat.le_refl _) (by omega) HO.out
          have HOF := Lib.hid hof
          clear hof
          go_wp2_with (go_at_call 47; refine HOF.out.mono ?_; rintro e w3 ⟨A', m, c', L, rfl, hmc, hm8, hrd, hcan, hvl, hb3⟩; have HVL := Lib.hid hvl; clear hvl)
          go_ret2
          refine ⟨A', m, c', L, r, rfl, hmc, by omega, hrd, hcan, ?_, ?_, hbel2.trans (hb3.mono hs2)⟩
          · have := HOV.out
            rw [List.drop_zero, List.drop_zero, HBV.out] at this
            rw [HVL.out, this]
          · have := HR.out
            rwa [List.drop_zero, HBV.out] at this
        | succ p =>
          rw [show (((p + 1 : Nat) : Int) - 1) = (p : Int) by omega]
          obtain ⟨g, cap, hv, hg, hgs⟩ := hown2.form (by omega)
          obtain ⟨rfl, rfl⟩ : A2 = some ⟨g, 0, none⟩ ∧ c2 = cap := by injection hv with a1 _ a3; exact ⟨a1, a3⟩
          clear hv
          have hbt := bit_any A n c B p xs wr (h.below (hbel2.mono hB)) (by unfold maxLen; omega) (by unfold maxLen; omega) hx
          have hb2 := bitL_lt xs p
          have hpl : p < (bitsOf xs).length := by rw [HBL.out]; omega
          have hat := bitsOf_at xs p (by rw [HL.out]; omega)
          obtain ⟨x, hxe⟩ : ∃ x, x = bitL xs p := ⟨_, rfl⟩
          rw [← hxe] at hbt hb2 hat
          have hdx : (bitsOf xs).drop p = x :: (bitsOf xs).drop (p + 1) := by
            rw [List.drop_eq_getElem_cons hpl]
            have := (List.getElem?_eq_some_iff.1 hat).2
            rw [this]
          have hst := div_step 2 y r x (val 2 ((bitsOf xs).drop (p + 1))) hy HR.out
          have hpO : p < O.length := by rw [HOL.out]; omega
          have hcell : wr.cell? ⟨g, p, none⟩ = some (.int .i64 (O.getD p 0 : Nat)) := by
            rw [hown2.cellAt p (by omega), ints_at' _ _ hpO]
          have hfr : wr.frozen? ⟨g, p, none⟩ = false := hown2.frozenAt p
          have HBT := Lib.hid hbt
          have HST := Lib.hid hst
          have HDX := Lib.hid hdx
          have HPO := Lib.hid hpO
          clear hbt hst hdx hxe hat hpl hpO
          by_cases hge : y ≤ 2 * r + x
          · go_wp2_with (go_at_call 46; refine HBT.out.mono ?_; rintro e w' ⟨rfl, rfl⟩)
            go_roundw
            case rel =>
              have hq : (r * 2 + x) / y = 1 ∧ (r * 2 + x) % y = (2 * r + x - y) := by
                have e : r * 2 + x = (2 * r + x - y) + y * 1 := by omega
                rw [e, Nat.add_mul_div_left _ _ hy, Nat.add_mul_mod_self_left, Nat.div_eq_of_lt (by omega), Nat.mod_eq_of_lt (by omega)]
                exact ⟨rfl, by omega⟩
              refine ⟨p, (2 * r + x - y), O.set p 1, by omega, rfl, ?_, ?_, ?_, ?_, ?_, ?_, ?_⟩
              · exact congrArg (Value.int .u64) (by omega)
              · intro d hd
                rcases List.mem_or_eq_of_mem_set hd with hd | hd
                · exact HO.out d hd
                · omega
              · intro i hi
                rw [getD_set' _ _ _ _ (by omega)]
                exact HO0.out i (by omega)
              · rw [HDX.out, val, HST.out.1, hq.1, show (O.set p 1).drop p = 1 :: O.drop (p + 1) by
                  rw [List.drop_eq_getElem_cons (by simpa using HPO.out)]
                  simp [List.drop_set], val, HOV.out]
              · rw [HDX.out, val, HST.out.2, hq.2]
              · have := (hown2.stored p (.int .i64 ((1 : Nat) : Int))).1
                rw [ints_set] at this
                exact this
              · exact hbel2.setCell (p := ⟨g, p, none⟩) hg _
            case measure => simp [intOf]
          · go_wp2_with (go_at_call 46; refine HBT.out.mono ?_; rintro e w' ⟨rfl, rfl⟩)
            go_roundw
            case rel =>
              have hq : (r * 2 + x) / y = 0 ∧ (r * 2 + x) % y = (2 * r + x) := by
                rw [Nat.div_eq_of_lt (by omega), Nat.mod_eq_of_lt (by omega)]
                exact ⟨rfl, by omega⟩
              refine ⟨p, (2 * r + x), O, by omega, rfl, ?_, ?_, ?_, ?_, ?_, hown2, hbel2⟩
              · exact congrArg (Value.int .u64) (by omega)
              · exact HO.out
              · exact fun i hi => HO0.out i (by omega)
              · rw [HDX.out, val, HST.out.1, hq.1, show O.drop p = 0 :: O.drop (p + 1) by
                  rw [List.drop_eq_getElem_cons HPO.out]
                  have := HO0.out p (by omega)
                  simp only [List.getD, List.getElem?_eq_getElem HPO.out, Option.getD_some] at this
                  rw [this], val, HOV.out]
              · rw [HDX.out, val, HST.out.2, hq.2]
            case measure => simp [intOf]

end Go.Proofs.YtckkbeknjipddaaDoor
