/- The walk of the reference's Text. -/
import Derived.Test.YtckkbeknjipddaaDoorParts
import Derived.Test.YtckkbeknjipddaaDoorText
namespace Go.Proofs.YtckkbeknjipddaaDoor
open Go.RowKit

def strLen : Value → Nat | .string s => s.size | _ => 0
def tenDigits : ByteArray := ⟨#[48, 49, 50, 51, 52, 53, 54, 55, 56, 57]⟩
theorem ten_at : ∀ d, d < 10 → bs (tenDigits.extract d (d + 1)) = [48 + d] := by decide +kernel

/-- the state of the inner loop -/
def InRel (D : List Nat) (G m4 : Nat) (sv rv kv : Value) : Prop :=
  ∃ (q : Nat) (u : ByteArray) (F : List Nat) (R : Nat), q ≤ 9 ∧ kv = .int .i64 q ∧ rv = .int .u64 R ∧ sv = .string u ∧ bs u = ((D ++ F).map (48 + ·)).reverse ∧ F.length = q ∧ (∀ d ∈ F, d < 10) ∧ R < 1000000000 ∧ G = val 10 F + 10 ^ q * R ∧
            (m4 = 0 → R = 0 → (D ++ F).getLast? ≠ some 0) ∧ (m4 = 0 → R = 0 → 0 < q)
theorem ten_slice (R : Nat) (w : World) : ∃ z, bs z = [48 + R % 10] ∧ z.size = 1 ∧
    (Instr.slice 9 (.string ⟨#[48, 49, 50, 51, 52, 53, 54, 55, 56, 57]⟩) (some (.int .u64 ((R : Int) % 10))) (some (.int .u64 ((R : Int) % 10 + 1))) none).run Tryd.prog w = .ok (.string z) w := by
  have hb := ten_at (R % 10) (Nat.mod_lt _ (by decide))
  refine ⟨tenDigits.extract (R % 10) (R % 10 + 1), hb, by have := congrArg List.length hb; rw [bs_len] at this; simpa using this, ?_⟩
  have h1 : ((⟨#[48, 49, 50, 51, 52, 53, 54, 55, 56, 57]⟩ : ByteArray).size : Int) = 10 := rfl
  rw [run_slice_string (P := Tryd.prog) w 9 ⟨#[48, 49, 50, 51, 52, 53, 54, 55, 56, 57]⟩ .u64 .u64 ((R : Int) % 10) ((R : Int) % 10 + 1) Tryd.underlying9 (by omega) (by omega) (by omega)]
  have e1 : ((R : Int) % 10).toNat = R % 10 := by omega
  have e2 : ((R : Int) % 10 + 1).toNat = R % 10 + 1 := by omega
  rw [e1, e2]
  rfl

set_option maxRecDepth 100000 in
set_option maxHeartbeats 1000000 in
theorem rtext_any (neg : Bool) (A : Option Addr) (n c B : Nat) (xs : List Nat) (w : World) (h : Reads w B A n (u32s xs)) (hB : B ≤ w.heap.size) (hn : n ≤ maxLen) (hx : ∀ d ∈ xs, d < 4294967296) :
    Calls Tryd.prog 10 #[.agg #[.bool neg, .slice A n c]] w fun e w' => ∃ t, e = .returned (.string t) ∧ TextOf neg xs t ∧ Below w.heap.size w w' := by
  have HL := Lib.hid (u32s_len h)
  have hr := rright_any neg A n c B xs (w.alloc (.cells #[.bool neg, .slice A n c] 24)) (h.alloc hB _) (by simp; omega) hn
  have hn' := hn
  unfold maxLen at hn'
  by_cases hR : rightB neg xs = true
  · rw [hR] at hr
    obtain ⟨hcan, h64, hneg⟩ := right_can hR hx
    rw [HL.out] at h64
    have HR := Lib.hid hr
    have hv : val 4294967296 xs < lim := by
      have h1 := val_lt hx
      rw [HL.out] at h1
      exact Nat.lt_of_lt_of_le h1 (Nat.le_trans (Nat.pow_le_pow_right (by decide) h64) (by rw [lim32]; exact Nat.le_refl _))
    have hby := fun w1 hrd hb => bytes_any neg A n c B xs w1 hrd hb h64 hx
    have HBY := Lib.hid hby
    have HRR := Lib.hid hR
    have HV := Lib.hid hv
    have HRD := Lib.hid h
    have HCAN := Lib.hid hcan
    clear hr hR hneg hcan hv hby
    go_enter Tryd.func10, Tryd.ntmps10
    go_wp2_with (first | (go_at_call 11; refine HR.out.mono ?_; rintro e w1 ⟨rfl, hb1⟩; obtain ⟨bx0, bx1, bx2, bx3, bx4⟩ := box2 (hb1.mono (by simp))) | (go_at_call 29; refine (HBY.out w1 ((HRD.out.alloc hB _).below (hb1.mono (by simp; omega))) (by omega)).mono ?_; rintro e w2 ⟨A1, n1, c1, L, rfl, hnc1, hn1, hrd1, hcan1, hval1, hb2⟩; have HC1 := Lib.hid hcan1; have HV1 := Lib.hid hval1; clear hcan1 hval1))
    have hb12 : Below (w.heap.size + 1) (w.alloc (.cells #[.bool neg, .slice A n c] 24)) w2 := (hb1.mono (by simp)).trans (hb2.mono (by omega))
    obtain ⟨N, hN⟩ : ∃ N, N = val 4294967296 xs := ⟨_, rfl⟩
    have HN := Lib.hid hN
    clear hN
    go_loopw [3, 4] (fun lv sv wr => ∃ (A3 : Option Addr) (n3 c3 : Nat) (L3 : List Nat) (t : ByteArray) (D : List Nat), lv = .slice A3 n3 c3 ∧ sv = .string t ∧ n3 ≤ 300 ∧ n3 ≤ c3 ∧ Reads wr wr.heap.size A3 n3 (ints L3) ∧ Can 256 L3 ∧
        bs t = (D.map (48 + ·)).reverse ∧ (∀ d ∈ D, d < 10) ∧ N = val 10 D + 10 ^ D.length * val 256 L3 ∧ (n3 = 0 → D.getLast? ≠ some 0) ∧ t.size ≤ 1100 ∧
        Below (w.heap.size + 1) (w.alloc (.cells #[.bool neg, .slice A n c] 24)) wr)
      (fun _ sv _ => 2000 - strLen sv)
    case atStart =>
      exact ⟨A1, n1, c1, L, ⟨#[]⟩, [], rfl, rfl, by omega, hnc1, hrd1, HC1.out, rfl, by simp, by rw [HN.out, HV1.out]; simp [val], by simp, by decide, hb12⟩
    case round =>
      obtain ⟨A3, n3, c3, L3, t, D, rfl, rfl, hn3, hc3, hrd3, hcan3, hbt, hD, hNv, hlast, htl, hbel⟩ := hrel
      have HDL := Lib.hid (ints_len hrd3)
      have HTS := Lib.hid (show t.size = D.length by have := congrArg List.length hbt; rw [bs_len] at this; simpa using this)
      have hsz := hbel.size
      simp at hsz
      have HBT := Lib.hid hbt
      have HD := Lib.hid hD
      have HNV := Lib.hid hNv
      have HLAST := Lib.hid hlast
      have HC3 := Lib.hid hcan3
      clear hbt hD hNv hlast hcan3
      by_cases h0 : n3 = 0
      · subst h0
        have hd0 : L3 = [] := List.eq_nil_of_length_eq_zero HDL.out
        have hN2 : N = val 10 D := by rw [HNV.out, hd0]; simp [val]
        have hDc : Can 10 D := ⟨HD.out, HLAST.out rfl⟩
        obtain ⟨bx0, bx1, bx2, bx3, bx4⟩ := box2 hbel
        have hbw : Below w.heap.size w wr := ((Below.refl w.heap.size w).alloc (Nat.le_refl _) _).trans (hbel.mono (by omega))
        by_cases hz : N = 0
        · have hDn : D = [] := can_zero (by decide) hDc (by rw [← hN2]; exact hz)
          have hte : t.toList = [] := by
            rw [toList_iff, HBT.out, hDn]; rfl
          have HT := Lib.hid (show TextOf neg xs ⟨#[48]⟩ from Or.inr (Or.inl ⟨HRR.out, by rw [← HN.out]; exact hz, rfl⟩))
          clear hN2 hDc hDn hd0 hz
          go_wp2
          go_ret
          exact ⟨_, rfl, HT.out, hbw⟩
        · have hDn : D ≠ [] := by intro e; rw [e] at hN2; exact hz hN2
          have hte : t.toList.isEmpty = false := by
            rw [← Bool.not_eq_true, List.isEmpty_iff, toList_iff, HBT.out]
            simp [hDn]
          have hte2 : ¬ t.toList = [] := by
            rw [toList_iff, HBT.out]
            simp [hDn]
          have HDO := Lib.hid (show DecOf (val 4294967296 xs) t from ⟨D, hDc, by rw [← hN2, HN.out], HBT.out⟩)
          have HP := Lib.hid (show 0 < val 4294967296 xs by rw [← HN.out]; omega)
          clear hN2 hDc hDn hd0 hz
          cases neg
          · go_wp2
            go_ret
            exact ⟨_, rfl, Or.inr (Or.inr ⟨HRR.out, HP.out, t, HDO.out, rfl⟩), hbw⟩
          · go_wp2
            go_ret
            exact ⟨_, rfl, Or.inr (Or.inr ⟨HRR.out, HP.out, t, HDO.out, bs_append _ _⟩), hbw⟩
      · have hvp : 0 < val 256 L3 := by
          have hne : L3 ≠ [] := by intro e; subst e; exact h0 HDL.out.symm
          exact Nat.lt_of_lt_of_le (Nat.pow_pos (by decide)) (can_pos (by decide) HC3.out hne)
        have hblt : t.size < 1000 := by
          obtain ⟨e, he, hl⟩ := lim10
          have h1 : 10 ^ D.length < 10 ^ e := by
            refine Nat.lt_of_le_of_lt ?_ (Nat.lt_of_lt_of_le HV.out hl)
            rw [← HN.out, HNV.out]
            exact Nat.le_trans (Nat.le_mul_of_pos_right _ hvp) (Nat.le_add_left _ _)
          have := (Nat.pow_lt_pow_iff_right (show 1 < 10 by decide)).1 h1
          rw [HTS.out]
          omega
        have hpt := parts_any A3 n3 c3 wr.heap.size 1000000000 L3 wr hrd3 (Nat.le_refl _) hn3 HC3.out.1 (by decide) (by decide)
        have HPT := Lib.hid hpt
        have HVP := Lib.hid hvp
        clear hpt hvp
        go_wp2_with (go_at_call 30; refine HPT.out.mono ?_; rintro e w4 ⟨A4, m4, c4, L4, G, rfl, hmc4, hm4, hrd4, hcan4, hval4, hG, hb4⟩; have HV4 := Lib.hid hval4; have HG := Lib.hid hG; have HC4 := Lib.hid hcan4; clear hval4 hG hcan4)
        have HL4 := Lib.hid (ints_len hrd4)
        have HG9 := Lib.hid (show G < 1000000000 by rw [HG.out]; exact Nat.mod_lt _ (by decide))
        have HSUM := Lib.hid (show val 256 L3 = G + 1000000000 * val 256 L4 by rw [HV4.out, HG.out]; have := Nat.div_add_mod (val 256 L3) 1000000000; omega)
        go_loop [4, 6, 7] (fun sv rv kv => InRel D G m4 sv rv kv)
          (fun _ _ kv => 9 - (intOf kv).toNat)
        case atStart =>
          have hz : m4 = 0 → G = 0 → False := by
            intro e1 e2
            have e3 : L4 = [] := List.eq_nil_of_length_eq_zero (by rw [HL4.out]; exact e1)
            have := HSUM.out
            rw [e2, e3] at this
            simp [val] at this
            have := HVP.out
            omega
          exact ⟨0, t, [], G, by omega, rfl, rfl, rfl, by rw [List.append_nil]; exact HBT.out, rfl, by simp, HG9.out, by simp [val], fun e1 e2 => (hz e1 e2).elim, fun e1 e2 => (hz e1 e2).elim⟩
        case round =>
          obtain ⟨q, u, F, R, hq, rfl, rfl, rfl, hbu, hF, hFd, hR9, hGE, hla, hq0⟩ := hrel
          have HUS := Lib.hid (show u.size = D.length + q by have := congrArg List.length hbu; rw [bs_len] at this; simp [hF] at this; omega)
          have hus : u.size ≤ 1100 := by rw [HUS.out]; have := HTS.out; omega
          have HBU := Lib.hid hbu
          have HF := Lib.hid hF
          have HGE := Lib.hid hGE
          have HLA := Lib.hid hla
          have HQ0 := Lib.hid hq0
          have HFD := Lib.hid hFd
          clear hbu hF hGE hla hq0 hFd
          by_cases hgo : q < 9 ∧ (0 < m4 ∨ 0 < R)
          · obtain ⟨hq9, hor⟩ := hgo
            obtain ⟨z, hz1, hz2, hsl⟩ := ten_slice R w4
            have HZ1 := Lib.hid hz1
            have HZ2 := Lib.hid hz2
            clear hz1
            have hrel' : ∀ (u' : ByteArray), u' = z ++ u → InRel D G m4 (.string u') (.int .u64 ((R : Int) / 10)) (.int .i64 ((q : Int) + 1)) := by
              intro u' hu'
              refine ⟨q + 1, u', F ++ [R % 10], R / 10, by omega, by go_num, congrArg (Value.int .u64) (by omega), rfl, ?_, by rw [List.length_append, HF.out]; rfl, ?_, by omega, ?_, ?_, fun _ _ => by omega⟩
              · rw [hu', bs_append, HZ1.out, HBU.out, ← List.append_assoc, List.map_append (l₁ := D ++ F), List.reverse_append]
                rfl
              · intro d hd
                rcases List.mem_append.1 hd with hd | hd
                · exact HFD.out d hd
                · simp at hd; subst hd; exact Nat.mod_lt _ (by decide)
              · rw [HGE.out, val_append, HF.out, Nat.pow_succ, Nat.mul_assoc, Nat.add_assoc, ← Nat.mul_add]
                congr 2
                simp only [val]
                omega
              · intro e1 e2
                rw [← List.append_assoc, List.getLast?_append, List.getLast?_singleton]
                simp only [Option.some_or, ne_eq, Option.some.injEq]
                omega
            have HREL := Lib.hid hrel'
            have hz3 : z.size ≤ 1 := by rw [hz2]; exact Nat.le_refl _
            clear hrel' hz2
            have hm4d : m4 < 1 ∨ 0 < m4 := by omega
            rcases hm4d with hm0 | hmp
            · have hRp : 0 < R := by omega
              obtain rfl : m4 = 0 := by omega
              clear hor hm0
              go_wp2
              go_round
              case rel => exact HREL.out _ rfl
              case measure => simp [intOf]; omega
            · clear hor
              go_wp2
              go_round
              case rel => exact HREL.out _ rfl
              case measure => simp [intOf]; omega
          · have hR0 : R < 1 := by
              by_cases h9 : q < 9
              · omega
              · have e9 : q = 9 := by omega
                have h1 := HGE.out
                have h2 := HG9.out
                rw [e9] at h1
                have h4 : (10 : Nat) ^ 9 = 1000000000 := by decide
                rw [h4] at h1
                omega
            have hend : q = 9 ∨ m4 < 1 := by omega
            have hqp : 0 < q := by
              rcases hend with h9 | hm
              · omega
              · exact HQ0.out (by omega) (by omega)
            have hrel' : N = val 10 (D ++ F) + 10 ^ (D ++ F).length * val 256 L4 := by
              have hGF : G = val 10 F := by have := HGE.out; rw [show R = 0 by omega] at this; simpa using this
              have hL : 1000000000 * val 256 L4 = 10 ^ q * val 256 L4 := by
                rcases hend with h9 | hm
                · rw [h9]
                · have e3 : L4 = [] := List.eq_nil_of_length_eq_zero (by rw [HL4.out]; omega)
                  rw [e3]; simp [val]
              rw [HNV.out, HSUM.out, hL, hGF, val_append, List.length_append, HF.out, Nat.pow_add, Nat.mul_add, Nat.mul_assoc, Nat.add_assoc]
            have hrel2 : m4 = 0 → (D ++ F).getLast? ≠ some 0 := fun e => HLA.out e (by omega)
            have HREL := Lib.hid hrel'
            have HREL2 := Lib.hid hrel2
            have hq9' : 9 ≤ q ∨ (q < 9 ∧ m4 < 1) := by omega
            have hdd : ∀ d ∈ D ++ F, d < 10 := by
              intro d hd
              rcases List.mem_append.1 hd with hd | hd
              · exact HD.out d hd
              · exact HFD.out d hd
            have HDD := Lib.hid hdd
            clear hrel' hrel2 hend hgo hdd
            rcases hq9' with hq9 | ⟨hq9, hm0⟩
            · go_wp2
              go_roundw
              case rel =>
                refine ⟨A4, m4, c4, L4, u, D ++ F, rfl, rfl, hm4, hmc4, hrd4, HC4.out, HBU.out, HDD.out, HREL.out, HREL2.out, hus, hbel.trans (hb4.mono hsz)⟩
              case measure =>
                have e1 := HTS.out
                have e2 := HUS.out
                simp [strLen]; omega
            · obtain rfl : m4 = 0 := by omega
              clear hm0
              go_wp2
              go_roundw
              case rel =>
                refine ⟨A4, 0, c4, L4, u, D ++ F, rfl, rfl, hm4, hmc4, hrd4, HC4.out, HBU.out, HDD.out, HREL.out, HREL2.out, hus, hbel.trans (hb4.mono hsz)⟩
              case measure =>
                have e1 := HTS.out
                have e2 := HUS.out
                simp [strLen]; omega
  · have hR' : rightB neg xs = false := by simpa using hR
    rw [hR'] at hr
    have HR := Lib.hid hr
    have HT := Lib.hid (show TextOf neg xs ByteArray.empty from Or.inl ⟨hR', rfl⟩)
    clear hr hR hR'
    go_enter Tryd.func10, Tryd.ntmps10
    go_wp2_with (go_at_call 11; refine HR.out.mono ?_; rintro e w1 ⟨rfl, hb1⟩)
    go_ret
    exact ⟨_, rfl, HT.out, ((Below.refl w.heap.size w).alloc (Nat.le_refl _) _).trans (hb1.mono (by simp))⟩

end Go.Proofs.YtckkbeknjipddaaDoor
