/- The walks of the reference's bit and ofBits. -/
import Derived.Test.YtckkbeknjipddaaDoorBytes
namespace Go.Proofs.YtckkbeknjipddaaDoor
open Go.RowKit

def bitL (l : List Nat) (k : Nat) : Nat := l.getD (k / 8) 0 / 2 ^ (k % 8) % 2
theorem bitL_lt (l : List Nat) (k : Nat) : bitL l k < 2 := Nat.mod_lt _ (by decide)
theorem div_pow_succ (b i : Nat) : b / 2 ^ (i + 1) = b / 2 ^ i / 2 := by rw [Nat.pow_succ, Nat.div_div_eq_div_mul]

theorem bit_any (A : Option Addr) (n c B k : Nat) (xs : List Nat) (w : World) (h : Reads w B A n (ints xs)) (hn : n ≤ maxLen) (hk : k ≤ maxLen) (hx : ∀ d ∈ xs, d < 256) :
    Calls Tryd.prog 46 #[.slice A n c, .int .i64 (k : Nat)] w fun e w' => e = .returned (.int .i64 (bitL xs k : Nat)) ∧ w = w' := by
  have hdg := digit_any A n c B (k / 8) xs w h hn (by have := Nat.div_le_self k 8; omega)
  have hb : xs.getD (k / 8) 0 < 256 := by
    by_cases hl : k / 8 < xs.length
    · simp only [List.getD, List.getElem?_eq_getElem hl, Option.getD_some]
      exact hx _ (List.getElem_mem hl)
    · rw [getD_out (by omega)]; decide
  unfold maxLen at hk
  unfold bitL
  obtain ⟨b, hbe⟩ : ∃ b, b = xs.getD (k / 8) 0 := ⟨_, rfl⟩
  rw [← hbe] at hdg hb ⊢
  have e8 : ((k / 8 : Nat) : Int) = (k : Int) / 8 := by simp
  rw [e8] at hdg
  have HDG := Lib.hid hdg
  obtain ⟨res, hres⟩ : ∃ res, res = b / 2 ^ (k % 8) % 2 := ⟨_, rfl⟩
  rw [← hres]
  have HRES := Lib.hid hres
  clear hdg hbe e8 hres
  go_enter Tryd.func46, Tryd.ntmps46
  go_wp2_with (go_at_call 26; refine HDG.out.mono ?_; rintro e w' ⟨rfl, rfl⟩)
  go_loop [5, 6] (fun bv iv => ∃ i : Nat, i ≤ k % 8 ∧ iv = .int .i64 i ∧ bv = .int .i64 (b / 2 ^ i : Nat)) (fun _ iv => 8 - (intOf iv).toNat)
  case atStart => exact ⟨0, Nat.zero_le _, rfl, by simp⟩
  case round =>
    obtain ⟨i, hi, rfl, rfl⟩ := hrel
    have hdl : b / 2 ^ i ≤ b := Nat.div_le_self _ _
    obtain ⟨d, hd⟩ : ∃ d, d = b / 2 ^ i := ⟨_, rfl⟩
    rw [← hd] at hdl ⊢
    have HD := Lib.hid hd
    clear hd
    by_cases hlt : i < k % 8
    · go_wp2
      go_round
      case rel => exact ⟨i + 1, by omega, by go_num, by rw [div_pow_succ, ← HD.out]; exact congrArg (Value.int .i64) (by omega)⟩
      case measure => simp [intOf]; omega
    · obtain rfl : k % 8 = i := by omega
      go_wp2
      go_ret
      have hres : res = d % 2 := by rw [HRES.out, HD.out]
      exact ⟨ret_int (by omega), rfl⟩

/-- the inner loop of ofBits -/
def seg (l : List Nat) (s m : Nat) : Nat := val 2 (((l.drop s).take 8).drop m)
theorem seg_step {l : List Nat} {s m : Nat} (hm : m < 8) : seg l s m = 2 * seg l s (m + 1) + l.getD (s + m) 0 := by
  unfold seg
  by_cases h : s + m < l.length
  · rw [List.drop_eq_getElem_cons (i := m) (by simp; omega), val]
    simp [List.getD, h]
    omega
  · have e : ∀ m', m ≤ m' → ((l.drop s).take 8).drop m' = [] := fun m' hm' => List.drop_eq_nil_of_le (by simp; omega)
    rw [e m (Nat.le_refl _), e (m + 1) (by omega), getD_out (by omega)]
    rfl
theorem seg_lt {l : List Nat} (hl : ∀ d ∈ l, d < 2) (s m : Nat) : seg l s m < 256 := by
  refine Nat.lt_of_lt_of_le (val_lt (fun d hd => hl d (List.mem_of_mem_drop (List.mem_of_mem_take (List.mem_of_mem_drop hd))))) ?_
  refine Nat.le_trans (show _ ≤ 2 ^ 8 from Nat.pow_le_pow_right (by decide) ?_) (by decide)
  simp; omega
theorem seg_zero (l : List Nat) (j : Nat) : val 2 (l.take (8 * (j + 1))) = val 2 (l.take (8 * j)) + 256 ^ j * seg l (8 * j) 0 := by
  unfold seg
  rw [List.drop_zero]
  have e : l.take (8 * (j + 1)) = l.take (8 * j) ++ (l.drop (8 * j)).take 8 := by
    rw [show 8 * (j + 1) = 8 * j + 8 by omega, List.take_add]
  rw [e, val_append]
  by_cases h : 8 * j ≤ l.length
  · rw [List.length_take, Nat.min_eq_left h, Nat.pow_mul]
  · have : l.drop (8 * j) = [] := List.drop_eq_nil_of_le (by omega)
    rw [this]; simp [val]

set_option maxRecDepth 100000 in
set_option maxHeartbeats 1000000 in
theorem ofBits_any (A : Option Addr) (n c B : Nat) (xs : List Nat) (w : World) (h : Reads w B A n (ints xs)) (hB : B ≤ w.heap.size) (hn : n ≤ 100000) (hx : ∀ d ∈ xs, d < 2) :
    Calls Tryd.prog 47 #[.slice A n c] w fun e w' => ∃ A' m c' L, e = .returned (.slice A' m c') ∧ m ≤ c' ∧ 8 * m < n + 8 ∧ Reads w' w'.heap.size A' m (ints L) ∧ Can 256 L ∧ val 256 L = val 2 xs ∧ Below w.heap.size w w' := by
  have HL := Lib.hid (ints_len h)
  obtain ⟨i0, hi, hz0, hz1, hz2⟩ := info_parts Tryd.info_int2
  go_enter Tryd.func47, Tryd.ntmps47
  go_wp2
  go_loopw [3, 4] (fun ov iv wr => ∃ (j : Nat) (A2 : Option Addr) (c2 : Nat) (E : List Nat), 8 * j < n + 8 ∧ iv = .int .i64 (8 * (j : Int)) ∧ ov = .slice A2 j c2 ∧ E.length = j ∧ (∀ d ∈ E, d < 256) ∧ val 256 E = val 2 (xs.take (8 * j)) ∧
      wr.ownsRow w.heap.size 3 1 (.slice A2 j c2) j (ints E) ∧ Below w.heap.size w wr)
    (fun _ iv _ => n - (intOf iv).toNat)
  case atStart => exact ⟨0, none, 0, [], by omega, rfl, rfl, rfl, by simp, rfl, World.ownsRow_nil _ _ _ _, Below.refl _ _⟩
  case round =>
    obtain ⟨j, A2, c2, E, hj, rfl, rfl, hE, hEb, hEv, hown, hbel⟩ := hrel
    have hs := hbel.size
    have HE := Lib.hid hE
    have HEV := Lib.hid hEv
    clear hE hEv
    by_cases hlt : 8 * j < n
    · have hdec : decide (8 * (j : Int) < (n : Int)) = true := by simp; omega
      go_wp2
      go_loop [5, 6] (fun bv kv => ∃ q : Nat, q ≤ 8 ∧ kv = .int .i64 ((q : Int) - 1) ∧ bv = .int .i64 (seg xs (8 * j) q : Nat)) (fun _ kv => (intOf kv + 1).toNat)
      case atStart => exact ⟨8, Nat.le_refl _, rfl, by unfold seg; rw [List.drop_eq_nil_of_le (by simp; omega)]; rfl⟩
      case round =>
        obtain ⟨q, hq, rfl, rfl⟩ := hrel
        have hsl := seg_lt hx (8 * j) q
        cases q with
        | zero =>
          obtain ⟨G, hG⟩ : ∃ G, G = seg xs (8 * j) 0 := ⟨_, rfl⟩
          rw [← hG] at hsl ⊢
          have HG := Lib.hid hG
          clear hG
          go_wp2_with (at_builtin; refine wpList_append1 rfl _ _ 48 rfl w.heap.size 3 i0 (.int .i64 0) 8 Tryd.underlying48 hi hz0 hz1 hz2 rfl _ _ _ _ rfl hown (.int .i64 (G : Int)) rfl rfl (by unfold maxLen; omega) (by omega) hs ?_; intro g' c4 w2 hown' hbel')
          go_roundw
          case rel =>
            refine ⟨j + 1, some ⟨g', 0, none⟩, c4, E ++ [G], by omega, by go_num, rfl, by rw [List.length_append, HE.out]; rfl, ?_, ?_, ?_, hbel.trans hbel'⟩
            · intro y hy
              rcases List.mem_append.1 hy with hy | hy
              · exact hEb y hy
              · simp at hy; omega
            · rw [val_append, HE.out, HEV.out, seg_zero, HG.out]
              simp [val]
            · rw [ints_append]; exact hown'
          case measure => simp [intOf]; omega
        | succ p =>
          have HS := Lib.hid (seg_step (l := xs) (s := 8 * j) (m := p) (by omega))
          have hdg := digit_any A n c B (8 * j + p) xs wr ((h.more (Nat.le_refl _)).below (hbel.mono hB)) (by unfold maxLen; omega) (by unfold maxLen; omega)
          have hdb : xs.getD (8 * j + p) 0 < 2 := by
            by_cases hl : 8 * j + p < xs.length
            · simp only [List.getD, List.getElem?_eq_getElem hl, Option.getD_some]
              exact hx _ (List.getElem_mem hl)
            · rw [getD_out (by omega)]; decide
          obtain ⟨x, hxe⟩ : ∃ x, x = xs.getD (8 * j + p) 0 := ⟨_, rfl⟩
          obtain ⟨S, hS⟩ : ∃ S, S = seg xs (8 * j) (p + 1) := ⟨_, rfl⟩
          rw [← hxe] at hdg hdb
          rw [← hS] at hsl ⊢
          have e8 : ((8 * j + p : Nat) : Int) = 8 * (j : Int) + (p : Int) := by omega
          rw [e8] at hdg
          have HDG := Lib.hid hdg
          have HX := Lib.hid hxe
          have HSS := Lib.hid hS
          clear hdg hxe hS e8
          rw [show (((p + 1 : Nat) : Int) - 1) = (p : Int) by omega]
          go_wp2_with (go_at_call 26; refine HDG.out.mono ?_; rintro e w' ⟨rfl, rfl⟩)
          go_round
          case rel => exact ⟨p, by omega, rfl, by rw [HS.out, ← HX.out, ← HSS.out]; exact congrArg (Value.int .i64) (by omega)⟩
          case measure => simp [intOf]
    · have htr := rtrim_any A2 j c2 wr.heap.size E wr (Reads.of_own hown) (by unfold maxLen; omega) (own_le hown)
      have HTR := Lib.hid htr
      have HALL := Lib.hid (show xs.take (8 * j) = xs from List.take_of_length_le (by rw [HL.out]; omega))
      clear htr
      go_wp2_with (go_at_call 43; refine HTR.out.mono ?_; rintro e w' ⟨rfl, rfl⟩)
      go_ret
      have hle := trimN_le E j
      refine ⟨A2, trimN E j, trimN E j, trimL E, rfl, Nat.le_refl _, by omega, ?_, trimL_can hEb, by rw [trimL_val, HEV.out, HALL.out], hbel⟩
      have := (Reads.of_own hown).take hle
      rwa [ints_take', show E.take (trimN E j) = trimL E by rw [trimL, HE.out]] at this

end Go.Proofs.YtckkbeknjipddaaDoor
