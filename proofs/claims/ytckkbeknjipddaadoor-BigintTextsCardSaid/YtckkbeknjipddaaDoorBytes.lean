/- The walks of the reference's bytes, bit and ofBits. -/
import Derived.Test.YtckkbeknjipddaaDoorNum
namespace Go.Proofs.YtckkbeknjipddaaDoor
open Go.RowKit

theorem Tryd.info_int2 : (Tryd.prog.info? 3).map (fun i => (i.zero, i.size, i.bytes)) = some (some (.int .i64 0), 1, 8) := by kernel_rfl
theorem ints_take' (l : List Nat) (k : Nat) : (ints l).take k = ints (l.take k) := by simp [ints]
theorem ints_append (l : List Nat) (d : Nat) : ints (l ++ [d]) = ints l ++ [.int .i64 (d : Int)] := by simp [ints]

set_option maxRecDepth 100000 in
set_option maxHeartbeats 1000000 in
theorem bytes_any (neg : Bool) (A : Option Addr) (n c B : Nat) (xs : List Nat) (w : World) (h : Reads w B A n (u32s xs)) (hB : B ≤ w.heap.size) (hn : n ≤ 64) (hx : ∀ d ∈ xs, d < 4294967296) :
    Calls Tryd.prog 29 #[.agg #[.bool neg, .slice A n c]] w fun e w' => ∃ A' m c' L, e = .returned (.slice A' m c') ∧ m ≤ c' ∧ m ≤ 256 ∧ Reads w' w'.heap.size A' m (ints L) ∧ Can 256 L ∧ val 256 L = val 4294967296 xs ∧ Below w.heap.size w w' := by
  have HL := Lib.hid (u32s_len h)
  obtain ⟨i0, hi, hz0, hz1, hz2⟩ := info_parts Tryd.info_int2
  go_enter Tryd.func29, Tryd.ntmps29
  go_wp2
  go_loopw [3, 4] (fun ov iv wr => ∃ (k : Nat) (A2 : Option Addr) (c2 : Nat) (E : List Nat), k ≤ n ∧ iv = .int .i64 k ∧ ov = .slice A2 (4 * k) c2 ∧ E.length = 4 * k ∧ (∀ d ∈ E, d < 256) ∧ val 256 E = val 4294967296 (xs.take k) ∧
      Blk wr w.heap.size 24 #[.bool neg, .slice A n c] ∧ wr.ownsRow (w.heap.size + 1) 3 1 (.slice A2 (4 * k) c2) (4 * k) (ints E) ∧ Below (w.heap.size + 1) (w.alloc (.cells #[.bool neg, .slice A n c] 24)) wr)
    (fun _ iv _ => n - (intOf iv).toNat)
  case atStart => exact ⟨0, none, 0, [], Nat.zero_le _, rfl, rfl, rfl, by simp, rfl, Blk.new _ _ _, World.ownsRow_nil _ _ _ _, Below.refl _ _⟩
  case round =>
    obtain ⟨k, A2, c2, E, hk, rfl, rfl, hE, hEb, hEv, hblk, hown, hbel⟩ := hrel
    have hs := hbel.size
    simp at hs
    have hbw : Below w.heap.size w wr := ((Below.refl w.heap.size w).alloc (Nat.le_refl _) _).trans (hbel.mono (by omega))
    obtain ⟨y0, y1, y2, y3, y4⟩ := hblk.two
    have HE := Lib.hid hE
    have HEV := Lib.hid hEv
    clear hE hEv
    by_cases hlt : k < n
    · obtain ⟨ad, rfl, _, hcell⟩ := u32s_at ((h.more hB).below hbw) hlt
      have hkl : k < xs.length := by rw [HL.out]; exact hlt
      have hxb := hx xs[k] (List.getElem_mem hkl)
      obtain ⟨x, hxe⟩ : ∃ x, x = xs.getD k 0 := ⟨_, rfl⟩
      have hx2 : x = xs[k] := by rw [hxe]; simp [List.getD, hkl]
      rw [← hx2] at hxb
      rw [← hxe] at hcell
      have HX := Lib.hid hx2
      clear hxe hx2
      go_wp2
      obtain ⟨w0, rfl⟩ : ∃ w0, w0 = wr := ⟨_, rfl⟩
      go_loopw [3, 5, 6] (fun ov dv qv wr => ∃ (q : Nat) (A3 : Option Addr) (c3 : Nat) (F : List Nat) (d : Nat), q ≤ 4 ∧ qv = .int .i64 q ∧ dv = .int .u32 d ∧ ov = .slice A3 (4 * k + q) c3 ∧ F.length = q ∧ (∀ d ∈ F, d < 256) ∧ x = val 256 F + 256 ^ q * d ∧
          Blk wr w.heap.size 24 #[.bool neg, .slice (some ad) n c] ∧ wr.ownsRow (w.heap.size + 1) 3 1 (.slice A3 (4 * k + q) c3) (4 * k + q) (ints (E ++ F)) ∧ Below (w.heap.size + 1) (w.alloc (.cells #[.bool neg, .slice (some ad) n c] 24)) wr)
        (fun _ _ qv _ => 4 - (intOf qv).toNat)
      case atStart => exact ⟨0, A2, c2, [], x, by omega, rfl, rfl, rfl, rfl, by simp, by simp [val], hblk, by simpa using hown, hbel⟩
      case round =>
        obtain ⟨q, A3, c3, F, d, hq, rfl, rfl, rfl, hF, hFb, hFv, hblk2, hown2, hbel2⟩ := hrel
        have hs2 := hbel2.size
        simp at hs2
        have hdb : d < 4294967296 := by
          have := Nat.le_mul_of_pos_left d (Nat.pow_pos (n := q) (show 0 < 256 by decide))
          omega
        have HF := Lib.hid hF
        have HFV := Lib.hid hFv
        clear hF hFv
        by_cases hq4 : q < 4
        · go_wp2_with (at_builtin; refine wpList_append1 rfl _ _ 48 rfl (w.heap.size + 1) 3 i0 (.int .i64 0) 8 Tryd.underlying48 hi hz0 hz1 hz2 rfl _ _ _ _ rfl hown2 (.int .i64 ((d : Int) % 256)) rfl rfl (by unfold maxLen; omega) (by omega) hs2 ?_; intro g' c4 w2 hown' hbel')
          go_roundw
          case rel =>
            refine ⟨q + 1, some ⟨g', 0, none⟩, c4, F ++ [d % 256], d / 256, by omega, by go_num, ?_, rfl, by rw [List.length_append, HF.out]; rfl, ?_, ?_, hblk2.below hbel' (by omega), ?_, hbel2.trans hbel'⟩
            · exact congrArg (Value.int .u32) (by omega)
            · intro y hy
              rcases List.mem_append.1 hy with hy | hy
              · exact hFb y hy
              · simp at hy; subst hy; exact Nat.mod_lt _ (by decide)
            · rw [HFV.out, val_append, HF.out, Nat.pow_succ, Nat.mul_assoc, Nat.add_assoc, ← Nat.mul_add]
              congr 2
              simp only [val]
              omega
            · rw [← List.append_assoc, ints_append]
              simpa [Nat.add_assoc] using hown'
          case measure => simp [intOf]; omega
        · obtain rfl : q = 4 := by omega
          go_wp2
          go_roundw
          case rel =>
            refine ⟨k + 1, A3, c3, E ++ F, by omega, by go_num, ?_, by rw [List.length_append, HE.out, HF.out]; omega, ?_, ?_, hblk2, ?_, hbel2⟩
            · rw [show 4 * (k + 1) = 4 * k + 4 by omega]
            · intro y hy
              rcases List.mem_append.1 hy with hy | hy
              · exact hEb y hy
              · exact hFb y hy
            · have h4 : (256 : Nat) ^ 4 = 4294967296 := by decide
              have hv := HFV.out
              rw [h4] at hv
              have hd0 : d = 0 := by omega
              rw [hd0] at hv
              rw [val_append, HE.out, HEV.out, List.take_succ_eq_append_getElem hkl, val_append, ← HX.out, List.length_take, Nat.min_eq_left (by omega), Nat.pow_mul, h4]
              congr 2
              simp [val]
              omega
            · rw [show 4 * (k + 1) = 4 * k + 4 by omega]; exact hown2
          case measure => simp [intOf]; omega
    · obtain rfl : n = k := by omega
      have htr := rtrim_any A2 (4 * n) c2 wr.heap.size E wr (Reads.of_own hown) (by unfold maxLen; omega) (own_le hown)
      have HTR := Lib.hid htr
      clear htr
      go_wp2_with (go_at_call 43; refine HTR.out.mono ?_; rintro e w' ⟨rfl, rfl⟩)
      go_ret
      have hle := trimN_le E (4 * n)
      refine ⟨A2, trimN E (4 * n), trimN E (4 * n), trimL E, rfl, Nat.le_refl _, by omega, ?_, trimL_can hEb, by rw [trimL_val, HEV.out, ← HL.out, List.take_length], hbw⟩
      have := (Reads.of_own hown).take hle
      rwa [ints_take', show E.take (trimN E (4 * n)) = trimL E by rw [trimL, HE.out]] at this

end Go.Proofs.YtckkbeknjipddaaDoor
