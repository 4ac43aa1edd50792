/- The walk of Syms on valid neighbourhoods, and of the reference's Same on lists of numbers. -/
import Derived.Test.YtgnnemlnjflifaaDoorImage
namespace Go.Proofs.YtgnnemlnjflifaaDoor
open Go.RowKit

theorem Tryd.info_int : (Tryd.prog.info? 3).map (fun i => (i.zero, i.size, i.bytes)) = some (some (.int .i64 0), 1, 8) := by kernel_rfl
/-- whether the symmetry number k maps the offsets to themselves -/
def sk (f : Nat → P2) (n k : Nat) : Bool := decide ((lst (tn k f) n).Perm (lst f n))
/-- the numbers below j that do -/
def sy (f : Nat → P2) (n j : Nat) : List Nat := (List.range j).filter (sk f n)
theorem sy_succ (f : Nat → P2) (n j : Nat) : sy f n (j + 1) = if sk f n j = true then sy f n j ++ [j] else sy f n j := by
  unfold sy
  rw [List.range_succ, List.filter_append]
  by_cases h : sk f n j = true <;> simp [h]
theorem sy_len (f : Nat → P2) (n j : Nat) : (sy f n j).length ≤ j := by
  have := List.length_filter_le (sk f n) (List.range j)
  simpa [sy] using this
theorem sm_sk {f f' : Nat → P2} {n k : Nat} (hf : Up f n) (hf' : Up f' n) (hp : (lst f' n).Perm (lst (tn k f) n)) : sm f' n f n = sk f n k := by
  rw [Bool.eq_iff_iff, sm_iff, sk, decide_eq_true_iff]
  constructor
  · rintro ⟨_, h⟩
    rw [lst_congr h] at hp
    exact hp.symm
  · exact fun h => ⟨rfl, up_same hf' hf (hp.trans h)⟩

set_option maxRecDepth 100000 in
set_option maxHeartbeats 2000000 in
theorem syms_any (A : Option Addr) (n c : Nat) (f : Nat → P2) (w : World) (hM : Mat w) (h : QReads w w.heap.size A n f) (hd : Hd f n) :
    Calls Tryd.prog 14 #[.slice A n c] w fun e w' => ∃ A' c', e = .returned (.slice A' (sy f n 8).length c') ∧ Reads w' w'.heap.size A' (sy f n 8).length (ints (sy f n 8)) ∧ Below w.heap.size w w' := by
  obtain ⟨i0, hi, hz0, hz1, hz2⟩ := info_parts Tryd.info_int
  have RI := Lib.hid (hright_any A n c f w h hd)
  have hn := hd.1.2
  have hz : 0 < w.heap.size := hM.1
  have H := Lib.hid h
  have MH := Lib.hid hM
  have HD := Lib.hid hd
  clear h hM hd
  go_enter Tryd.func14, Tryd.ntmps14
  go_wp2_with (go_at_call 12; (with_reducible refine RI.out.mono ?_); rintro e w1 ⟨rfl, hb⟩; have B1 := Lib.hid hb; clear hb)
  go_loopw [3, 8] (fun lv jv wr => ∃ (j : Nat) (l : List Nat) (A' : Option Addr) (c' : Nat), j ≤ 8 ∧ jv = .int .i64 (j : Int) ∧ l = sy f n j ∧ l.length ≤ j ∧ lv = .slice A' l.length c' ∧ wr.ownsRow w.heap.size 3 1 (.slice A' l.length c') l.length (ints l) ∧ Below w.heap.size w wr) (fun _ jv _ => 8 - (intOf jv).toNat)
  case atStart => exact ⟨0, [], none, 0, Nat.zero_le _, rfl, rfl, Nat.zero_le _, rfl, World.ownsRow_nil _ _ _ _, B1.out⟩
  case round =>
    obtain ⟨j, l, A', c', hj, rfl, hl, hll, rfl, hown, hbel⟩ := hrel
    have HB := Lib.hid hbel
    have HW := Lib.hid hown
    have HL := Lib.hid hl
    have hsz := hbel.size
    clear hown hbel hl RI B1
    by_cases hjn : j < 8
    · have IM := Lib.hid (image_any (j : Int) A n c f wr (MH.out.below HB.out hz) ((H.out.below HB.out).more hsz) HD.out)
      rw [md_nat j hjn] at IM
      have SM := Lib.hid (fun (w2 w4 : World) (A2 : Option Addr) (c2 : Nat) (f' : Nat → P2) (hb : Below wr.heap.size wr w4) (h1 : QReads w4 w4.heap.size A2 n f') (h2 : (lst f' n).Perm (lst (tn j f) n)) (h3 : Up f' n) => by
        have := hsame_any A2 A n n c2 c f' f w4 h1 ((((H.out.below HB.out).more hsz).below hb).more hb.size) (by omega) (by omega)
        rwa [sm_sk HD.out.up h3 h2] at this)
      have step := sy_succ f n j
      generalize sk f n j = q at SM step
      have STEP := Lib.hid step
      clear step
      cases q with
      | true =>
        go_wp2_with (first
          | (go_at_call 25; (with_reducible refine IM.out.mono ?_); rintro e w4 ⟨A2, c2, f', rfl, h1, h2, h3, hb⟩; have S4 := Lib.hid (SM.out w4 w4 A2 c2 f' hb h1 h2 h3); have C4 := Lib.hid hb; clear h1 h2 h3 hb)
          | (go_at_call 5; (with_reducible refine S4.out.mono ?_); rintro e w5 ⟨rfl, hb⟩; have C5 := Lib.hid (C4.out.trans (hb.mono C4.out.size)); have B5 := Lib.hid (HB.out.trans (C5.out.mono hsz)); have W5 := own_below HW.out C5.out; have hs5 := B5.out.size; clear hb)
          | (at_builtin; refine wpList_append1 rfl _ _ 32 rfl w.heap.size 3 i0 (.int .i64 0) 8 Tryd.underlying32 hi hz0 hz1 hz2 rfl A' l.length c' _ rfl W5 (.int .i64 (j : Int)) rfl rfl (by unfold maxLen; omega) (by omega) hs5 ?_; intro g6 c6 w6 hown6 hbel6))
        go_roundw
        case rel => exact ⟨j + 1, l ++ [j], some ⟨g6, 0, none⟩, c6, by omega, by go_num, by rw [STEP.out, HL.out]; rfl, by (simp; omega), by simp, by simpa [ints] using hown6, B5.out.trans hbel6⟩
        case measure => simp [intOf]; omega
      | false =>
        go_wp2_with (first
          | (go_at_call 25; (with_reducible refine IM.out.mono ?_); rintro e w4 ⟨A2, c2, f', rfl, h1, h2, h3, hb⟩; have S4 := Lib.hid (SM.out w4 w4 A2 c2 f' hb h1 h2 h3); have C4 := Lib.hid hb; clear h1 h2 h3 hb)
          | (go_at_call 5; (with_reducible refine S4.out.mono ?_); rintro e w5 ⟨rfl, hb⟩; have C5 := Lib.hid (C4.out.trans (hb.mono C4.out.size)); have B5 := Lib.hid (HB.out.trans (C5.out.mono hsz)); have W5 := own_below HW.out C5.out; have hs5 := B5.out.size; clear hb))
        go_roundw
        case rel => exact ⟨j + 1, l, A', c', by omega, by go_num, by rw [STEP.out, HL.out]; rfl, by omega, rfl, W5, B5.out⟩
        case measure => simp [intOf]; omega
    · obtain rfl : j = 8 := by omega
      go_wp2
      go_ret
      have hl := HL.out
      subst hl
      exact ⟨A', c', rfl, Reads.of_own HW.out, HB.out⟩
end Go.Proofs.YtgnnemlnjflifaaDoor
