/- The reference's Eval at valid circuits. -/
import Derived.Test.YtpkhioiabahhaaaRva
namespace Go.Proofs.Ytpkhioiabahhaaa
open Go.RowKit

/-- the outputs' values -/
def bo17 (V : List Bool) (o : List Int) : List Bool := o.map fun k => bg V k.toNat
theorem bo17_len (V : List Bool) (o : List Int) : (bo17 V o).length = o.length := by simp [bo17]
theorem bo17_take (V : List Bool) (o : List Int) (i : Nat) (h : i < o.length) : bo17 V (o.take (i + 1)) = bo17 V (o.take i) ++ [bg V (ig o i).toNat] := by
  unfold bo17
  rw [List.take_add_one, List.map_append, List.getElem?_eq_getElem h]
  simp [ig, List.getD_eq_getElem?_getD, h]
set_option maxRecDepth 100000 in
set_option maxHeartbeats 8000000 in
theorem reval17_any (AG AO : Option Addr) (ai : Addr) (cG cO cI : Nat) (C : Cr) (l : List Bool) (w : World) (h : CS w AG AO C) (hi : Reads w w.heap.size (some ai) l.length (bl l)) (hr : rt C = true) (hl : C.ins = (l.length : Int)) (hl0 : 0 < l.length) :
    Calls Try.prog 11 #[.agg #[.int .i64 C.ins, .slice AG C.n cG, .slice AO C.o.length cO], .slice (some ai) l.length cI] w fun e w' => ∃ A c, e = .returned (.tuple #[.slice A C.o.length c, .int .i64 0]) ∧ Reads w' w'.heap.size A C.o.length (bl (bo17 (bvn C.g l C.n) C.o)) ∧ Below w.heap.size w w' := by
  obtain ⟨i0, hi0, hz0, hz1, hz2⟩ := info_parts info_boolV
  have RI := Lib.hid (fun w' (hb : Below w.heap.size w w') => rright17_yes AG AO cG cO C w' (h.later hb) hr)
  have VA := Lib.hid (fun w' (hb : Below w.heap.size w w') => rvalues_any AG AO ai cG cO cI C l w' (h.later hb) (hi.later hb) hr hl hl0)
  obtain ⟨hok, hgs, hos⟩ := (rt_iff C).1 hr
  have HO := h.2
  have hbv := bvn_len C.g l C.n
  obtain ⟨V, hV⟩ : ∃ V, bvn C.g l C.n = V := ⟨_, rfl⟩
  rw [hV] at hbv VA ⊢
  clear hr h hgs hV
  obtain ⟨I, n, g, o⟩ := C
  simp only at *
  obtain ⟨q, hq⟩ : ∃ q, o.length = q := ⟨_, rfl⟩
  have HQ := Lib.hid hq
  rw [hq] at hok RI VA hos HO ⊢
  subst hl
  obtain ⟨-, h1, h2, h3⟩ := hok
  obtain ⟨m, hm⟩ : ∃ m, l.length = m := ⟨_, rfl⟩
  rw [hm] at hi h1 hl0 RI VA hos hbv ⊢
  have B1 := (Below.refl w.heap.size w).alloc (Nat.le_refl _) (.cells #[.int .i64 (m : Int), .slice AG n cG, .slice AO q cO] 34)
  have K1 := Lib.hid (Blk.new w 34 #[.int .i64 (m : Int), .slice AG n cG, .slice AO q cO])
  have HO := Lib.hid (Reads.later HO B1)
  have B1 := Lib.hid B1
  have HOS := Lib.hid hos
  have HBV := Lib.hid hbv
  clear hi hos hbv hm hq
  go_enter Try.func11, Try.ntmps11
  go_upto_region 1 with (fail)
  generalize w.alloc (.cells #[.int .i64 (m : Int), .slice AG n cG, .slice AO q cO] 34) = w1 at *
  obtain ⟨a0, a1, a2, _, _, _, a6⟩ := K1.out.three6
  go_upto_region 3 with (go_at_call 25; (with_reducible refine (RI.out _ B1.out).mono ?_); rintro e w2 ⟨rfl, hb⟩; have B2 := Lib.hid hb; have K2 := Lib.hid (K1.out.below hb K1.out.lt); obtain ⟨b0, b1, b2, _, _, _, b6⟩ := K2.out.three6; clear hb)
  have B12 := Lib.hid (B1.out.trans (B2.out.mono B1.out.size))
  clear a0 a1 a2
  go_upto_region 4 with (go_at_call 26; (with_reducible refine (VA.out _ B12.out).mono ?_); rintro e w3 ⟨A3, c3, rfl, hrd, hb⟩; have B3 := Lib.hid hb; have R3 := Lib.hid hrd; have K3 := Lib.hid (K2.out.below hb K2.out.lt); clear hb hrd)
  have B13 := Lib.hid (B12.out.trans (B3.out.mono B12.out.size))
  have HO3 := Lib.hid ((HO.out.later B2.out).later B3.out)
  obtain ⟨M, hM⟩ : ∃ M, m + n = M := ⟨_, rfl⟩
  rw [hM] at R3 ⊢
  have HM := Lib.hid hM
  have hMb : M ≤ 21000 := by omega
  obtain ⟨ad3, hA3, _, _⟩ := R3.out.2 (by omega)
  subst hA3
  clear b0 b1 b2 hM
  exact (by
    go_wp2_with fail
    go_loopw [7, 8] (fun vv iv wr => ∃ (j : Nat) (A : Option Addr) (c : Nat), j ≤ q ∧ vv = .slice A j c ∧ iv = .int .i64 (j : Int) ∧ Hid (wr.ownsRow w3.heap.size 4 1 (.slice A j c) j (bl (bo17 V (o.take j)))) ∧ Hid (Below w3.heap.size w3 wr)) (fun _ iv _ => q - (intOf iv).toNat)
    case atStart => exact ⟨0, none, 0, Nat.zero_le _, rfl, rfl, Lib.hid (World.ownsRow_nil _ _ _ _), Lib.hid (Below.refl _ _)⟩
    case round =>
      obtain ⟨j, A, c, hj, rfl, rfl, HW, HB⟩ := hrel
      have K4 := K3.out.below HB.out K3.out.lt
      obtain ⟨d0, d1, d2, _, _, _, d6⟩ := K4.three6
      have K4 := Lib.hid K4
      by_cases hk : j < q
      · obtain ⟨ad, rfl, _, hc⟩ := il_at (HO3.out.below HB.out) hk
        obtain ⟨p1, p2⟩ := (isw_iff _ _).1 (HOS.out j hk)
        have HTK := Lib.hid (bo17_take V o j (by rw [HQ.out]; exact hk))
        generalize ig o j = x at hc p1 p2 HTK
        obtain ⟨x, rfl⟩ : ∃ k : Nat, x = (k : Int) := ⟨x.toNat, by omega⟩
        have hxM : x < M := by have := HM.out; omega
        obtain ⟨ad', e', _, hcx⟩ := bl_at (R3.out.below HB.out) hxM
        injection e' with e'
        subst e'
        obtain ⟨y, hy⟩ : ∃ y, bg V x = y := ⟨_, rfl⟩
        rw [Int.toNat_natCast, hy] at HTK
        rw [hy] at hcx
        have lx : (x : Int) < (M : Int) := by omega
        have SZ := HB.out.size
        clear hy p1 p2
        go_wp2_with (at_builtin; refine wpList_append1B rfl _ _ 26 rfl w3.heap.size 4 i0 (.bool false) 1 Try.underlying26 hi0 hz0 hz1 hz2 rfl _ j c _ rfl HW.out (.bool y) rfl rfl (by unfold maxLen; omega) (by omega) SZ ?_; intro g' c5 w5 hown5 hbel5; have O5 := Lib.hid hown5; have B5 := Lib.hid hbel5; clear hown5 hbel5)
        go_roundw
        case rel => exact ⟨j + 1, some ⟨g', 0, none⟩, c5, by omega, rfl, by go_num, Lib.hid (by rw [HTK.out, bl_add]; exact O5.out), Lib.hid (HB.out.trans B5.out)⟩
        case measure => simp [intOf]; omega
      · obtain rfl : j = q := by omega
        have HR := Lib.hid (Reads.of_own HW.out)
        go_wp2
        go_ret2
        exact ⟨A, c, rfl, by have := HR.out; rwa [show o.take j = o by rw [← HQ.out]; exact List.take_length] at this, B13.out.trans (HB.out.mono B13.out.size)⟩)
end Go.Proofs.Ytpkhioiabahhaaa
