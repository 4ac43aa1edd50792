/- The walk of Inputs. -/
import Derived.Test.YtpkhioiabahhaaaSta
import Derived.Test.YtpkhioiabahhaaaTFol
namespace Go.Proofs.Ytpkhioiabahhaaa
open Go.RowKit

/-- the inputs of states -/
def bitsl (b : Nat) (ns : List Nat) : List Bool := ns.flatMap fun s => (List.range b).map (bt s)
theorem bitsl_len (b : Nat) (ns : List Nat) : (bitsl b ns).length = ns.length * b := by
  induction ns with
  | nil => simp [bitsl]
  | cons x r ih => simp only [bitsl, List.flatMap_cons, List.length_append, List.length_map, List.length_range, List.length_cons] at ih ⊢; rw [ih, Nat.succ_mul]; omega
theorem bitsl_take (b : Nat) (ns : List Nat) (j : Nat) (h : j < ns.length) : bitsl b (ns.take (j + 1)) = bitsl b (ns.take j) ++ (List.range b).map (bt (ns.getD j 0)) := by
  unfold bitsl
  rw [List.take_add_one, List.getElem?_eq_getElem h, List.flatMap_append]
  simp [List.getD_eq_getElem?_getD, h]
section
variable (AH AN : Option Addr) (cH cN : Nat) (T : Tr) (st : Nat) (w : World)
set_option maxRecDepth 100000 in
set_option maxHeartbeats 4000000 in
theorem linp_err (AI : Option Addr) (cI q : Nat) (l : List Int) (er : Int) (h : TS w AH AN T) (ht : Rt T) (hI : Reads w w.heap.size AI q (il l)) (hq : q ≤ 1000000) (he : (ev T.st T.n l (fo T.nx ((T.m - 1 : Nat) : Int) l)).2 = er) (hne : er ≠ 0) :
    Calls Try.prog 16 #[.agg #[.int .i64 T.st, .slice AH T.n cH, .slice AN T.m cN], .slice AI q cI] w fun e w' => e = .returned (.tuple #[.slice none 0 0, .int .i64 er]) ∧ Below w.heap.size w w' := by
  have EV := Lib.hid (fun w' (hb : Below w.heap.size w w') => eval_any AH cH AN cN T AI cI l w' q (h.later hb) ht (hI.later hb) hq)
  rw [he] at EV
  generalize (ev T.st T.n l (fo T.nx ((T.m - 1 : Nat) : Int) l)).1 = x at EV
  have hne' : (er != 0) = true := by rw [bne_iff_ne]; exact hne
  generalize T.st = st' at *
  generalize T.n = n at *
  generalize T.m = m at *
  have B1 := Lib.hid ((Below.refl w.heap.size w).alloc (Nat.le_refl _) (.cells #[.int .i64 st', .slice AH n cH, .slice AN m cN] 25))
  clear h ht hI he hne
  go_enter Try.func16, Try.ntmps16
  go_wp2_with (go_at_call 15; (with_reducible refine (EV.out _ B1.out).mono ?_); rintro e w1 ⟨rfl, hb⟩; have B2 := Lib.hid (B1.out.trans (hb.mono B1.out.size)); clear hb)
  go_ret2
  exact ⟨rfl, B2.out⟩
set_option maxRecDepth 100000 in
set_option maxHeartbeats 8000000 in
theorem linp_ok (AI : Option Addr) (cI : Nat) (ns : List Nat) (h : TS w AH AN T) (ht : Rt T) (hst : T.st = (st : Int)) (hn : ns.length = T.n) (hs : ∀ j, j < ns.length → ns.getD j 0 < st) (hI : Reads w w.heap.size AI ns.length (il (nl ns))) :
    Calls Try.prog 16 #[.agg #[.int .i64 T.st, .slice AH T.n cH, .slice AN T.m cN], .slice AI ns.length cI] w fun e w' => ∃ A c, e = .returned (.tuple #[.slice A (ns.length * bs st) c, .int .i64 0]) ∧ Reads w' w'.heap.size A (ns.length * bs st) (bl (bitsl (bs st) ns)) ∧ Below w.heap.size w w' := by
  obtain ⟨i0, hi0, hz0, hz1, hz2⟩ := info_parts info_boolV
  have n2 := ht.hd.1.2
  have s1 := ht.s1
  have s2 := ht.s2
  have EV := Lib.hid (fun w' (hb : Below w.heap.size w w') => eval_any AH cH AN cN T AI cI (nl ns) w' ns.length (h.later hb) ht (hI.later hb) (by omega))
  have he : (ev T.st T.n (nl ns) (fo T.nx ((T.m - 1 : Nat) : Int) (nl ns))).2 = 0 := by
    have hal : als T.st (nl ns) = true := (als_iff _ _).2 fun i hi => by
      have hi' : i < ns.length := by simpa [nl] using hi
      have := hs i hi'
      rw [nl_ig]
      omega
    rw [ev, if_pos (by simp [nl, hn]), if_pos hal]
  rw [he] at EV
  generalize (ev T.st T.n (nl ns) (fo T.nx ((T.m - 1 : Nat) : Int) (nl ns))).1 = x at EV
  have BI := Lib.hid (fun w' => bits_any st w' (by omega) (by omega))
  have hb3 : bs st ≤ 3 := by unfold bs; split <;> (try split) <;> omega
  have hst8 : st ≤ 8 := by omega
  generalize bs st = b at *
  rw [hst] at EV ⊢
  generalize T.n = n at *
  generalize T.m = m at *
  obtain ⟨q, hq⟩ : ∃ q, ns.length = q := ⟨_, rfl⟩
  rw [hq] at EV hn hs hI ⊢
  have hq25 : q ≤ 25 := by omega
  have B1 := Lib.hid ((Below.refl w.heap.size w).alloc (Nat.le_refl _) (.cells #[.int .i64 (st : Int), .slice AH n cH, .slice AN m cN] 25))
  have K1 := Lib.hid (Blk.new w 25 #[.int .i64 (st : Int), .slice AH n cH, .slice AN m cN])
  have HQ := Lib.hid hq
  have HS := Lib.hid hs
  have HI := Lib.hid hI
  obtain ⟨P, hP⟩ : ∃ P, q * b = P := ⟨_, rfl⟩
  have HP := Lib.hid hP
  rw [hP]
  clear h ht hI he hs hq hn n2 s1 s2 hst hP
  go_enter Try.func16, Try.ntmps16
  go_upto_region 1 with (fail)
  generalize w.alloc (.cells #[.int .i64 (st : Int), .slice AH n cH, .slice AN m cN] 25) = w1 at *
  obtain ⟨a0, a1, a2, _, _, _, a6⟩ := K1.out.three6
  go_upto_region 2 with (go_at_call 15; (with_reducible refine (EV.out _ B1.out).mono ?_); rintro e w2 ⟨rfl, hb⟩; have B2 := Lib.hid (B1.out.trans (hb.mono B1.out.size)); have K2 := Lib.hid (K1.out.below hb K1.out.lt); clear hb)
  have HI2 := Lib.hid (HI.out.later B2.out)
  clear a0 a1 a2
  exact (by
    go_wp2_with fail
    go_loopw [8, 23] (fun vv iv wr => ∃ (j : Nat) (A : Option Addr) (c M : Nat), j ≤ q ∧ vv = .slice A M c ∧ iv = .int .i64 (j : Int) ∧ Hid (M = j * b) ∧ Hid (wr.ownsRow w2.heap.size 4 1 (.slice A M c) M (bl (bitsl b (ns.take j)))) ∧ Hid (Below w2.heap.size w2 wr)) (fun _ iv _ => q - (intOf iv).toNat)
    case atStart => exact ⟨0, none, 0, 0, Nat.zero_le _, rfl, rfl, Lib.hid (by omega), Lib.hid (World.ownsRow_nil _ _ _ _), Lib.hid (Below.refl _ _)⟩
    case round =>
      obtain ⟨j, A, c, M, hj, rfl, rfl, HM, HW, HB⟩ := hrel
      by_cases hk : j < q
      · obtain ⟨k0, k1, k2, _, _, _, k6⟩ := (K2.out.below HB.out K2.out.lt).three6
        obtain ⟨ad, hA, _, hc⟩ := il_at (HI2.out.below HB.out) hk
        subst hA
        rw [nl_ig] at hc
        have hs8 := HS.out j hk
        have HT := Lib.hid (bitsl_take b ns j (by rw [HQ.out]; exact hk))
        generalize ns.getD j 0 = s at hc hs8 HT
        have hMb : M ≤ 100 := by
          have h1 := HM.out
          have : j * b ≤ 25 * 3 := Nat.mul_le_mul (by omega) hb3
          omega
        have hs9 : s < 8 := by omega
        clear k1 k2 hs8
        exact (by
          go_wp2_with (go_at_call 22; (with_reducible refine (BI.out _).mono ?_); rintro e w4 ⟨rfl, rfl⟩)
          go_loopw [8, 30] (fun vv iv wx => ∃ (k : Nat) (A' : Option Addr) (c' M' : Nat), k ≤ b ∧ vv = .slice A' M' c' ∧ iv = .int .i64 (k : Int) ∧ Hid (M' = M + k) ∧ Hid (wx.ownsRow w2.heap.size 4 1 (.slice A' M' c') M' (bl (bitsl b (ns.take j) ++ (List.range k).map (bt s)))) ∧ Hid (Below w2.heap.size w2 wx)) (fun _ iv _ => b - (intOf iv).toNat)
          case atStart => exact ⟨0, A, c, M, Nat.zero_le _, rfl, rfl, Lib.hid rfl, by simpa using HW, HB⟩
          case round =>
            obtain ⟨k, A', c', M', hk', rfl, rfl, HM', HW', HB'⟩ := hrel
            by_cases hkb : k < b
            · have DG := Lib.hid (fun w' => digit_any s k w' hs9 (by omega))
              obtain ⟨y, hy⟩ : ∃ y, bt s k = y := ⟨_, rfl⟩
              rw [hy] at DG
              have HY := Lib.hid hy
              have SZ := HB'.out.size
              have hM2 : M' ≤ 110 := by have := HM'.out; omega
              clear hy
              go_wp2_with (first
                | (go_at_call 34; (with_reducible refine (DG.out _).mono ?_); rintro e w5 ⟨rfl, rfl⟩)
                | (at_builtin; refine wpList_append1B rfl _ _ 26 rfl w2.heap.size 4 i0 (.bool false) 1 Try.underlying26 hi0 hz0 hz1 hz2 rfl _ M' c' _ rfl HW'.out (.bool y) rfl rfl (by unfold maxLen; omega) (by omega) SZ ?_; intro g' c5 w5 hown5 hbel5; have O5 := Lib.hid hown5; have B5 := Lib.hid hbel5; clear hown5 hbel5))
              go_roundw
              case rel => exact ⟨k + 1, some ⟨g', 0, none⟩, c5, M' + 1, by omega, rfl, by go_num, Lib.hid (by have := HM'.out; omega), Lib.hid (by rw [List.range_succ, List.map_append, ← List.append_assoc, List.map_cons, List.map_nil, HY.out, bl_add]; exact O5.out), Lib.hid (HB'.out.trans B5.out)⟩
              case measure => simp [intOf]; omega
            · obtain rfl : k = b := by omega
              go_wp2_with fail
              go_roundw
              case rel => exact ⟨j + 1, A', c', M', by omega, rfl, by go_num, Lib.hid (by have := HM'.out; have := HM.out; rw [Nat.succ_mul]; omega), Lib.hid (by rw [HT.out]; exact HW'.out), HB'⟩
              case measure => simp [intOf]; omega)
      · obtain rfl : j = q := by omega
        have HR := Lib.hid (Reads.of_own HW.out)
        have hMP : M = P := by have := HM.out; have := HP.out; omega
        subst hMP
        go_wp2
        go_ret2
        exact ⟨A, c, rfl, by have := HR.out; rwa [show ns.take j = ns by rw [← HQ.out]; exact List.take_length] at this, B2.out.trans (HB.out.mono B2.out.size)⟩)
end
end Go.Proofs.Ytpkhioiabahhaaa
