/- The walk of the reference's Parse. -/
import Derived.Test.YtckkbeknjipddaaDoorBig
import Derived.Test.YtckkbeknjipddaaDoorParse
namespace Go.Proofs.YtckkbeknjipddaaDoor
open Go.RowKit

theorem Tryd.info_int : (Tryd.prog.info? 3).map (fun i => (i.zero, i.size, i.bytes)) = some (some (.int .i64 0), 1, 8) := by kernel_rfl

theorem rep_len (b : Nat) (t : List Nat) : (rep b t).length ≤ t.length := by
  have h : ∀ (t : List Nat) (ds : List Nat), (t.foldl (fun ds c => mulAdd b 10 ds (c - 48)) ds).length ≤ ds.length + t.length := by
    intro t
    induction t with
    | nil => intro ds; simp
    | cons c t ih =>
      intro ds
      have h1 := ih (mulAdd b 10 ds (c - 48))
      have h2 := (mulAdd_len b 10 ds (c - 48)).2
      simp only [List.foldl_cons, List.length_cons]
      omega
  have := h t []
  simpa [rep] using this

theorem pspec_big {l : List Nat} {neg : Bool} {ds : List Nat} (hF : formB l = true) (hD : isDecB (bodyL l) = true) (hZ : (minusB l && bodyL l == [48]) = false) (hM : minusB l = neg) (hS : Can 256 ds) (hv : val 256 ds = decVal (bodyL l)) :
    PSpec l (bigN neg ds) (bigD ds) (bigE ds) := by
  have ht : trimL ds = ds := trimL_of_can (by decide) hS
  unfold bigN bigD bigE
  rw [ht]
  by_cases h : 256 < ds.length
  · rw [if_pos h, if_pos h, if_pos h]
    exact Or.inr (Or.inl ⟨hF, by rw [← hv]; exact (long8 hS).1 h, rfl, rfl, rfl⟩)
  · rw [if_neg h, if_neg h, if_neg h]
    refine Or.inr (Or.inr ⟨hF, ?_, rfl, ?_, grp_can hS, by rw [grp_val, hv]⟩)
    · have := mt (long8 hS).2 h
      rw [← hv]; omega
    · rw [hM]
      cases neg with
      | false => rfl
      | true =>
        rw [hM, Bool.true_and] at hZ
        have hp : 0 < decVal (bodyL l) := dec_pos hD (by intro e; rw [e] at hZ; cases hZ)
        rw [← hv] at hp
        have : 0 < ds.length := by
          rcases Nat.eq_zero_or_pos ds.length with h0 | h0
          · have := List.eq_nil_of_length_eq_zero h0
            subst this
            simp [val] at hp
          · exact h0
        simpa using this
def MidSt (ds : List Nat) (n c0 q : Nat) (L : List Nat) (r : Nat) : Prop :=
  (q ≤ n ∧ r = mulCar 256 10 (ds.take q) c0 ∧ L = mulDigs 256 10 (ds.take q) c0) ∨ (q = n + 1 ∧ r = 0 ∧ L = mulAdd 256 10 ds c0)
theorem dec_long {l : List Nat} (h : isDecB l = true) (hl : 1000 < l.length) : lim ≤ decVal l := by
  unfold isDecB at h
  simp only [Bool.and_eq_true, Bool.or_eq_true, beq_iff_eq, bne_iff_ne, ne_eq] at h
  obtain ⟨h1, h2⟩ := h
  rcases h2 with h2 | ⟨h2, h3⟩
  · subst h2; simp at hl
  · cases l with
    | nil => exact absurd rfl h2
    | cons c t =>
      simp only [List.all_cons, Bool.and_eq_true, digB, decide_eq_true_eq] at h1
      have h4 : ¬ c = 48 := by simpa using h3
      obtain ⟨e, he, hl10⟩ := lim10
      refine Nat.le_trans hl10 (Nat.le_trans (Nat.pow_le_pow_right (by omega) ?_) (decVal_low (by omega)))
      simp at hl; omega

set_option maxRecDepth 100000 in
set_option maxHeartbeats 1000000 in
theorem rparse_any (s : ByteArray) (w : World) (hn : s.size ≤ maxLen) :
    Calls Tryd.prog 7 #[.string s] w (ParsePost (bs s) w) := by
  have hform := rform_any s (w.alloc (.cells #[.bool false, .slice none 0 0] 24)) hn
  have hle := bodyS_le s
  by_cases hF : formB (bs s) = true
  · rw [hF] at hform
    have HFM := Lib.hid hform; clear hform
    have hdec : isDecB (bodyL (bs s)) = true := by
      unfold formB at hF
      simp only [Bool.and_eq_true] at hF
      exact hF.1
    have hzz : (minusB (bs s) && bodyL (bs s) == [48]) = false := by
      unfold formB at hF
      simp only [Bool.and_eq_true, Bool.not_eq_true'] at hF
      exact hF.2
    have hne : 0 < s.size := by
      rcases Nat.eq_zero_or_pos s.size with h | h
      · exfalso
        have e : bs s = [] := List.eq_nil_of_length_eq_zero (by rw [bs_len]; exact h)
        rw [e] at hdec
        cases hdec
      · exact h
    have HF := Lib.hid hF; clear hF
    have HD := Lib.hid hdec; clear hdec
    have HZ := Lib.hid hzz; clear hzz
    obtain ⟨i0, hi, hz0, hz1, hz2⟩ := info_parts Tryd.info_int
    unfold maxLen at hn
    by_cases hm : minusB (bs s) = true
    · have h45 : (s[0].toNat : Int) = 45 := by
        have := bs_at s 0 hne
        unfold minusB List.getD at hm
        rw [this] at hm
        have : s[0].toNat = 45 := by simpa using hm
        omega
      have HT := Lib.hid (show bs (s.extract 1 s.size) = bodyL (bs s) by rw [bs_tail]; unfold bodyL; rw [if_pos hm])
      have hts : (s.extract 1 s.size).size = s.size - 1 := by simp
      have HM := Lib.hid hm; clear hm
      by_cases hlong : 1000 < s.size - 1
      · have HP := Lib.hid (show PSpec (bs s) false [] 6 from Or.inr (Or.inl ⟨HF.out, dec_long HD.out (by rw [← HT.out, bs_len, hts]; exact hlong), rfl, rfl, rfl⟩))
        clear hts
        go_enter Tryd.func7, Tryd.ntmps7
        go_wp2_with (go_at_call 25; refine HFM.out.mono ?_; rintro e w' ⟨rfl, rfl⟩)
        refine bodyPost_ret (v := .tuple #[.agg #[.bool false, .slice none 0 0], .int .i64 6]) (by simp [results, Tryd.results7, go_sem]) rfl ⟨_, false, [], 6, rfl, BigIs.zero _ _ _, HP.out, ?_⟩
        exact by repeat (first | exact Below.refl _ _ | refine Below.setCell ?_ (Nat.le_refl _) _ | refine Below.alloc ?_ (Nat.le_refl _) _)
      · have hts2 : (s.extract 1 s.size).size ≤ 1000 := by omega
        have HTS := Lib.hid hts2
        clear hts hts2
        go_enter Tryd.func7, Tryd.ntmps7
        go_wp2_with (go_at_call 25; refine HFM.out.mono ?_; rintro e w' ⟨rfl, rfl⟩)
        obtain ⟨t, ht⟩ : ∃ t, t = s.extract 1 s.size := ⟨_, rfl⟩
        have hts := HTS.out
        rw [← ht] at hts ⊢
        have HB := Lib.hid (show bs t = bodyL (bs s) by rw [ht]; exact HT.out)
        have HA := Lib.hid (show (bs t).all digB = true by rw [HB.out]; exact isDec_all HD.out)
        clear HT HTS ht
        go_loopw [5, 6] (fun lv i wr => ∃ (k : Nat) (A : Option Addr) (c : Nat), k ≤ t.size ∧ i = .int .i64 k ∧ lv = .slice A (rep 256 ((bs t).take k)).length c ∧ (rep 256 ((bs t).take k)).length ≤ c ∧
            Reads wr wr.heap.size A (rep 256 ((bs t).take k)).length (ints (rep 256 ((bs t).take k))) ∧ Below (w.heap.size + 1) (w.alloc (.cells #[.bool false, .slice none 0 0] 24)) wr)
          (fun _ i _ => t.size - (intOf i).toNat)
        case atStart => exact ⟨0, none, 0, Nat.zero_le _, rfl, rfl, Nat.le_refl _, Reads.none_, Below.refl _ _⟩
        case round =>
          obtain ⟨k, A, c, hk, rfl, rfl, hc, hrd, hbel⟩ := hrel
          have hsz := hbel.size
          simp at hsz
          have hspec := rep_spec (b := 256) (by decide) ((bs t).take k) (by rw [List.all_eq_true]; exact fun d hd => List.all_eq_true.1 HA.out d (List.mem_of_mem_take hd))
          have hrl := rep_len 256 ((bs t).take k)
          rw [List.length_take] at hrl
          obtain ⟨ds, hds⟩ : ∃ ds, ds = rep 256 ((bs t).take k) := ⟨_, rfl⟩
          rw [← hds] at hc hrd hspec hrl ⊢
          have HS := Lib.hid hspec; clear hspec
          have HDS := Lib.hid hds; clear hds
          obtain ⟨n, hn0⟩ : ∃ n, n = ds.length := ⟨_, rfl⟩
          rw [← hn0] at hc hrd hrl ⊢
          have HN0 := Lib.hid hn0; clear hn0
          have hnk : n ≤ 1000 := by omega
          clear hrl
          by_cases hlt : k < t.size
          · have HK := Lib.hid (bs_at t k hlt)
            have hdig := List.all_eq_true.1 HA.out _ (List.mem_of_getElem? HK.out)
            simp only [digB, Bool.and_eq_true, decide_eq_true_eq] at hdig
            have HN := Lib.hid (show rep 256 ((bs t).take (k + 1)) = mulAdd 256 10 ds (t[k].toNat - 48) by
              rw [List.take_add_one, HK.out, Option.toList_some, rep_snoc, ← HDS.out])
            obtain ⟨h48, h57⟩ := hdig
            go_wp2
            obtain ⟨w0, rfl⟩ : ∃ w0, w0 = wr := ⟨_, rfl⟩
            go_loopw [7, 8, 9] (fun nx cr qi wr => ∃ (q : Nat) (A2 : Option Addr) (c2 : Nat) (L : List Nat) (r : Nat), qi = .int .i64 q ∧ cr = .int .i64 r ∧ nx = .slice A2 L.length c2 ∧ MidSt ds n (t[k].toNat - 48) q L r ∧
                wr.ownsRow w0.heap.size 3 1 (.slice A2 L.length c2) L.length (ints L) ∧ Below w0.heap.size w0 wr)
              (fun _ _ q _ => n + 1 - (intOf q).toNat)
            case atStart => exact ⟨0, none, 0, [], t[k].toNat - 48, rfl, by go_num, rfl, Or.inl ⟨Nat.zero_le _, rfl, rfl⟩, World.ownsRow_nil _ _ _ _, Below.refl _ _⟩
            case round =>
              obtain ⟨q, A2, c2, L, r, rfl, rfl, rfl, hst, hown, hbi⟩ := hrel
              have hsi := hbi.size
              rcases hst with ⟨hq, hr, hL⟩ | ⟨hq, hr, hL⟩
              · have hr10 : r < 10 := by
                  rw [hr]; exact mulCar_lt (by decide) _ _ (fun d hd => HS.out.1.1 d (List.mem_of_mem_take hd)) (by omega)
                have hLl : L.length = q := by rw [hL, mulDigs_len, List.length_take, ← HN0.out]; omega
                have HR := Lib.hid hr
                have HL := Lib.hid hL
                have HLL := Lib.hid hLl
                have hL2 : L.length ≤ 1000 := by omega
                clear hr hL hLl
                by_cases hqn : q < n
                · have hql : q < ds.length := by rw [← HN0.out]; exact hqn
                  have hx := HS.out.1.1 ds[q] (List.getElem_mem hql)
                  obtain ⟨x, hxe⟩ : ∃ x, x = ds.getD q 0 := ⟨_, rfl⟩
                  have hxe2 : x = ds[q] := by rw [hxe]; simp [List.getD, hql]
                  rw [← hxe2] at hx
                  have hdg := digit_any A n c w0.heap.size q ds wr (hrd.below hbi) (by unfold maxLen; omega) (by unfold maxLen; omega)
                  rw [← hxe] at hdg
                  have HX := Lib.hid hxe2
                  have HDG := Lib.hid hdg
                  clear hxe hxe2 hdg
                  go_wp2_with (first | (go_at_call 26; refine HDG.out.mono ?_; rintro e w' ⟨rfl, rfl⟩) | (at_builtin; refine wpList_append1 rfl _ _ 48 rfl w0.heap.size 3 i0 (.int .i64 0) 8 Tryd.underlying48 hi hz0 hz1 hz2 rfl _ _ _ _ rfl hown (.int .i64 ((10 * (x : Int) + r) % 256)) rfl rfl (by unfold maxLen; omega) (by omega) hsi ?_; intro g' c3 w1 hown' hbel'))
                  go_roundw
                  case rel =>
                    refine ⟨q + 1, some ⟨g', 0, none⟩, c3, L ++ [(x * 10 + r) % 256], (x * 10 + r) / 256, by go_num, ?_, ?_, ?_, ?_, hbi.trans hbel'⟩
                    · exact congrArg (Value.int .i64) (by omega)
                    · simp
                    · refine Or.inl ⟨by omega, ?_, ?_⟩
                      · rw [List.take_succ_eq_append_getElem hql, mulCar_snoc, ← HX.out, ← HR.out]
                      · rw [List.take_succ_eq_append_getElem hql, mulDigs_snoc, ← HX.out, ← HR.out, ← HL.out]
                    · have e : ints (L ++ [(x * 10 + r) % 256]) = ints L ++ [.int .i64 ((10 * (x : Int) + r) % 256)] := by
                        simp [ints, Int.mul_comm]
                      rw [e, List.length_append]
                      exact hown'
                  case measure => first | (simp [intOf]; done) | (simp [intOf]; omega)
                · obtain rfl : q = n := by omega
                  have HT0 := Lib.hid (show ds.take q = ds by rw [HN0.out, List.take_length])
                  by_cases hr0 : r = 0
                  · have HE := Lib.hid (show L = rep 256 ((bs t).take (k + 1)) by
                      rw [HN.out, mulAdd, HL.out, HT0.out, if_pos (by rw [← HT0.out, ← HR.out]; exact hr0)])
                    subst hr0
                    go_wp2
                    go_roundw
                    case rel => exact ⟨k + 1, A2, c2, by omega, by go_num, by rw [← HE.out], by rw [← HE.out]; exact own_le hown, by rw [← HE.out]; exact Reads.of_own hown, hbel.trans (hbi.mono hsz)⟩
                    case measure => first | (simp [intOf]; done) | (simp [intOf]; omega)
                  · have hdg := digit_any A q c w0.heap.size q ds wr (hrd.below hbi) (by unfold maxLen; omega) (by unfold maxLen; omega)
                    rw [getD_out (by rw [← HN0.out]; exact Nat.le_refl _)] at hdg
                    have HDG := Lib.hid hdg
                    clear hdg
                    go_wp2_with (first | (go_at_call 26; refine HDG.out.mono ?_; rintro e w' ⟨rfl, rfl⟩) | (at_builtin; refine wpList_append1 rfl _ _ 48 rfl w0.heap.size 3 i0 (.int .i64 0) 8 Tryd.underlying48 hi hz0 hz1 hz2 rfl _ _ _ _ rfl hown (.int .i64 ((r : Int) % 256)) rfl rfl (by unfold maxLen; omega) (by omega) hsi ?_; intro g' c3 w1 hown' hbel'))
                    go_roundw
                    case rel =>
                      have HE : L ++ [r] = mulAdd 256 10 ds (t[k].toNat - 48) := by
                        rw [mulAdd, if_neg (by rw [← HT0.out, ← HR.out]; exact hr0), HL.out, HT0.out, HR.out, HT0.out]
                      refine ⟨q + 1, some ⟨g', 0, none⟩, c3, L ++ [r], 0, by go_num, ?_, ?_, ?_, ?_, hbi.trans hbel'⟩
                      · exact congrArg (Value.int .i64) (by omega)
                      · rw [List.length_append]; rfl
                      · exact Or.inr ⟨rfl, rfl, HE⟩
                      · have e : ints (L ++ [r]) = ints L ++ [.int .i64 ((r : Int) % 256)] := by
                          have : (r : Int) % 256 = r := by omega
                          simp [ints, this]
                        rw [e, List.length_append]
                        exact hown'
                    case measure => first | (simp [intOf]; done) | (simp [intOf]; omega)
              · have HE := Lib.hid (show L = rep 256 ((bs t).take (k + 1)) by rw [HN.out]; exact hL)
                clear hL
                subst hq hr
                go_wp2
                go_roundw
                case rel => exact ⟨k + 1, A2, c2, by omega, by go_num, by rw [← HE.out], by rw [← HE.out]; exact own_le hown, by rw [← HE.out]; exact Reads.of_own hown, hbel.trans (hbi.mono hsz)⟩
                case measure => first | (simp [intOf]; done) | (simp [intOf]; omega)
          · obtain rfl : t.size = k := by omega
            have HDV := Lib.hid (show val 256 ds = decVal (bodyL (bs s)) by rw [HS.out.2, ← bs_len, List.take_length]; exact congrArg decVal HB.out)
            have HBG := Lib.hid (big_any true A n c wr.heap.size ds wr hrd (Nat.le_refl _) (by omega) hc HS.out.1.1)
            have HP := Lib.hid (pspec_big (neg := true) HF.out HD.out HZ.out HM.out HS.out.1 HDV.out)
            have HSZ := Lib.hid hsz
            go_wp2_with (go_at_call 27; refine HBG.out.mono ?_; rintro e w1 ⟨_, rfl, ⟨A2, c2, rfl, hc2, hr2, hlow2⟩, hb2⟩; have hb1 := hbel.trans (hb2.mono HSZ.out); obtain ⟨bx0, bx1, bx2, bx3, bx4⟩ := box2 hb1)
            refine bodyPost_ret (v := .tuple #[.agg #[.bool (bigN true ds), .slice A2 (bigD ds).length c2], .int .i64 (bigE ds : Nat)]) (by simp [results, Tryd.results7, go_sem, bx4, bx0, bx1]) rfl ⟨_, _, bigD ds, bigE ds, rfl, ?_, HP.out, ?_⟩
            · have hne : ∀ ad : Addr, 0 < (bigD ds).length → A2 = some ad → ad.block ≠ w.heap.size := by
                intro ad h0 he hb
                have := hlow2 ad h0 he
                have := HSZ.out
                omega
              exact ⟨A2, c2, rfl, hc2, ((hr2.far (p := ⟨w.heap.size, 0, none⟩) hne _).far (p := ⟨w.heap.size, 1, none⟩) hne _).more (by simp [World.setCell]), fun ad h0 he => Nat.le_trans (Nat.le_trans (Nat.le_succ _) HSZ.out) (hlow2 ad h0 he)⟩
            · have h0 : Below w.heap.size w w1 := ((Below.refl w.heap.size w).alloc (Nat.le_refl _) _).trans (hb1.mono (Nat.le_succ _))
              exact (h0.setCell (p := ⟨w.heap.size, 0, none⟩) (Nat.le_refl _) _).setCell (p := ⟨w.heap.size, 1, none⟩) (Nat.le_refl _) _
    · have hm' : minusB (bs s) = false := by simpa using hm
      have h45 : ((s[0].toNat : Int) == 45) = false := by
        rw [← Bool.not_eq_true, beq_iff_eq]
        intro h
        apply hm
        have h1 := bs_at s 0 hne
        unfold minusB List.getD
        rw [h1]
        simp; omega
      have HB := Lib.hid (show bs s = bodyL (bs s) by unfold bodyL; rw [if_neg hm])
      have HM := Lib.hid hm'; clear hm hm'
      by_cases hlong : 1000 < s.size
      · have HP := Lib.hid (show PSpec (bs s) false [] 6 from Or.inr (Or.inl ⟨HF.out, dec_long HD.out (by rw [← HB.out, bs_len]; exact hlong), rfl, rfl, rfl⟩))
        go_enter Tryd.func7, Tryd.ntmps7
        go_wp2_with (go_at_call 25; refine HFM.out.mono ?_; rintro e w' ⟨rfl, rfl⟩)
        refine bodyPost_ret (v := .tuple #[.agg #[.bool false, .slice none 0 0], .int .i64 6]) (by simp [results, Tryd.results7, go_sem]) rfl ⟨_, false, [], 6, rfl, BigIs.zero _ _ _, HP.out, ?_⟩
        exact by repeat (first | exact Below.refl _ _ | refine Below.setCell ?_ (Nat.le_refl _) _ | refine Below.alloc ?_ (Nat.le_refl _) _)
      · have HA := Lib.hid (show (bs s).all digB = true by rw [HB.out]; exact isDec_all HD.out)
        go_enter Tryd.func7, Tryd.ntmps7
        go_wp2_with (go_at_call 25; refine HFM.out.mono ?_; rintro e w' ⟨rfl, rfl⟩)
        go_loopw [5, 6] (fun lv i wr => ∃ (k : Nat) (A : Option Addr) (c : Nat), k ≤ s.size ∧ i = .int .i64 k ∧ lv = .slice A (rep 256 ((bs s).take k)).length c ∧ (rep 256 ((bs s).take k)).length ≤ c ∧
            Reads wr wr.heap.size A (rep 256 ((bs s).take k)).length (ints (rep 256 ((bs s).take k))) ∧ Below (w.heap.size + 1) (w.alloc (.cells #[.bool false, .slice none 0 0] 24)) wr)
          (fun _ i _ => s.size - (intOf i).toNat)
        case atStart => exact ⟨0, none, 0, Nat.zero_le _, rfl, rfl, Nat.le_refl _, Reads.none_, Below.refl _ _⟩
        case round =>
          obtain ⟨k, A, c, hk, rfl, rfl, hc, hrd, hbel⟩ := hrel
          have hsz := hbel.size
          simp at hsz
          have hspec := rep_spec (b := 256) (by decide) ((bs s).take k) (by rw [List.all_eq_true]; exact fun d hd => List.all_eq_true.1 HA.out d (List.mem_of_mem_take hd))
          have hrl := rep_len 256 ((bs s).take k)
          rw [List.length_take] at hrl
          obtain ⟨ds, hds⟩ : ∃ ds, ds = rep 256 ((bs s).take k) := ⟨_, rfl⟩
          rw [← hds] at hc hrd hspec hrl ⊢
          have HS := Lib.hid hspec; clear hspec
          have HDS := Lib.hid hds; clear hds
          obtain ⟨n, hn0⟩ : ∃ n, n = ds.length := ⟨_, rfl⟩
          rw [← hn0] at hc hrd hrl ⊢
          have HN0 := Lib.hid hn0; clear hn0
          have hnk : n ≤ 1000 := by omega
          clear hrl
          by_cases hlt : k < s.size
          · have HK := Lib.hid (bs_at s k hlt)
            have hdig := List.all_eq_true.1 HA.out _ (List.mem_of_getElem? HK.out)
            simp only [digB, Bool.and_eq_true, decide_eq_true_eq] at hdig
            have HN := Lib.hid (show rep 256 ((bs s).take (k + 1)) = mulAdd 256 10 ds (s[k].toNat - 48) by
              rw [List.take_add_one, HK.out, Option.toList_some, rep_snoc, ← HDS.out])
            obtain ⟨h48, h57⟩ := hdig
            go_wp2
            obtain ⟨w0, rfl⟩ : ∃ w0, w0 = wr := ⟨_, rfl⟩
            go_loopw [7, 8, 9] (fun nx cr qi wr => ∃ (q : Nat) (A2 : Option Addr) (c2 : Nat) (L : List Nat) (r : Nat), qi = .int .i64 q ∧ cr = .int .i64 r ∧ nx = .slice A2 L.length c2 ∧ MidSt ds n (s[k].toNat - 48) q L r ∧
                wr.ownsRow w0.heap.size 3 1 (.slice A2 L.length c2) L.length (ints L) ∧ Below w0.heap.size w0 wr)
              (fun _ _ q _ => n + 1 - (intOf q).toNat)
            case atStart => exact ⟨0, none, 0, [], s[k].toNat - 48, rfl, by go_num, rfl, Or.inl ⟨Nat.zero_le _, rfl, rfl⟩, World.ownsRow_nil _ _ _ _, Below.refl _ _⟩
            case round =>
              obtain ⟨q, A2, c2, L, r, rfl, rfl, rfl, hst, hown, hbi⟩ := hrel
              have hsi := hbi.size
              rcases hst with ⟨hq, hr, hL⟩ | ⟨hq, hr, hL⟩
              · have hr10 : r < 10 := by
                  rw [hr]; exact mulCar_lt (by decide) _ _ (fun d hd => HS.out.1.1 d (List.mem_of_mem_take hd)) (by omega)
                have hLl : L.length = q := by rw [hL, mulDigs_len, List.length_take, ← HN0.out]; omega
                have HR := Lib.hid hr
                have HL := Lib.hid hL
                have HLL := Lib.hid hLl
                have hL2 : L.length ≤ 1000 := by omega
                clear hr hL hLl
                by_cases hqn : q < n
                · have hql : q < ds.length := by rw [← HN0.out]; exact hqn
                  have hx := HS.out.1.1 ds[q] (List.getElem_mem hql)
                  obtain ⟨x, hxe⟩ : ∃ x, x = ds.getD q 0 := ⟨_, rfl⟩
                  have hxe2 : x = ds[q] := by rw [hxe]; simp [List.getD, hql]
                  rw [← hxe2] at hx
                  have hdg := digit_any A n c w0.heap.size q ds wr (hrd.below hbi) (by unfold maxLen; omega) (by unfold maxLen; omega)
                  rw [← hxe] at hdg
                  have HX := Lib.hid hxe2
                  have HDG := Lib.hid hdg
                  clear hxe hxe2 hdg
                  go_wp2_with (first | (go_at_call 26; refine HDG.out.mono ?_; rintro e w' ⟨rfl, rfl⟩) | (at_builtin; refine wpList_append1 rfl _ _ 48 rfl w0.heap.size 3 i0 (.int .i64 0) 8 Tryd.underlying48 hi hz0 hz1 hz2 rfl _ _ _ _ rfl hown (.int .i64 ((10 * (x : Int) + r) % 256)) rfl rfl (by unfold maxLen; omega) (by omega) hsi ?_; intro g' c3 w1 hown' hbel'))
                  go_roundw
                  case rel =>
                    refine ⟨q + 1, some ⟨g', 0, none⟩, c3, L ++ [(x * 10 + r) % 256], (x * 10 + r) / 256, by go_num, ?_, ?_, ?_, ?_, hbi.trans hbel'⟩
                    · exact congrArg (Value.int .i64) (by omega)
                    · simp
                    · refine Or.inl ⟨by omega, ?_, ?_⟩
                      · rw [List.take_succ_eq_append_getElem hql, mulCar_snoc, ← HX.out, ← HR.out]
                      · rw [List.take_succ_eq_append_getElem hql, mulDigs_snoc, ← HX.out, ← HR.out, ← HL.out]
                    · have e : ints (L ++ [(x * 10 + r) % 256]) = ints L ++ [.int .i64 ((10 * (x : Int) + r) % 256)] := by
                        simp [ints, Int.mul_comm]
                      rw [e, List.length_append]
                      exact hown'
                  case measure => first | (simp [intOf]; done) | (simp [intOf]; omega)
                · obtain rfl : q = n := by omega
                  have HT0 := Lib.hid (show ds.take q = ds by rw [HN0.out, List.take_length])
                  by_cases hr0 : r = 0
                  · have HE := Lib.hid (show L = rep 256 ((bs s).take (k + 1)) by
                      rw [HN.out, mulAdd, HL.out, HT0.out, if_pos (by rw [← HT0.out, ← HR.out]; exact hr0)])
                    subst hr0
                    go_wp2
                    go_roundw
                    case rel => exact ⟨k + 1, A2, c2, by omega, by go_num, by rw [← HE.out], by rw [← HE.out]; exact own_le hown, by rw [← HE.out]; exact Reads.of_own hown, hbel.trans (hbi.mono hsz)⟩
                    case measure => first | (simp [intOf]; done) | (simp [intOf]; omega)
                  · have hdg := digit_any A q c w0.heap.size q ds wr (hrd.below hbi) (by unfold maxLen; omega) (by unfold maxLen; omega)
                    rw [getD_out (by rw [← HN0.out]; exact Nat.le_refl _)] at hdg
                    have HDG := Lib.hid hdg
                    clear hdg
                    go_wp2_with (first | (go_at_call 26; refine HDG.out.mono ?_; rintro e w' ⟨rfl, rfl⟩) | (at_builtin; refine wpList_append1 rfl _ _ 48 rfl w0.heap.size 3 i0 (.int .i64 0) 8 Tryd.underlying48 hi hz0 hz1 hz2 rfl _ _ _ _ rfl hown (.int .i64 ((r : Int) % 256)) rfl rfl (by unfold maxLen; omega) (by omega) hsi ?_; intro g' c3 w1 hown' hbel'))
                    go_roundw
                    case rel =>
                      have HE : L ++ [r] = mulAdd 256 10 ds (s[k].toNat - 48) := by
                        rw [mulAdd, if_neg (by rw [← HT0.out, ← HR.out]; exact hr0), HL.out, HT0.out, HR.out, HT0.out]
                      refine ⟨q + 1, some ⟨g', 0, none⟩, c3, L ++ [r], 0, by go_num, ?_, ?_, ?_, ?_, hbi.trans hbel'⟩
                      · exact congrArg (Value.int .i64) (by omega)
                      · rw [List.length_append]; rfl
                      · exact Or.inr ⟨rfl, rfl, HE⟩
                      · have e : ints (L ++ [r]) = ints L ++ [.int .i64 ((r : Int) % 256)] := by
                          have : (r : Int) % 256 = r := by omega
                          simp [ints, this]
                        rw [e, List.length_append]
                        exact hown'
                    case measure => first | (simp [intOf]; done) | (simp [intOf]; omega)
              · have HE := Lib.hid (show L = rep 256 ((bs s).take (k + 1)) by rw [HN.out]; exact hL)
                clear hL
                subst hq hr
                go_wp2
                go_roundw
                case rel => exact ⟨k + 1, A2, c2, by omega, by go_num, by rw [← HE.out], by rw [← HE.out]; exact own_le hown, by rw [← HE.out]; exact Reads.of_own hown, hbel.trans (hbi.mono hsz)⟩
                case measure => first | (simp [intOf]; done) | (simp [intOf]; omega)
          · obtain rfl : s.size = k := by omega
            have HDV := Lib.hid (show val 256 ds = decVal (bodyL (bs s)) by rw [HS.out.2, ← bs_len, List.take_length]; exact congrArg decVal HB.out)
            have HBG := Lib.hid (big_any false A n c wr.heap.size ds wr hrd (Nat.le_refl _) (by omega) hc HS.out.1.1)
            have HP := Lib.hid (pspec_big (neg := false) HF.out HD.out HZ.out HM.out HS.out.1 HDV.out)
            have HSZ := Lib.hid hsz
            go_wp2_with (go_at_call 27; refine HBG.out.mono ?_; rintro e w1 ⟨_, rfl, ⟨A2, c2, rfl, hc2, hr2, hlow2⟩, hb2⟩; have hb1 := hbel.trans (hb2.mono HSZ.out); obtain ⟨bx0, bx1, bx2, bx3, bx4⟩ := box2 hb1)
            refine bodyPost_ret (v := .tuple #[.agg #[.bool (bigN false ds), .slice A2 (bigD ds).length c2], .int .i64 (bigE ds : Nat)]) (by simp [results, Tryd.results7, go_sem, bx4, bx0, bx1]) rfl ⟨_, _, bigD ds, bigE ds, rfl, ?_, HP.out, ?_⟩
            · have hne : ∀ ad : Addr, 0 < (bigD ds).length → A2 = some ad → ad.block ≠ w.heap.size := by
                intro ad h0 he hb
                have := hlow2 ad h0 he
                have := HSZ.out
                omega
              exact ⟨A2, c2, rfl, hc2, ((hr2.far (p := ⟨w.heap.size, 0, none⟩) hne _).far (p := ⟨w.heap.size, 1, none⟩) hne _).more (by simp [World.setCell]), fun ad h0 he => Nat.le_trans (Nat.le_trans (Nat.le_succ _) HSZ.out) (hlow2 ad h0 he)⟩
            · have h0 : Below w.heap.size w w1 := ((Below.refl w.heap.size w).alloc (Nat.le_refl _) _).trans (hb1.mono (Nat.le_succ _))
              exact (h0.setCell (p := ⟨w.heap.size, 0, none⟩) (Nat.le_refl _) _).setCell (p := ⟨w.heap.size, 1, none⟩) (Nat.le_refl _) _
  · have hF' : formB (bs s) = false := by simpa using hF
    rw [hF'] at hform
    have HFM := Lib.hid hform; clear hform
    have HP := Lib.hid (show PSpec (bs s) false [] 15 from Or.inl ⟨hF', rfl, rfl, rfl⟩)
    clear hF hF'
    go_enter Tryd.func7, Tryd.ntmps7
    go_wp2_with (go_at_call 25; refine HFM.out.mono ?_; rintro e w' ⟨rfl, rfl⟩)
    refine bodyPost_ret (v := .tuple #[.agg #[.bool false, .slice none 0 0], .int .i64 15]) (by simp [results, Tryd.results7, go_sem]) rfl ⟨_, false, [], 15, rfl, BigIs.zero _ _ _, HP.out, ?_⟩
    exact by repeat (first | exact Below.refl _ _ | refine Below.setCell ?_ (Nat.le_refl _) _ | refine Below.alloc ?_ (Nat.le_refl _) _)

end Go.Proofs.YtckkbeknjipddaaDoor
