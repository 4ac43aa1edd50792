/- The walk of Parse. -/
import Derived.Test.YtckkbeknjipddaaDoorCut
import Derived.Test.YtckkbeknjipddaaDoorNum
import Derived.Test.YtckkbeknjipddaaDoorSigned
namespace Go.Proofs.YtckkbeknjipddaaDoor
open Go.RowKit

/-- what Parse must return at a text -/
def PSpec (l : List Nat) (neg : Bool) (xs : List Nat) (err : Nat) : Prop :=
  (formB l = false ∧ err = 15 ∧ neg = false ∧ xs = []) ∨
  (formB l = true ∧ lim ≤ decVal (bodyL l) ∧ err = 6 ∧ neg = false ∧ xs = []) ∨
  (formB l = true ∧ decVal (bodyL l) < lim ∧ err = 0 ∧ neg = minusB l ∧ Can 4294967296 xs ∧ val 4294967296 xs = decVal (bodyL l))
theorem PSpec.uniq {l : List Nat} {n n' : Bool} {x x' : List Nat} {e e' : Nat} (h : PSpec l n x e) (h' : PSpec l n' x' e') : n = n' ∧ x = x' ∧ e = e' := by
  rcases h with ⟨a1, a2, a3, a4⟩ | ⟨a1, a2, a3, a4, a5⟩ | ⟨a1, a2, a3, a4, a5, a6⟩ <;>
  rcases h' with ⟨b1, b2, b3, b4⟩ | ⟨b1, b2, b3, b4, b5⟩ | ⟨b1, b2, b3, b4, b5, b6⟩ <;>
  first
  | exact absurd (a1.symm.trans b1) (by decide)
  | exact absurd a2 (by omega)
  | exact absurd b2 (by omega)
  | exact ⟨a3.trans b3.symm, a4.trans b4.symm, a2.trans b2.symm⟩
  | exact ⟨a4.trans b4.symm, a5.trans b5.symm, a3.trans b3.symm⟩
  | exact ⟨a4.trans b4.symm, can_inj (by decide) a5 b5 (a6.trans b6.symm), a3.trans b3.symm⟩

def ParsePost (l : List Nat) (w : World) (e : Ending) (w' : World) : Prop :=
  ∃ v neg xs err, e = .returned (.tuple #[v, .int .i64 (err : Nat)]) ∧ BigIs w' w.heap.size w'.heap.size v neg xs ∧ PSpec l neg xs err ∧ Below w.heap.size w w'

theorem isDec_all {l : List Nat} (h : isDecB l = true) : l.all digB = true := by
  unfold isDecB at h
  simp only [Bool.and_eq_true] at h
  exact h.1

theorem signedN_of {ds : List Nat} (h : Can 4294967296 ds) (h64 : ds.length ≤ 64) : signedN ds false = false := by
  unfold signedN; split <;> rfl
theorem signedN_pos {ds : List Nat} (h : Can 4294967296 ds) (h64 : ds.length ≤ 64) (hp : 0 < val 4294967296 ds) : signedN ds true = true := by
  unfold signedN
  rw [trimL_of_can (by decide) h, if_neg]
  rintro (h0 | h0)
  · have : ds = [] := List.eq_nil_of_length_eq_zero h0
    subst this
    simp [val] at hp
  · omega
theorem dec_pos {l : List Nat} (h : isDecB l = true) (h48 : ¬ l = [48]) : 0 < decVal l := by
  unfold isDecB at h
  simp only [Bool.and_eq_true, Bool.or_eq_true, beq_iff_eq, bne_iff_ne, ne_eq] at h
  obtain ⟨h1, h2⟩ := h
  rcases h2 with h2 | ⟨h2, h3⟩
  · exact absurd h2 h48
  · cases l with
    | nil => exact absurd rfl h2
    | cons c t =>
      simp only [List.all_cons, Bool.and_eq_true, digB, decide_eq_true_eq] at h1
      have h4 : ¬ c = 48 := by simpa using h3
      exact Nat.lt_of_lt_of_le (Nat.pow_pos (by omega)) (decVal_low (by omega))

set_option maxRecDepth 100000 in
set_option maxHeartbeats 1000000 in
theorem parse_any (s : ByteArray) (w : World) (hn : s.size ≤ maxLen) :
    Calls Tryd.prog 6 #[.string s] w (ParsePost (bs s) w) := by
  have hcut := cut_any s (w.alloc (.cells #[.bool false, .slice none 0 0] 24)) hn
  have hle := bodyS_le s
  obtain ⟨t, ht⟩ : ∃ t, t = bodyS s := ⟨_, rfl⟩
  have hbt : bs t = bodyL (bs s) := by rw [ht]; exact bs_bodyS s
  obtain ⟨m, hm⟩ : ∃ m, m = minusB (bs s) := ⟨_, rfl⟩
  rw [← ht, ← hm] at hcut
  rw [← ht] at hle
  have hform : formB (bs s) = (isDecB (bs t) && !(m && bs t == [48])) := by rw [hbt, hm]; rfl
  have hdec := isDecimal_any t (w.alloc (.cells #[.bool false, .slice none 0 0] 24)) (Nat.le_trans hle hn)
  have HB := Lib.hid hbt
  have HM := Lib.hid hm
  have HF := Lib.hid hform
  clear hform hm hbt ht
  have HC := Lib.hid hcut; clear hcut
  by_cases hd : isDecB (bs t) = true
  · rw [hd] at hdec
    have HD := Lib.hid hdec; clear hdec
    have HDD := Lib.hid hd; clear hd
    by_cases hbad : m = true ∧ bs t = [48]
    · obtain ⟨rfl, h48⟩ := hbad
      have h48' : (t.toList == [48]) = true := by rw [beq_iff_eq, toList_iff]; exact h48
      have HP := Lib.hid (show PSpec (bs s) false [] 15 from Or.inl ⟨by rw [HF.out, HDD.out, h48]; rfl, rfl, rfl, rfl⟩)
      clear h48
      go_enter Tryd.func6, Tryd.ntmps6
      go_wp2_with (first | (go_at_call 21; refine HC.out.mono ?_; rintro e w' ⟨rfl, rfl⟩) | (go_at_call 22; refine HD.out.mono ?_; rintro e w' ⟨rfl, rfl⟩))
      refine bodyPost_ret (v := .tuple #[.agg #[.bool false, .slice none 0 0], .int .i64 15]) (by simp [results, Tryd.results6, go_sem]) rfl ⟨_, false, [], 15, rfl, BigIs.zero _ _ _, HP.out, ?_⟩
      exact by repeat (first | exact Below.refl _ _ | refine Below.setCell ?_ (Nat.le_refl _) _ | refine Below.alloc ?_ (Nat.le_refl _) _)
    · have hgood : m = false ∨ (m = true ∧ (t.toList == [48]) = false) := by
        cases m with
        | false => exact Or.inl rfl
        | true =>
          refine Or.inr ⟨rfl, ?_⟩
          rw [← Bool.not_eq_true, beq_iff_eq, toList_iff]
          exact fun h => hbad ⟨rfl, h⟩
      have HG := Lib.hid (show formB (bs s) = true by
        rw [HF.out, HDD.out]
        cases m with
        | false => rfl
        | true =>
          have : (bs t == [48]) = false := by rw [← Bool.not_eq_true, beq_iff_eq]; exact fun h => hbad ⟨rfl, h⟩
          rw [this]; rfl)
      clear hbad
      have HA := Lib.hid (isDec_all HDD.out)
      unfold maxLen at hn
      rcases hgood with rfl | ⟨rfl, h48⟩
      · go_enter Tryd.func6, Tryd.ntmps6
        go_wp2_with (first | (go_at_call 21; refine HC.out.mono ?_; rintro e w' ⟨rfl, rfl⟩) | (go_at_call 22; refine HD.out.mono ?_; rintro e w' ⟨rfl, rfl⟩))
        go_loopw [6, 26] (fun dv i wr => ∃ (k : Nat) (A : Option Addr) (c : Nat), k ≤ t.size ∧ i = .int .i64 k ∧ dv = .slice A (rep 4294967296 ((bs t).take k)).length c ∧ (rep 4294967296 ((bs t).take k)).length ≤ 64 ∧
            wr.ownsRow (w.heap.size + 1) 42 1 (.slice A (rep 4294967296 ((bs t).take k)).length c) (rep 4294967296 ((bs t).take k)).length (u32s (rep 4294967296 ((bs t).take k))) ∧
            Below (w.heap.size + 1) (w.alloc (.cells #[.bool false, .slice none 0 0] 24)) wr)
          (fun _ i _ => t.size - (intOf i).toNat)
        case atStart => exact ⟨0, none, 0, Nat.zero_le _, rfl, rfl, Nat.zero_le _, World.ownsRow_nil _ _ _ _, Below.refl _ _⟩
        case round =>
          obtain ⟨k, A, c, hk, rfl, rfl, h64, hown, hbel⟩ := hrel
          have hsz := hbel.size
          simp at hsz
          have hspec := rep_spec (b := 4294967296) (by decide) ((bs t).take k) (by rw [List.all_eq_true]; exact fun d hd => List.all_eq_true.1 HA.out d (List.mem_of_mem_take hd))
          obtain ⟨ds, hds⟩ : ∃ ds, ds = rep 4294967296 ((bs t).take k) := ⟨_, rfl⟩
          rw [← hds] at h64 hown hspec ⊢
          have HS := Lib.hid hspec; clear hspec
          have HDS := Lib.hid hds; clear hds
          by_cases hlt : k < t.size
          · have HK := Lib.hid (bs_at t k hlt)
            have hdig := List.all_eq_true.1 HA.out _ (List.mem_of_getElem? HK.out)
            simp only [digB, Bool.and_eq_true, decide_eq_true_eq] at hdig
            have HN := Lib.hid (show rep 4294967296 ((bs t).take (k + 1)) = mulAdd 4294967296 10 ds (t[k].toNat - 48) by
              rw [List.take_add_one, HK.out, Option.toList_some, rep_snoc, ← HDS.out])
            have HAD := Lib.hid (appendDecimal_any A c (w.heap.size + 1) ds t[k].toNat wr hown hsz (by omega) HS.out.1.1 hdig.1 hdig.2)
            by_cases hbig : 64 < (mulAdd 4294967296 10 ds (t[k].toNat - 48)).length
            · go_wp2_with (go_at_call 23; refine HAD.out.mono ?_; rintro e w1 ⟨A', c', rfl, hown', hbel'⟩; have hb1 := hbel.trans hbel'; obtain ⟨bx0, bx1, bx2, bx3, bx4⟩ := box2 hb1)
              have HP : PSpec (bs s) false [] 6 := Or.inr (Or.inl ⟨HG.out, by
                have h1 := rep_spec (b := 4294967296) (by decide) ((bs t).take (k + 1)) (by rw [List.all_eq_true]; exact fun d hd => List.all_eq_true.1 HA.out d (List.mem_of_mem_take hd))
                rw [HN.out] at h1
                have h2 := (long32 h1.1).1 hbig
                rw [h1.2] at h2
                exact Nat.le_trans h2 (by rw [← HB.out]; exact decVal_mono _ _), rfl, rfl, rfl⟩)
              refine bodyPost_ret (v := .tuple #[.agg #[.bool false, .slice none 0 0], .int .i64 6]) (by simp [results, Tryd.results6, go_sem, bx4, bx0, bx1]) rfl ⟨_, false, [], 6, rfl, BigIs.zero _ _ _, HP, ?_⟩
              have h0 : Below w.heap.size w w1 := ((Below.refl w.heap.size w).alloc (Nat.le_refl _) _).trans (hb1.mono (Nat.le_succ _))
              exact (h0.setCell (p := ⟨w.heap.size, 0, none⟩) (Nat.le_refl _) _).setCell (p := ⟨w.heap.size, 1, none⟩) (Nat.le_refl _) _
            · go_wp2_with (go_at_call 23; refine HAD.out.mono ?_; rintro e w1 ⟨A', c', rfl, hown', hbel'⟩; have hb1 := hbel.trans hbel')
              go_roundw
              case rel =>
                refine ⟨k + 1, A', c', by omega, by go_num, ?_, ?_, ?_, hb1⟩
                · rw [HN.out]
                · rw [HN.out]; omega
                · rw [HN.out]; exact hown'
              case measure => simp [intOf]; omega
          · obtain rfl : t.size = k := by omega
            have HT := Lib.hid (show rep 4294967296 (bs t) = ds by rw [HDS.out, ← bs_len, List.take_length])
            have hdsl : (trimL ds) = ds := trimL_of_can (by decide) HS.out.1
            have hE : signedE ds = 0 := by unfold signedE; rw [hdsl]; rw [if_neg (by omega)]
            have hD : signedD ds = ds := by unfold signedD; rw [hdsl]; rw [if_neg (by omega)]
            have hsig := signed_any false A ds.length c wr.heap.size ds wr (Reads.of_own hown) (Nat.le_refl _) (by unfold maxLen; omega) (by
              rcases hown.2 with ⟨h1, h2⟩ | ⟨g, cap, cur, h1, _, _, h2, _⟩
              · omega
              · injection h1 with _ _ h3; omega)
            rw [hE, hD] at hsig
            have HSG := Lib.hid hsig; clear hsig hE hD hdsl
            go_wp2_with (go_at_call 24; refine HSG.out.mono ?_; rintro e w1 ⟨A2, c2, rfl, hc2, hA2, hr2, hb2⟩; have hb1 := hbel.trans (hb2.mono hsz); obtain ⟨bx0, bx1, bx2, bx3, bx4⟩ := box2 hb1)
            have HP : PSpec (bs s) (signedN ds false) ds 0 := Or.inr (Or.inr ⟨HG.out, by
                have h1 := mt (long32 HS.out.1).2 (by omega)
                rw [HS.out.2, ← bs_len, List.take_length, HB.out] at h1
                omega, rfl, by
                rw [signedN_of HS.out.1 (by omega), ← HM.out], HS.out.1, by
                rw [HS.out.2, ← bs_len, List.take_length, HB.out]⟩)
            refine bodyPost_ret (v := .tuple #[.agg #[.bool (signedN ds false), .slice A2 ds.length c2], .int .i64 0]) (by simp [results, Tryd.results6, go_sem, bx4, bx0, bx1]) rfl ⟨_, _, ds, 0, rfl, ?_, HP, ?_⟩
            · have hlow : ∀ ad : Addr, 0 < ds.length → A2 = some ad → w.heap.size + 1 ≤ ad.block := by
                intro ad h0 he
                obtain ⟨g, cap, hv, hg, _⟩ := hown.form h0
                rw [hA2 h0] at he
                injection hv with hv1
                rw [hv1] at he
                injection he with he
                rw [← he]; exact hg
              refine ⟨A2, c2, rfl, hc2, ?_, fun ad h0 he => Nat.le_trans (Nat.le_succ _) (hlow ad h0 he)⟩
              have hne : ∀ ad : Addr, 0 < ds.length → A2 = some ad → ad.block ≠ w.heap.size := by
                intro ad h0 he hb
                have := hlow ad h0 he
                omega
              exact ((hr2.far (p := ⟨w.heap.size, 0, none⟩) hne _).far (p := ⟨w.heap.size, 1, none⟩) hne _).more (by have := hb2.size; simp [World.setCell]; omega)
            · have h0 : Below w.heap.size w w1 := ((Below.refl w.heap.size w).alloc (Nat.le_refl _) _).trans (hb1.mono (Nat.le_succ _))
              exact (h0.setCell (p := ⟨w.heap.size, 0, none⟩) (Nat.le_refl _) _).setCell (p := ⟨w.heap.size, 1, none⟩) (Nat.le_refl _) _
      · go_enter Tryd.func6, Tryd.ntmps6
        go_wp2_with (first | (go_at_call 21; refine HC.out.mono ?_; rintro e w' ⟨rfl, rfl⟩) | (go_at_call 22; refine HD.out.mono ?_; rintro e w' ⟨rfl, rfl⟩))
        go_loopw [6, 26] (fun dv i wr => ∃ (k : Nat) (A : Option Addr) (c : Nat), k ≤ t.size ∧ i = .int .i64 k ∧ dv = .slice A (rep 4294967296 ((bs t).take k)).length c ∧ (rep 4294967296 ((bs t).take k)).length ≤ 64 ∧
            wr.ownsRow (w.heap.size + 1) 42 1 (.slice A (rep 4294967296 ((bs t).take k)).length c) (rep 4294967296 ((bs t).take k)).length (u32s (rep 4294967296 ((bs t).take k))) ∧
            Below (w.heap.size + 1) (w.alloc (.cells #[.bool false, .slice none 0 0] 24)) wr)
          (fun _ i _ => t.size - (intOf i).toNat)
        case atStart => exact ⟨0, none, 0, Nat.zero_le _, rfl, rfl, Nat.zero_le _, World.ownsRow_nil _ _ _ _, Below.refl _ _⟩
        case round =>
          obtain ⟨k, A, c, hk, rfl, rfl, h64, hown, hbel⟩ := hrel
          have hsz := hbel.size
          simp at hsz
          have hspec := rep_spec (b := 4294967296) (by decide) ((bs t).take k) (by rw [List.all_eq_true]; exact fun d hd => List.all_eq_true.1 HA.out d (List.mem_of_mem_take hd))
          obtain ⟨ds, hds⟩ : ∃ ds, ds = rep 4294967296 ((bs t).take k) := ⟨_, rfl⟩
          rw [← hds] at h64 hown hspec ⊢
          have HS := Lib.hid hspec; clear hspec
          have HDS := Lib.hid hds; clear hds
          by_cases hlt : k < t.size
          · have HK := Lib.hid (bs_at t k hlt)
            have hdig := List.all_eq_true.1 HA.out _ (List.mem_of_getElem? HK.out)
            simp only [digB, Bool.and_eq_true, decide_eq_true_eq] at hdig
            have HN := Lib.hid (show rep 4294967296 ((bs t).take (k + 1)) = mulAdd 4294967296 10 ds (t[k].toNat - 48) by
              rw [List.take_add_one, HK.out, Option.toList_some, rep_snoc, ← HDS.out])
            have HAD := Lib.hid (appendDecimal_any A c (w.heap.size + 1) ds t[k].toNat wr hown hsz (by omega) HS.out.1.1 hdig.1 hdig.2)
            by_cases hbig : 64 < (mulAdd 4294967296 10 ds (t[k].toNat - 48)).length
            · go_wp2_with (go_at_call 23; refine HAD.out.mono ?_; rintro e w1 ⟨A', c', rfl, hown', hbel'⟩; have hb1 := hbel.trans hbel'; obtain ⟨bx0, bx1, bx2, bx3, bx4⟩ := box2 hb1)
              have HP : PSpec (bs s) false [] 6 := Or.inr (Or.inl ⟨HG.out, by
                have h1 := rep_spec (b := 4294967296) (by decide) ((bs t).take (k + 1)) (by rw [List.all_eq_true]; exact fun d hd => List.all_eq_true.1 HA.out d (List.mem_of_mem_take hd))
                rw [HN.out] at h1
                have h2 := (long32 h1.1).1 hbig
                rw [h1.2] at h2
                exact Nat.le_trans h2 (by rw [← HB.out]; exact decVal_mono _ _), rfl, rfl, rfl⟩)
              refine bodyPost_ret (v := .tuple #[.agg #[.bool false, .slice none 0 0], .int .i64 6]) (by simp [results, Tryd.results6, go_sem, bx4, bx0, bx1]) rfl ⟨_, false, [], 6, rfl, BigIs.zero _ _ _, HP, ?_⟩
              have h0 : Below w.heap.size w w1 := ((Below.refl w.heap.size w).alloc (Nat.le_refl _) _).trans (hb1.mono (Nat.le_succ _))
              exact (h0.setCell (p := ⟨w.heap.size, 0, none⟩) (Nat.le_refl _) _).setCell (p := ⟨w.heap.size, 1, none⟩) (Nat.le_refl _) _
            · go_wp2_with (go_at_call 23; refine HAD.out.mono ?_; rintro e w1 ⟨A', c', rfl, hown', hbel'⟩; have hb1 := hbel.trans hbel')
              go_roundw
              case rel =>
                refine ⟨k + 1, A', c', by omega, by go_num, ?_, ?_, ?_, hb1⟩
                · rw [HN.out]
                · rw [HN.out]; omega
                · rw [HN.out]; exact hown'
              case measure => simp [intOf]; omega
          · obtain rfl : t.size = k := by omega
            have HT := Lib.hid (show rep 4294967296 (bs t) = ds by rw [HDS.out, ← bs_len, List.take_length])
            have hdsl : (trimL ds) = ds := trimL_of_can (by decide) HS.out.1
            have hE : signedE ds = 0 := by unfold signedE; rw [hdsl]; rw [if_neg (by omega)]
            have hD : signedD ds = ds := by unfold signedD; rw [hdsl]; rw [if_neg (by omega)]
            have hsig := signed_any true A ds.length c wr.heap.size ds wr (Reads.of_own hown) (Nat.le_refl _) (by unfold maxLen; omega) (by
              rcases hown.2 with ⟨h1, h2⟩ | ⟨g, cap, cur, h1, _, _, h2, _⟩
              · omega
              · injection h1 with _ _ h3; omega)
            rw [hE, hD] at hsig
            have HSG := Lib.hid hsig; clear hsig hE hD hdsl
            go_wp2_with (go_at_call 24; refine HSG.out.mono ?_; rintro e w1 ⟨A2, c2, rfl, hc2, hA2, hr2, hb2⟩; have hb1 := hbel.trans (hb2.mono hsz); obtain ⟨bx0, bx1, bx2, bx3, bx4⟩ := box2 hb1)
            have hpos : 0 < val 4294967296 ds := by
              rw [HS.out.2, ← bs_len, List.take_length]
              exact dec_pos HDD.out (fun h => by
                have : (t.toList == [48]) = true := by rw [beq_iff_eq, toList_iff]; exact h
                rw [this] at h48; cases h48)
            have HP : PSpec (bs s) (signedN ds true) ds 0 := Or.inr (Or.inr ⟨HG.out, by
                have h1 := mt (long32 HS.out.1).2 (by omega)
                rw [HS.out.2, ← bs_len, List.take_length, HB.out] at h1
                omega, rfl, by
                rw [signedN_pos HS.out.1 (by omega) hpos, ← HM.out], HS.out.1, by
                rw [HS.out.2, ← bs_len, List.take_length, HB.out]⟩)
            refine bodyPost_ret (v := .tuple #[.agg #[.bool (signedN ds true), .slice A2 ds.length c2], .int .i64 0]) (by simp [results, Tryd.results6, go_sem, bx4, bx0, bx1]) rfl ⟨_, _, ds, 0, rfl, ?_, HP, ?_⟩
            · have hlow : ∀ ad : Addr, 0 < ds.length → A2 = some ad → w.heap.size + 1 ≤ ad.block := by
                intro ad h0 he
                obtain ⟨g, cap, hv, hg, _⟩ := hown.form h0
                rw [hA2 h0] at he
                injection hv with hv1
                rw [hv1] at he
                injection he with he
                rw [← he]; exact hg
              refine ⟨A2, c2, rfl, hc2, ?_, fun ad h0 he => Nat.le_trans (Nat.le_succ _) (hlow ad h0 he)⟩
              have hne : ∀ ad : Addr, 0 < ds.length → A2 = some ad → ad.block ≠ w.heap.size := by
                intro ad h0 he hb
                have := hlow ad h0 he
                omega
              exact ((hr2.far (p := ⟨w.heap.size, 0, none⟩) hne _).far (p := ⟨w.heap.size, 1, none⟩) hne _).more (by have := hb2.size; simp [World.setCell]; omega)
            · have h0 : Below w.heap.size w w1 := ((Below.refl w.heap.size w).alloc (Nat.le_refl _) _).trans (hb1.mono (Nat.le_succ _))
              exact (h0.setCell (p := ⟨w.heap.size, 0, none⟩) (Nat.le_refl _) _).setCell (p := ⟨w.heap.size, 1, none⟩) (Nat.le_refl _) _
  · have hd' : isDecB (bs t) = false := by simpa using hd
    rw [hd'] at hdec
    have HD := Lib.hid hdec; clear hdec hd
    have HP := Lib.hid (show PSpec (bs s) false [] 15 from Or.inl ⟨by rw [HF.out, hd']; rfl, rfl, rfl, rfl⟩)
    have HDD := Lib.hid hd'; clear hd'
    go_enter Tryd.func6, Tryd.ntmps6
    go_wp2_with (first | (go_at_call 21; refine HC.out.mono ?_; rintro e w' ⟨rfl, rfl⟩) | (go_at_call 22; refine HD.out.mono ?_; rintro e w' ⟨rfl, rfl⟩))
    refine bodyPost_ret (v := .tuple #[.agg #[.bool false, .slice none 0 0], .int .i64 15]) (by simp [results, Tryd.results6, go_sem]) rfl ⟨_, false, [], 15, rfl, BigIs.zero _ _ _, HP.out, ?_⟩
    exact by repeat (first | exact Below.refl _ _ | refine Below.setCell ?_ (Nat.le_refl _) _ | refine Below.alloc ?_ (Nat.le_refl _) _)

end Go.Proofs.YtckkbeknjipddaaDoor
