/- The walk of the reference's big: bytes put together to digits. -/
import Derived.Test.YtckkbeknjipddaaDoorNum
import Derived.Test.YtckkbeknjipddaaDoorSigned
namespace Go.Proofs.YtckkbeknjipddaaDoor
open Go.RowKit

def grp (l : List Nat) : List Nat := if h : l = [] then [] else val 256 (l.take 4) :: grp (l.drop 4)
termination_by l.length
decreasing_by
  have : 0 < l.length := List.length_pos_iff.2 h
  simp; omega
theorem grp_nil : grp [] = [] := by unfold grp; simp
theorem grp_cons {l : List Nat} (h : l ≠ []) : grp l = val 256 (l.take 4) :: grp (l.drop 4) := by rw [grp, dif_neg h]
theorem grp_val (l : List Nat) : val 4294967296 (grp l) = val 256 l := by
  by_cases h : l = []
  · subst h; rw [grp_nil]; rfl
  · rw [grp_cons h, val, grp_val (l.drop 4)]
    conv => rhs; rw [← List.take_append_drop 4 l, val_append]
    by_cases h4 : 4 ≤ l.length
    · rw [List.length_take, Nat.min_eq_left h4]
    · have : l.drop 4 = [] := List.drop_eq_nil_of_le (by omega)
      rw [this]; simp [val]
termination_by l.length
decreasing_by
  have : 0 < l.length := List.length_pos_iff.2 h
  simp; omega
def gdig (l : List Nat) (j : Nat) : Nat := val 256 ((l.drop (4 * j)).take 4)
theorem grp_take_succ (l : List Nat) (j : Nat) (h : 4 * j < l.length) : (grp l).take (j + 1) = (grp l).take j ++ [gdig l j] := by
  induction j generalizing l with
  | zero =>
    have hne : l ≠ [] := by intro e; subst e; simp at h
    rw [grp_cons hne]; simp [gdig]
  | succ j ih =>
    have hne : l ≠ [] := by intro e; subst e; simp at h
    rw [grp_cons hne, List.take_succ_cons, List.take_succ_cons, ih (l.drop 4) (by simp; omega)]
    simp [gdig, List.drop_drop, show 4 * (j + 1) = 4 + 4 * j by omega]
theorem grp_take_all (l : List Nat) (j : Nat) (h : l.length ≤ 4 * j) : (grp l).take j = grp l := by
  induction j generalizing l with
  | zero =>
    have : l = [] := List.eq_nil_of_length_eq_zero (by omega)
    subst this; rw [grp_nil]; rfl
  | succ j ih =>
    by_cases hne : l = []
    · subst hne; rw [grp_nil]; rfl
    · rw [grp_cons hne, List.take_succ_cons, ih (l.drop 4) (by simp; omega)]
theorem grp_take_len (l : List Nat) (j : Nat) (h : 4 * j < l.length + 4) : ((grp l).take j).length = j := by
  induction j generalizing l with
  | zero => rfl
  | succ j ih =>
    have hne : l ≠ [] := by intro e; subst e; simp at h; omega
    rw [grp_cons hne, List.take_succ_cons, List.length_cons, ih (l.drop 4) (by simp; omega)]
theorem gdig_lt {l : List Nat} (hl : ∀ d ∈ l, d < 256) (j : Nat) : gdig l j < 4294967296 := by
  unfold gdig
  refine Nat.lt_of_lt_of_le (val_lt (fun d hd => hl d (List.mem_of_mem_drop (List.mem_of_mem_take hd)))) ?_
  exact Nat.le_trans (Nat.pow_le_pow_right (by decide) (List.length_take_le _ _)) (by decide)
theorem grp_lt {l : List Nat} (hl : ∀ d ∈ l, d < 256) : ∀ d ∈ grp l, d < 4294967296 := by
  intro d hd
  by_cases h : l = []
  · subst h; rw [grp_nil] at hd; cases hd
  · rw [grp_cons h, List.mem_cons] at hd
    rcases hd with rfl | hd
    · have := gdig_lt hl 0; simpa [gdig] using this
    · exact grp_lt (l := l.drop 4) (fun x hx => hl x (List.mem_of_mem_drop hx)) d hd
termination_by l.length
decreasing_by
  have : 0 < l.length := List.length_pos_iff.2 h
  simp; omega
theorem grp_can {l : List Nat} (hl : Can 256 l) : Can 4294967296 (grp l) := by
  refine ⟨grp_lt hl.1, ?_⟩
  by_cases h : l = []
  · subst h; rw [grp_nil]; simp
  · by_cases h4 : l.drop 4 = []
    · rw [grp_cons h, h4, grp_nil]
      have hle : l.length ≤ 4 := by simpa using h4
      rw [List.take_of_length_le hle]
      have := can_pos (by decide) hl h
      have := Nat.pow_pos (n := l.length - 1) (show 0 < 256 by decide)
      simp
      omega
    · have ih := (grp_can (l := l.drop 4) ⟨fun d hd => hl.1 d (List.mem_of_mem_drop hd), by
        have e := hl.2
        rw [← List.take_append_drop 4 l, List.getLast?_append] at e
        cases hg : (l.drop 4).getLast? with
        | none => simp
        | some x => rw [hg] at e; simpa using e⟩).2
      rw [grp_cons h]
      cases hg : grp (l.drop 4) with
      | nil => rw [grp_cons h4] at hg; cases hg
      | cons x y => rw [hg] at ih; simpa [List.getLast?_cons_cons] using ih
termination_by l.length
decreasing_by
  have : 0 < l.length := List.length_pos_iff.2 h
  simp; omega

/-- the inner loop: the digits of a group from place m on -/
theorem inner_step {l : List Nat} {j m : Nat} (hm : m < 4) :
    val 256 (((l.drop (4 * j)).take 4).drop m) = val 256 (((l.drop (4 * j)).take 4).drop (m + 1)) * 256 + (if 4 * j + m < l.length then l.getD (4 * j + m) 0 else 0) := by
  by_cases h : 4 * j + m < l.length
  · rw [if_pos h, List.drop_eq_getElem_cons (i := m) (by simp; omega), val]
    have e : l.getD (4 * j + m) 0 = l[4 * j + m] := by simp [List.getD, h]
    rw [e]
    simp
    omega
  · rw [if_neg h]
    have e : ∀ m', m ≤ m' → ((l.drop (4 * j)).take 4).drop m' = [] := fun m' hm' => List.drop_eq_nil_of_le (by simp; omega)
    rw [e m (Nat.le_refl _), e (m + 1) (by omega)]
    rfl
theorem inner_lt {l : List Nat} (hl : ∀ d ∈ l, d < 256) (j m : Nat) : val 256 (((l.drop (4 * j)).take 4).drop m) < 256 ^ (4 - m) := by
  refine Nat.lt_of_lt_of_le (val_lt (fun d hd => hl d (List.mem_of_mem_drop (List.mem_of_mem_take (List.mem_of_mem_drop hd))))) ?_
  refine Nat.pow_le_pow_right (by decide) ?_
  simp; omega

theorem ints_take (l : List Nat) (k : Nat) : (ints l).take k = ints (l.take k) := by simp [ints]
def bigN (neg : Bool) (xs : List Nat) : Bool := if 256 < (trimL xs).length then false else (neg && decide (0 < (trimL xs).length))
def bigD (xs : List Nat) : List Nat := if 256 < (trimL xs).length then [] else grp (trimL xs)
def bigE (xs : List Nat) : Nat := if 256 < (trimL xs).length then 6 else 0

set_option maxRecDepth 100000 in
set_option maxHeartbeats 1000000 in
theorem big_any (neg : Bool) (A : Option Addr) (n c B : Nat) (xs : List Nat) (w : World) (h : Reads w B A n (ints xs)) (hB : B ≤ w.heap.size) (hn : n ≤ 100000) (hc : n ≤ c) (hx : ∀ d ∈ xs, d < 256) :
    Calls Tryd.prog 27 #[.bool neg, .slice A n c] w fun e w' => ∃ v, e = .returned (.tuple #[v, .int .i64 (bigE xs : Nat)]) ∧ BigIs w' w.heap.size w'.heap.size v (bigN neg xs) (bigD xs) ∧ Below w.heap.size w w' := by
  have HL := Lib.hid (ints_len h)
  have hle := trimN_le xs n
  have HT := Lib.hid (show (trimL xs).length = trimN xs n by rw [trimL_len, HL.out])
  have hRt : Reads w B A (trimN xs n) (ints (trimL xs)) := by
    have := h.take hle
    rwa [ints_take, show xs.take (trimN xs n) = trimL xs by rw [← HL.out]; rfl] at this
  obtain ⟨t, ht⟩ : ∃ t, t = trimL xs := ⟨_, rfl⟩
  have htx : ∀ d ∈ t, d < 256 := fun d hd => hx d (by rw [ht] at hd; exact List.mem_of_mem_take hd)
  have htrim := rtrim_any A n c B xs (w.alloc (.cells #[.bool false, .slice none 0 0] 24)) (h.alloc hB _) (by unfold maxLen; omega) hc
  unfold bigN bigD bigE
  rw [← ht] at hRt HT ⊢
  obtain ⟨m, hm⟩ : ∃ m, m = trimN xs n := ⟨_, rfl⟩
  rw [← hm] at hle hRt HT htrim
  have HTR := Lib.hid htrim
  clear htrim ht hm
  by_cases h256 : 256 < m
  · rw [HT.out, if_pos h256, if_pos h256, if_pos h256]
    go_enter Tryd.func27, Tryd.ntmps27
    go_wp2_with (go_at_call 43; refine HTR.out.mono ?_; rintro e w' ⟨rfl, rfl⟩)
    refine bodyPost_ret (v := .tuple #[.agg #[.bool false, .slice none 0 0], .int .i64 6]) (by simp [results, Tryd.results27, go_sem]) rfl ⟨_, rfl, BigIs.zero _ _ _, ?_⟩
    exact by repeat (first | exact Below.refl _ _ | refine Below.setCell ?_ (Nat.le_refl _) _ | refine Below.alloc ?_ (Nat.le_refl _) _)
  · rw [HT.out, if_neg h256, if_neg h256, if_neg h256]
    obtain ⟨i0, hi, hz0, hz1, hz2⟩ := info_parts Tryd.info_u32
    go_enter Tryd.func27, Tryd.ntmps27
    go_wp2_with (go_at_call 43; refine HTR.out.mono ?_; rintro e w' ⟨rfl, rfl⟩)
    go_loopw [7] (fun i wr => ∃ (j : Nat) (A' : Option Addr) (c' : Nat), i = .int .i64 (4 * j : Nat) ∧ 4 * j < m + 4 ∧ Blk wr w.heap.size 24 #[.bool false, .slice none 0 0] ∧ Blk wr (w.heap.size + 1) 24 #[.bool false, .slice A' j c'] ∧
          wr.ownsRow (w.heap.size + 2) 42 1 (.slice A' j c') j (u32s ((grp t).take j)) ∧ Below w.heap.size w wr ∧ w.heap.size + 2 ≤ wr.heap.size)
        (fun i _ => m - (intOf i).toNat)
    case atStart => exact ⟨0, none, 0, rfl, by omega, (Blk.new _ _ _).alloc _, by simpa using Blk.new (w.alloc (.cells #[.bool false, .slice none 0 0] 24)) 24 #[.bool false, .slice none 0 0], World.ownsRow_nil _ _ _ _, ((Below.refl _ _).alloc (Nat.le_refl _) _).alloc (by simp) _, by simp⟩
    case round =>
      obtain ⟨j, A', c', rfl, hj, hb0, hb1, hown, hbel, hsz⟩ := hrel
      by_cases hlt : 4 * j < m
      · have hgl := Lib.hid (gdig_lt htx j)
        go_wp2
        go_loop [8, 9] (fun d k => ∃ q : Nat, q ≤ 4 ∧ k = .int .i64 ((q : Int) - 1) ∧ d = .int .u32 (val 256 (((t.drop (4 * j)).take 4).drop q) : Nat)) (fun _ k => (intOf k + 1).toNat)
        case atStart => exact ⟨4, Nat.le_refl _, rfl, by rw [List.drop_eq_nil_of_le (by simp; omega)]; rfl⟩
        case round =>
          obtain ⟨q, hq, rfl, rfl⟩ := hrel
          cases q with
          | zero =>
            obtain ⟨y0, y1, y2, y3, y4⟩ := hb1.two
            have HG := Lib.hid (grp_take_succ t j (by rw [HT.out]; exact hlt))
            have hgd : val 256 (((t.drop (4 * j)).take 4).drop 0) = gdig t j := rfl
            rw [hgd]
            obtain ⟨G, hG⟩ : ∃ G, G = gdig t j := ⟨_, rfl⟩
            rw [← hG]
            have HGG := Lib.hid hG; clear hG hgd
            go_wp2_with (at_builtin; refine wpList_append1 rfl _ _ 22 rfl (w.heap.size + 2) 42 i0 (.int .u32 0) 4 Tryd.underlying22 hi hz0 hz1 hz2 rfl _ _ _ _ rfl hown (.int .u32 (G : Int)) rfl rfl (by unfold maxLen; omega) (by omega) (by omega) ?_; intro g' c2 w1 hown' hbel'; have hb1' := hb1.below hbel' (by omega); obtain ⟨z0, z1, z2, z3, z4⟩ := hb1'.two)
            go_roundw
            case rel =>
              have hgb : w.heap.size + 2 ≤ g' := by
                obtain ⟨g3, cap, hv, hg3, _⟩ := hown'.form (by omega)
                injection hv with hv1
                injection hv1 with hv1
                injection hv1 with hv1
                omega
              refine ⟨j + 1, some ⟨g', 0, none⟩, c2, by go_num, by omega, ?_, hb1'.set_ 1 _, ?_, ?_, ?_⟩
              · exact (hb0.below hbel' (by omega)).far (by simp) _
              · rw [HG.out, ← HGG.out]
                have e : u32s ((grp t).take j ++ [G]) = u32s ((grp t).take j) ++ [.int .u32 (G : Int)] := by simp [u32s]
                rw [e]
                exact ownsRow_setCell_other hown' (by simp [Value.ownBlock]; omega) _
              · exact Below.setCell (hbel.trans (hbel'.mono (by omega))) (p := ⟨w.heap.size + 1, 1, none⟩) (by simp) _
              · have := hbel'.size
                simp [World.setCell]; omega
            case measure => simp [intOf]; omega
          | succ p =>
            have hv := inner_lt htx j (p + 1)
            have hv2 : 256 ^ (4 - (p + 1)) ≤ 16777216 := Nat.le_trans (Nat.pow_le_pow_right (by decide) (show 4 - (p + 1) ≤ 3 by omega)) (by decide)
            have HS := Lib.hid (inner_step (l := t) (j := j) (m := p) (by omega))
            rw [show (((p + 1 : Nat) : Int) - 1) = (p : Int) by omega]
            obtain ⟨V, hV⟩ : ∃ V, V = val 256 (((t.drop (4 * j)).take 4).drop (p + 1)) := ⟨_, rfl⟩
            rw [← hV] at hv ⊢
            have hV3 : V < 16777216 := by omega
            have HV := Lib.hid hV
            clear hV hv hv2
            by_cases hin : 4 * j + p < m
            · obtain ⟨ad, rfl, _, hcell⟩ := ints_at ((hRt.more hB).below hbel) hin
              have hxl : t[4 * j + p]?.getD 0 < 256 := by
                rw [List.getElem?_eq_getElem (by rw [HT.out]; exact hin)]
                exact htx _ (List.getElem_mem _)
              go_wp2
              go_round
              case rel =>
                refine ⟨p, by omega, rfl, ?_⟩
                rw [HS.out, if_pos (by rw [HT.out]; exact hin), ← HV.out]
                simp
              case measure => simp [intOf]
            · go_wp2
              go_round
              case rel =>
                refine ⟨p, by omega, rfl, ?_⟩
                rw [HS.out, if_neg (by rw [HT.out]; exact hin), ← HV.out]
                simp
              case measure => simp [intOf]
      · have HGT := Lib.hid (grp_take_all t j (by rw [HT.out]; omega))
        have HGL := Lib.hid (show (grp t).length = j by rw [← HGT.out]; exact grp_take_len t j (by rw [HT.out]; exact hj))
        have hrd := Reads.of_own hown
        rw [HGT.out] at hrd
        have hform := fun h0 => hown.form h0
        have hne0 : ∀ ad : Addr, 0 < j → A' = some ad → ad.block ≠ w.heap.size := by
          intro ad h0 he hb
          obtain ⟨g, cap, hv, hg, _⟩ := hown.form h0
          injection hv with hv1
          rw [hv1] at he
          injection he with he
          rw [← he] at hb
          simp at hb
          omega
        have hne1 : ∀ ad : Addr, 0 < j → A' = some ad → ad.block ≠ w.heap.size + 1 := by
          intro ad h0 he hb
          obtain ⟨g, cap, hv, hg, _⟩ := hown.form h0
          injection hv with hv1
          rw [hv1] at he
          injection he with he
          rw [← he] at hb
          simp at hb
          omega
        have hlow : ∀ ad : Addr, 0 < (grp t).length → A' = some ad → w.heap.size ≤ ad.block := by
          intro ad h0 he
          rw [HGL.out] at h0
          obtain ⟨g, cap, hv, hg, _⟩ := hown.form h0
          injection hv with hv1
          rw [hv1] at he
          injection he with he
          rw [← he]
          exact Nat.le_trans (Nat.le_add_right _ _) hg
        have hjc : j ≤ c' := by
          rcases hown.2 with ⟨h1, h2⟩ | ⟨g, cap, cur, h1, _, _, h2, _⟩
          · omega
          · injection h1 with _ _ h3; omega
        clear hform
        obtain ⟨y0, y1, y2, y3, y4⟩ := hb1.two
        obtain ⟨x0, x1, x2, x3, x4⟩ := hb0.two
        by_cases hm0 : 0 < m
        · have HM0 := Lib.hid (show decide (0 < m) = true by simpa using hm0)
          cases neg
          · go_wp2
            refine bodyPost_ret (v := .tuple #[.agg #[.bool false, .slice A' j c'], .int .i64 0]) (by simp [results, Tryd.results27, go_sem, x4, x0, x1]) rfl ⟨_, rfl, ⟨A', c', by rw [HGL.out]; first | rfl | (rw [HM0.out]; rfl), by rw [HGL.out]; exact hjc, ?_, hlow⟩, ?_⟩
            · rw [HGL.out]
              exact (((hrd.far (p := ⟨w.heap.size + 1, 0, none⟩) hne1 _).far (p := ⟨w.heap.size, 0, none⟩) hne0 _).far (p := ⟨w.heap.size, 1, none⟩) hne0 _).more (by simp [World.setCell])
            · exact ((hbel.setCell (p := ⟨w.heap.size + 1, 0, none⟩) (by simp) _).setCell (p := ⟨w.heap.size, 0, none⟩) (by simp) _).setCell (p := ⟨w.heap.size, 1, none⟩) (by simp) _
          · go_wp2
            refine bodyPost_ret (v := .tuple #[.agg #[.bool true, .slice A' j c'], .int .i64 0]) (by simp [results, Tryd.results27, go_sem, x4, x0, x1]) rfl ⟨_, rfl, ⟨A', c', by rw [HGL.out]; first | rfl | (rw [HM0.out]; rfl), by rw [HGL.out]; exact hjc, ?_, hlow⟩, ?_⟩
            · rw [HGL.out]
              exact (((hrd.far (p := ⟨w.heap.size + 1, 0, none⟩) hne1 _).far (p := ⟨w.heap.size, 0, none⟩) hne0 _).far (p := ⟨w.heap.size, 1, none⟩) hne0 _).more (by simp [World.setCell])
            · exact ((hbel.setCell (p := ⟨w.heap.size + 1, 0, none⟩) (by simp) _).setCell (p := ⟨w.heap.size, 0, none⟩) (by simp) _).setCell (p := ⟨w.heap.size, 1, none⟩) (by simp) _
        · have HM0 := Lib.hid (show decide (0 < m) = false by simpa using hm0)
          cases neg
          · go_wp2
            refine bodyPost_ret (v := .tuple #[.agg #[.bool false, .slice A' j c'], .int .i64 0]) (by simp [results, Tryd.results27, go_sem, x4, x0, x1]) rfl ⟨_, rfl, ⟨A', c', by rw [HGL.out]; first | rfl | (rw [HM0.out]; rfl), by rw [HGL.out]; exact hjc, ?_, hlow⟩, ?_⟩
            · rw [HGL.out]
              exact (((hrd.far (p := ⟨w.heap.size + 1, 0, none⟩) hne1 _).far (p := ⟨w.heap.size, 0, none⟩) hne0 _).far (p := ⟨w.heap.size, 1, none⟩) hne0 _).more (by simp [World.setCell])
            · exact ((hbel.setCell (p := ⟨w.heap.size + 1, 0, none⟩) (by simp) _).setCell (p := ⟨w.heap.size, 0, none⟩) (by simp) _).setCell (p := ⟨w.heap.size, 1, none⟩) (by simp) _
          · go_wp2
            refine bodyPost_ret (v := .tuple #[.agg #[.bool false, .slice A' j c'], .int .i64 0]) (by simp [results, Tryd.results27, go_sem, x4, x0, x1]) rfl ⟨_, rfl, ⟨A', c', by rw [HGL.out]; first | rfl | (rw [HM0.out]; rfl), by rw [HGL.out]; exact hjc, ?_, hlow⟩, ?_⟩
            · rw [HGL.out]
              exact (((hrd.far (p := ⟨w.heap.size + 1, 0, none⟩) hne1 _).far (p := ⟨w.heap.size, 0, none⟩) hne0 _).far (p := ⟨w.heap.size, 1, none⟩) hne0 _).more (by simp [World.setCell])
            · exact ((hbel.setCell (p := ⟨w.heap.size + 1, 0, none⟩) (by simp) _).setCell (p := ⟨w.heap.size, 0, none⟩) (by simp) _).setCell (p := ⟨w.heap.size, 1, none⟩) (by simp) _

end Go.Proofs.YtckkbeknjipddaaDoor
