/- The walk of turned. -/
/- The walks of limited, Turn and Reduce. -/
/- The walk of Reduce. -/
import Derived.Test.YthgnjjpkmikokaaDoorBao
import Derived.Test.YthgnjjpkmikokaaDoorBag
import Derived.Test.YthgnjjpkmikokaaDoorBab
import Derived.Test.YthgnjjpkmikokaaDoorBaf
import Derived.Deep.RegionHeldLaw
namespace Go.Proofs.YthgnjjpkmikokaaDoor
open Go.RowKit

/-- the offsets and their origins, among the first j of the square -/
def im (f : Nat → P2) (n m j : Nat) : List P2 := ((MR (rd f n)).take j).filter fun p => decide (0 ≤ px f n (tn (iv m) p))
def og (f : Nat → P2) (n m j : Nat) : List Int := (im f n m j).map fun p => px f n (tn (iv m) p)
theorem im_step {f : Nat → P2} {n m j : Nat} (h : j < (MR (rd f n)).length) : im f n m (j + 1) = if 0 ≤ px f n (tn (iv m) (lf (MR (rd f n)) j)) then im f n m j ++ [lf (MR (rd f n)) j] else im f n m j := by
  unfold im
  rw [List.take_succ_eq_append_getElem h, List.filter_append, lf_get h]
  split
  · next q => simp [q]
  · next q => simp [q]
theorem og_len (f : Nat → P2) (n m j : Nat) : (og f n m j).length = (im f n m j).length := by simp [og]
theorem im_le (f : Nat → P2) (n m j : Nat) : (im f n m j).length ≤ 25 := by
  have h1 := List.length_filter_le (fun p => decide (0 ≤ px f n (tn (iv m) p))) ((MR (rd f n)).take j)
  have h2 : ((MR (rd f n)).take j).length ≤ (MR (rd f n)).length := by rw [List.length_take]; omega
  have h3 := MR_len (r := rd f n)
  unfold im
  omega
theorem im_all (f : Nat → P2) (n m : Nat) : im f n m (MR (rd f n)).length = imgs f n m ∧ og f n m (MR (rd f n)).length = orgs f n m := by
  unfold og orgs im imgs
  rw [List.take_length]
  exact ⟨rfl, rfl⟩
theorem own_far' {w w' : World} {base k : Nat} {e : TypeId} {v v' : Value} {n : Nat} {xs : List Value} {o : Obj} (h : w.ownsRow base e k v n xs) (hne : ∀ g, v.ownBlock = some g → v'.ownBlock ≠ some g) (hg : (w.alloc o).grownBy w' v'.ownBlock) : w'.ownsRow base e k v n xs := by
  refine ⟨h.1, ?_⟩
  rcases h.2 with hn | ⟨g, cap, cur, rfl, hb', hgg, rest⟩
  · exact .inl hn
  · have hlt := (Array.getElem?_eq_some_iff.1 hgg).1
    refine .inr ⟨g, cap, cur, rfl, hb', ?_, rest⟩
    rw [hg.block g (by simp; omega) (fun e => hne g rfl e.symm), Below.heap_alloc _ _ _ hlt]
    exact hgg
set_option maxRecDepth 100000 in
set_option maxHeartbeats 8000000 in
theorem turned_any (k : Int) (A : Option Addr) (n c : Nat) (f : Nat → P2) (w : World) (hM : Mat w) (h : QReads w w.heap.size A n f) (hd : Hd f n) :
    Calls Tryd.prog 22 #[.int .i64 k, .slice A n c] w fun e w' => ∃ AI cI AO cO, e = .returned (.tuple #[.slice AI (imgs f n (md k)).length cI, .slice AO (orgs f n (md k)).length cO]) ∧ QReads w' w'.heap.size AI (imgs f n (md k)).length (lf (imgs f n (md k))) ∧ Reads w' w'.heap.size AO (orgs f n (md k)).length (il (orgs f n (md k))) ∧ (∀ ad, AO = some ad → w.heap.size ≤ ad.block) ∧ (∀ ad, AI = some ad → w.heap.size ≤ ad.block) ∧ (∀ ad ad', AI = some ad → AO = some ad' → ad.block ≠ ad'.block) ∧ Below w.heap.size w w' := by
  obtain ⟨i0, hi, hz0, hz1, hz2⟩ := info_parts Tryd.info_point
  obtain ⟨j0, ji, jz0, jz1, jz2⟩ := info_parts Tryd.info_int
  have hr := rd_bd f n hd.2.1
  have hm := md_lt k
  have hn25 := hd.1.2
  have hw0 := hM.1
  have RA := Lib.hid (radius_any A n c f w h hd)
  have MO := Lib.hid (fun w => mooreR hr.1 hr.2 w)
  have HM := Lib.hid hM
  have HQ := Lib.hid h
  have HI := Lib.hid (fun w => inverse_any k w)
  have HL := MR_len (r := rd f n)
  have HB2 := Lib.hid (fun j (hj : j < (MR (rd f n)).length) => (mem_MR hr.1 hr.2).1 (lf_mem (l := MR (rd f n)) hj))
  have HIA := Lib.hid (im_all f n (md k))
  obtain ⟨IM, hIM⟩ : ∃ IM, IM = imgs f n (md k) := ⟨_, rfl⟩
  obtain ⟨OG, hOG⟩ : ∃ OG, OG = orgs f n (md k) := ⟨_, rfl⟩
  rw [← hIM, ← hOG] at HIA ⊢
  clear hIM hOG hM h
  generalize md k = m at hm HI HIA
  have hivm := iv_lt m hm
  go_enter Tryd.func22, Tryd.ntmps22
  go_wp2_with (first
    | (go_at_call 53; (with_reducible refine (RA.out).mono ?_); rintro e w1 ⟨rfl, hb⟩; have B1 := Lib.hid hb; clear hb)
    | (go_at_call 52; (with_reducible refine (MO.out _).mono ?_); rintro e w2 ⟨AM, cM, rfl, hq, hb⟩; have Q2 := Lib.hid hq; have B2 := Lib.hid (B1.out.trans (hb.mono B1.out.size)); clear hb hq))
  clear RA MO
  have s2 := B2.out.size
  generalize hML : MR (rd f n) = ML at Q2 HL HB2
  go_loopw [6, 7, 15] (fun iv6 iv7 jv wr => ∃ (j : Nat) (AI AO : Option Addr) (cI cO : Nat), j ≤ ML.length ∧ jv = .int .i64 (j : Int) ∧ iv6 = .slice AI (im f n m j).length cI ∧ iv7 = .slice AO (im f n m j).length cO ∧ wr.ownsRow w2.heap.size 40 2 (.slice AI (im f n m j).length cI) (im f n m j).length (cl (im f n m j)) ∧ wr.ownsRow w2.heap.size 3 1 (.slice AO (im f n m j).length cO) (im f n m j).length (il (og f n m j)) ∧
    (∀ g, (Value.slice AI (im f n m j).length cI).ownBlock = some g → (Value.slice AO (im f n m j).length cO).ownBlock ≠ some g) ∧ Below w2.heap.size w2 wr) (fun _ _ jv _ => ML.length - (intOf jv).toNat)
  case atStart =>
    refine ⟨0, none, none, 0, 0, Nat.zero_le _, rfl, ?_, ?_, ?_, ?_, ?_, Below.refl _ _⟩
    · simp [im]
    · simp [im]
    · simp only [im, List.take_zero, List.filter_nil]; exact World.ownsRow_nil _ _ _ _
    · simp only [og, im, List.take_zero, List.filter_nil]; exact World.ownsRow_nil _ _ _ _
    · simp [Value.ownBlock]
  case round =>
    obtain ⟨j, AI, AO, cI, cO, hj, rfl, rfl, rfl, ho1, ho2, hne, hbel⟩ := hrel
    have HO1 := Lib.hid ho1
    have HO2 := Lib.hid ho2
    have HNE := Lib.hid hne
    have HE := Lib.hid hbel
    have hL25 := im_le f n m j
    clear ho1 ho2 hne hbel
    by_cases hjn : j < ML.length
    · obtain ⟨g, o, rfl, hg, hc⟩ := (Q2.out.below HE.out) (by omega)
      obtain ⟨c0, c1⟩ := hc j hjn
      have hgw : g < wr.heap.size := Nat.lt_of_lt_of_le hg HE.out.size
      obtain ⟨⟨b1, b2⟩, b3, b4⟩ := HB2.out j hjn
      have hst := im_step (f := f) (n := n) (m := m) (j := j) (by rw [hML]; exact hjn)
      rw [hML] at hst
      generalize hp : lf ML j = p at c0 c1 b1 b2 b3 b4 hst
      obtain ⟨x, y⟩ := p
      simp only at c0 c1 b1 b2 b3 b4
      have K7 := Lib.hid (Blk.new wr 40 #[.int .i64 x, .int .i64 y])
      have B7 := Lib.hid ((Below.refl wr.heap.size wr).alloc (Nat.le_refl _) (.cells #[.int .i64 x, .int .i64 y] 40))
      have BW := Lib.hid ((B2.out.trans (HE.out.mono B2.out.size)).alloc (by have := B2.out.size; have := HE.out.size; omega) (.cells #[.int .i64 x, .int .i64 y] 40))
      have S7 : wr.heap.size < (wr.alloc (.cells #[.int .i64 x, .int .i64 y] 40)).heap.size := by simp
      obtain ⟨i, hii⟩ : ∃ i, i = px f n (tn (iv m) (x, y)) := ⟨_, rfl⟩
      rw [← hii] at hst
      have hog : og f n m (j + 1) = if 0 ≤ i then og f n m j ++ [i] else og f n m j := by
        unfold og
        rw [hst]
        split
        · rw [List.map_append, List.map_singleton, ← hii]
        · rfl
      have HST := Lib.hid hst
      have HOG := Lib.hid hog
      have HII := Lib.hid hii
      have IN := Lib.hid (fun w => (HI.out w))
      have AP := Lib.hid (fun w (hM : Mat w) => by
        have := apply_any ((iv m : Nat) : Int) x y w hM (by omega) (by omega) (by omega) (by omega)
        rwa [md_nat _ hivm] at this)
      have PI := Lib.hid (fun w (hq : QReads w w.heap.size A n f) => pindex_any A n c f (turnX (iv m) x y) (turnY (iv m) x y) w hq (by omega))
      have e2 : px f n (turnX (iv m) x y, turnY (iv m) x y) = i := hii.symm
      rw [e2] at PI
      clear hst hog hii e2 hp hc
      go_wp2
      generalize wr.alloc (.cells #[.int .i64 x, .int .i64 y] 40) = w3 at K7 B7 BW S7 ⊢
      have q0 := fun p : LowW w3.heap.size w3 => (K7.out.below p.below K7.out.lt).two.1
      have q1 := fun p : LowW w3.heap.size w3 => (K7.out.below p.below K7.out.lt).two.2.1
      have hq3 := Lib.hid (HQ.out.later BW.out)
      have hm3 := Lib.hid (HM.out.below BW.out hw0)
      have hw3 : 0 < w3.heap.size := by omega
      have AP3 := Lib.hid (fun p : LowW w3.heap.size w3 => AP.out p.w (hm3.out.below p.below hw3))
      have PI3 := Lib.hid (fun p : LowW w3.heap.size w3 => PI.out p.w (hq3.out.later p.below))
      have IN3 := Lib.hid (fun p : LowW w3.heap.size w3 => (IN.out p.w).mono (R' := fun e w' => e = .returned (.int .i64 ((iv m : Nat) : Int)) ∧ Below p.w.heap.size p.w w') fun e w' h => ⟨h.1, h.2 ▸ Below.refl _ _⟩)
      clear c0 c1
      refine wp_region_low w3.heap.size w3 (by kernel_rfl) (by kernel_rfl) (Below.refl _ _) ?_
      repeat (quiet_step (first | (go_at_call 9; exact LowW.of_call _ (Nat.le_refl _) (IN3.out _)) | (go_at_call 55; exact LowW.of_call _ (Nat.le_refl _) (AP3.out _)) | (go_at_call 54; exact LowW.of_call _ (Nat.le_refl _) (PI3.out _))))
      refine wpQuiet_nil ?_
      rintro w4 ⟨p, rfl⟩
      have K4 := Lib.hid (K7.out.below p.below K7.out.lt)
      have B4 := Lib.hid (B7.out.trans (p.below.mono B7.out.size))
      have S4 : wr.heap.size < p.w.heap.size := Nat.lt_of_lt_of_le S7 p.below.size
      have O1 := Lib.hid (own_below2 HO1.out B4.out)
      have O2 := Lib.hid (own_below HO2.out B4.out)
      clear q0 q1 AP3 PI3 IN3 IN AP PI
      generalize p.w = w4 at K4 B4 S4 O1 O2 ⊢
      by_cases hi0 : 0 ≤ i
      · have d2 : decide (0 ≤ i) = true := by rw [decide_eq_true_iff]; exact hi0
        have hst := HST.out
        have hog := HOG.out
        rw [if_pos hi0] at hst hog
        obtain ⟨k0, k1, k2, k3, k4⟩ := K4.out.two
        have HST2 := Lib.hid hst
        have HOG2 := Lib.hid hog
        clear hst hog
        have sz4 : w2.heap.size ≤ w4.heap.size := by have := HE.out.size; omega
        have hol : ∀ g, (Value.slice AO (im f n m j).length cO).ownBlock = some g → g < w4.heap.size := fun g hg => (O2.out.lt g hg).2
        have HOL := Lib.hid hol
        clear hol
        go_wp2_with (first
          | (at_builtin; refine wpList_append2L rfl _ _ 22 rfl w2.heap.size 40 i0 (.agg #[.int .i64 0, .int .i64 0]) 16 Tryd.underlying22 hi hz0 hz1 hz2 rfl AI (im f n m j).length cI _ rfl O1.out (.int .i64 x) (.int .i64 y) rfl rfl rfl (by unfold maxLen; omega) (by omega) sz4 ?_; intro g5 c5 w5 hown5 hbel5 hgr5 hat5; have R1 := Lib.hid hown5; have G5 := Lib.hid hgr5; have T5 := Lib.hid hat5; have E5 := Lib.hid hbel5; have R2 := Lib.hid (own_far' O2.out (fun g hg hg' => HNE.out g hg' hg) hgr5); have sz5 : w2.heap.size ≤ w5.heap.size := Nat.le_trans sz4 (by have := hgr5.size; simp at this; omega); clear hown5 hbel5 hgr5 hat5)
          | (at_builtin; refine wpList_append1L rfl _ _ 26 rfl w2.heap.size 3 j0 (.int .i64 0) 8 Tryd.underlying26 ji jz0 jz1 jz2 rfl AO (im f n m j).length cO _ rfl R2.out (.int .i64 i) rfl rfl (by unfold maxLen; omega) (by omega) sz5 ?_; intro g6 c6 w6 hown6 hbel6 hgr6 hat6))
        have h5l := (R1.out.lt g5 rfl).2
        have hne5 : ∀ g, (Value.slice (some ⟨g5, 0, none⟩) ((im f n m j).length + 1) c5).ownBlock = some g → (Value.slice AO (im f n m j).length cO).ownBlock ≠ some g := fun g hg hg' => by
          have hg5 : g5 = g := by simpa [Value.ownBlock] using hg
          subst hg5
          rcases T5.out with e | e
          · exact HNE.out g5 e hg'
          · have := HOL.out _ hg'; omega
        have X1 := own_far' R1.out hne5 hgr6
        refine ⟨⟨j + 1, some ⟨g5, 0, none⟩, some ⟨g6, 0, none⟩, c5, c6, by omega, by go_num, ?_, ?_, ?_, ?_, ?_, ((HE.out.trans (B4.out.mono HE.out.size)).trans E5.out).trans hbel6⟩, by simp [intOf]; omega⟩
        · rw [HST2.out]; simp
        · rw [HST2.out]; simp
        · rw [HST2.out, List.length_append, List.length_singleton, cl_add]; exact X1
        · rw [HST2.out, HOG2.out, List.length_append, List.length_singleton, il_add]; exact hown6
        · rw [HST2.out, List.length_append, List.length_singleton]
          intro g hg hg'
          have e1 : g5 = g := by simpa [Value.ownBlock] using hg
          have e2 : g6 = g := by simpa [Value.ownBlock] using hg'
          subst e1
          rcases hat6 with e | e
          · rw [e2] at e
            exact hne5 g5 (by simp [Value.ownBlock]) e
          · omega
      · have d2 : decide (0 ≤ i) = false := by rw [decide_eq_false_iff_not]; exact hi0
        have hst := HST.out
        have hog := HOG.out
        rw [if_neg hi0] at hst hog
        have HST2 := Lib.hid hst
        have HOG2 := Lib.hid hog
        clear hst hog
        go_wp2
        refine ⟨⟨j + 1, AI, AO, cI, cO, by omega, by go_num, by rw [HST2.out], by rw [HST2.out], by rw [HST2.out]; exact O1.out, by rw [HST2.out, HOG2.out]; exact O2.out, by rw [HST2.out]; exact HNE.out, HE.out.trans (B4.out.mono HE.out.size)⟩, by simp [intOf]; omega⟩
    · obtain rfl : j = ML.length := by omega
      have e1 := HIA.out.1
      have e2 := HIA.out.2
      rw [hML] at e1 e2
      go_wp2
      go_ret2
      refine ⟨AI, cI, AO, cO, ?_, ?_, ?_, ?_, ?_, ?_, (B2.out.trans (HE.out.mono B2.out.size))⟩
      · rw [← e1, ← e2, og_len]; rfl
      · rw [← e1]; exact QReads.of_list HO1.out
      · rw [← e2, og_len]; exact Reads.of_own HO2.out
      · intro ad e
        subst e
        have := (HO2.out.lt ad.block rfl).1
        omega
      · intro ad e
        subst e
        have := (HO1.out.lt ad.block rfl).1
        omega
      · intro ad ad' e e' q
        subst e e'
        exact HNE.out ad.block rfl (by rw [q]; rfl)
end Go.Proofs.YthgnjjpkmikokaaDoor
namespace Go.Proofs.YthgnjjpkmikokaaDoor
open Go.RowKit

set_option maxRecDepth 100000 in
theorem limited_ok (st : Int) (AH AN : Option Addr) (nh ch m cN : Nat) (w : World) (hm : m ≤ 4096) :
    Calls Tryd.prog 24 #[.agg #[.int .i64 st, .slice AH nh ch, .slice AN m cN]] w fun e w' => e = .returned (.tuple #[.agg #[.int .i64 st, .slice AH nh ch, .slice AN m cN], .int .i64 0]) ∧ Below w.heap.size w w' := by
  have d1 : decide (4096 < (m : Int)) = false := by rw [decide_eq_false_iff_not]; omega
  obtain ⟨k1, k2, b2⟩ := two_blk w #[.int .i64 st, .slice AH nh ch, .slice AN m cN] #[.int .i64 0, .slice none 0 0, .slice none 0 0] 25 25
  obtain ⟨c0, c1, c2, c3⟩ := k1.three
  obtain ⟨d0, d1', d2, d3, d4, d5, d6⟩ := k2.three6
  clear k1 k2 b2
  go_enter Tryd.func24, Tryd.ntmps24
  go_wp2
  obtain ⟨k1, k2, b2⟩ := two_blk w #[.int .i64 st, .slice AH nh ch, .slice AN m cN] #[.int .i64 st, .slice AH nh ch, .slice AN m cN] 25 25
  obtain ⟨e0, e1, e2, e3, e4, e5, e6⟩ := k2.three6
  exact bodyPost_ret (v := .tuple #[.agg #[.int .i64 st, .slice AH nh ch, .slice AN m cN], .int .i64 0]) (by simp [results, Tryd.results24, go_sem, e0, e1, e2]) rfl ⟨rfl, b2⟩
set_option maxRecDepth 100000 in
theorem limited_no (st : Int) (AH AN : Option Addr) (nh ch m cN : Nat) (w : World) (hm : 4096 < m) (hm2 : m ≤ 5000) :
    Calls Tryd.prog 24 #[.agg #[.int .i64 st, .slice AH nh ch, .slice AN m cN]] w fun e w' => e = .returned (.tuple #[.agg #[.int .i64 0, .slice none 0 0, .slice none 0 0], .int .i64 6]) ∧ Below w.heap.size w w' := by
  have d1 : decide (4096 < (m : Int)) = true := by rw [decide_eq_true_iff]; omega
  obtain ⟨k1, k2, b2⟩ := two_blk w #[.int .i64 st, .slice AH nh ch, .slice AN m cN] #[.int .i64 0, .slice none 0 0, .slice none 0 0] 25 25
  obtain ⟨c0, c1, c2, c3⟩ := k1.three
  obtain ⟨d0, d1', d2, d3, d4, d5, d6⟩ := k2.three6
  have K2 := Lib.hid k2
  have B2 := Lib.hid b2
  clear k1 k2 b2
  go_enter Tryd.func24, Tryd.ntmps24
  go_wp2
  obtain ⟨e0, e1, e2, e3, e4, e5, e6⟩ := K2.out.three6
  exact bodyPost_ret (v := .tuple #[.agg #[.int .i64 0, .slice none 0 0, .slice none 0 0], .int .i64 6]) (by simp [results, Tryd.results24, go_sem, e0, e1, e2]) rfl ⟨rfl, B2.out⟩
/-- three cells of a struct -/
theorem tri {w : World} {g : Nat} {t : TypeId} {a b c : Value} (h : Blk w g t #[a, b, c]) : w.cell? ⟨g, 0, none⟩ = some a ∧ w.cell? ⟨g, 1, none⟩ = some b ∧ w.cell? ⟨g, 2, none⟩ = some c := ⟨h.three.1, h.three.2.1, h.three.2.2.1⟩
theorem below_blk {B g : Nat} {w w' : World} {t : TypeId} {cs : Array Value} (hb : Below B w w') (h : Blk w g t cs) (hg : g < B) : Blk w' g t cs := h.below hb hg
theorem below_undrew {B : Nat} {w w' : World} (h : Below B w.drew w') : Below B w w' := ⟨h.os, h.tape, h.output, h.size, h.block⟩
/-- reordered, behind plant -/
theorem reo_at {w2 w3 w4 : World} {fb sn : Nat} {G G4 : Nat → Prop} {L : List Ndv} {n r : Int} {os : List Int} {AO : Option Addr} {N : Nat} {S' : Wk (List Ndv × Mem)} (hf : Fo w4 fb G4 (sn : Int) L) (hr : Fr G w3.drew G4 w4) (hG : ∀ k, G k → w2.heap.size ≤ k) (h3 : w2.heap.size ≤ w3.heap.size) (hb : Below w2.heap.size w2 w3) (hA : Reads w2 w2.heap.size AO os.length (il os)) (hl : os.length = N) (n1 : 1 ≤ N) (n25 : N ≤ 25) (hob : ∀ x ∈ os, 0 ≤ x ∧ x < (N : Int)) (hn : I32 n)
    (hv : visitF sn (elR sn os) N n ⟨(L, []), [], []⟩ = some (r, S')) (c : Nat) :
    Calls Tryd.prog 25 #[.pointer (some ⟨fb, 0, none⟩), .int .i32 n, .slice AO N c] w4 fun e w' =>
      ∃ A' c' G', e = .returned (.slice A' S'.out.length c') ∧ NL w' w4.heap.size A' c' S'.out ∧ Fr (fun k => G4 k ∨ ∃ ad, AO = some ad ∧ k = ad.block) w4 G' w' := by
  subst hl
  have hb4 : Below w2.heap.size w2 w4 := hb.trans (below_undrew (hr.below hG h3))
  refine reordered_any hf n1 (by omega) (fun x hx => ⟨(hob x hx).1, by have := (hob x hx).2; omega⟩) ((hA.below hb4).more hb4.size) (fun ad e hG4 => ?_) hn hv
  obtain ⟨ad', e', hlt, _⟩ := hA.2 (by omega)
  rw [e] at e'
  injection e' with e'
  subst e'
  rcases hr.new _ hG4 with h | h
  · have := hG _ h; omega
  · have h : w3.heap.size ≤ ad.block := h
    omega
/-- what reordered leaves alone -/
theorem not_at {w1 w2 w3 w4 : World} {G G4 : Nat → Prop} {AO : Option Addr} (hr : Fr G w3.drew G4 w4) (hG : ∀ k, G k → w2.heap.size ≤ k) (h3 : w2.heap.size ≤ w3.heap.size) (ho : ∀ ad, AO = some ad → w1.heap.size ≤ ad.block) : ∀ k, k < w1.heap.size → k < w2.heap.size → ¬ (G4 k ∨ ∃ ad, AO = some ad ∧ k = ad.block) := by
  intro k h1 h2 h
  rcases h with h | ⟨ad, e, rfl⟩
  · rcases hr.new _ h with h | h
    · have := hG _ h; omega
    · have h : w3.heap.size ≤ k := h
      omega
  · have := ho ad e; omega
theorem Fr.qreads {G G' : Nat → Prop} {w w' : World} (h : Fr G w G' w') {A : Option Addr} {n : Nat} {f : Nat → P2} (k : QReads w w.heap.size A n f) (hA : 0 < n → ∀ ad, A = some ad → ¬ G ad.block) : QReads w' w'.heap.size A n f := fun hn => by
  obtain ⟨g, o, e, hg, hc⟩ := k hn
  have hn2 := hA hn _ e
  exact ⟨g, o, e, Nat.lt_of_lt_of_le hg h.size, fun i hi => by
    obtain ⟨c1, c2⟩ := hc i hi
    exact ⟨(World.cell?_of_block (h.block g hg hn2)).trans c1, (World.cell?_of_block (h.block g hg hn2)).trans c2⟩⟩
theorem set3_fr (w : World) (g : Nat) (b0 b1 b2 : Value) : Fr (fun k => k = g) w (fun k => k = g) (((w.setCell ⟨g, 0, none⟩ b0).setCell ⟨g, 1, none⟩ b1).setCell ⟨g, 2, none⟩ b2) :=
  ((Fr.set_ w (p := ⟨g, 0, none⟩) b0 (by rfl)).trans (Fr.set_ _ (p := ⟨g, 1, none⟩) b1 (by rfl))).trans (Fr.set_ _ (p := ⟨g, 2, none⟩) b2 (by rfl))
/-- what Turn leaves -/
def TurnOut (sn : Nat) (n : Nat) (IM : List P2) (out : List (Int × List Int)) (w : World) (e : Ending) (w' : World) : Prop :=
  if out.length ≤ 4096 then ∃ AI cI AN cN, e = .returned (.tuple #[.agg #[.int .i64 (sn : Int), .slice AI n cI, .slice AN out.length cN], .int .i64 0]) ∧ (TS w' AI AN (trO sn n (lf IM) out) ∧ ∀ (H H' : Nat → Prop) (w'' : World), Fr H w' H' w'' → (∀ k, H k → k < w.heap.size) → TS w'' AI AN (trO sn n (lf IM) out)) ∧ Below w.heap.size w w'
  else e = .returned (.tuple #[.agg #[.int .i64 0, .slice none 0 0, .slice none 0 0], .int .i64 6]) ∧ Below w.heap.size w w'
set_option maxRecDepth 100000 in
set_option maxHeartbeats 8000000 in
theorem turn_any (k : Int) {T : Tr} {sn : Nat} {AH AN : Option Addr} {cH cN : Nat} {w : World} {nums : List Int} {L : List Ndv} {r : Int} {S' : Wk (List Ndv × Mem)} (hst : T.st = (sn : Int)) (hM : Mat w) (h : TS w AH AN T) (hT : Rt T) (hp : plantF (sn : Int) T.lv T.nx T.m [] = some (nums, L)) (hn : I32 (ig nums (T.m - 1)))
    (hv : visitF sn (elR sn (orgs T.f T.n (md k))) T.n (ig nums (T.m - 1)) ⟨(L, []), [], []⟩ = some (r, S')) (hlen : S'.out.length ≤ 5000) :
    Calls Tryd.prog 7 #[.int .i64 k, .agg #[.int .i64 (sn : Int), .slice AH T.n cH, .slice AN T.m cN]] w fun e w' => TurnOut sn T.n (imgs T.f T.n (md k)) S'.out w e w' := by
  have s1 := hT.s1
  have s2 := hT.s2
  have hd := hT.hd
  have hm8 := md_lt k
  have hw0 := hM.1
  have hIl := imgs_len hd hm8
  have hOl := orgs_len hd hm8
  have HOB := Lib.hid (orgs_bd hd hm8)
  have n25 := hd.1.2
  have n1 := hd.1.1
  have HTS := Lib.hid h
  have HM := Lib.hid hM
  have RI := Lib.hid (fun w' (hb : Below w.heap.size w w') => tright_yes AH cH AN cN T w' (h.later hb) hT)
  rw [hst] at RI
  have TU := Lib.hid (fun w' (hb : Below w.heap.size w w') => turned_any k AH T.n cH T.f w' (hM.below hb hw0) (h.1.later hb) hd)
  have NF := Lib.hid (fun w' => newForest_any (sn := sn) (w := w') (by omega) (by omega))
  have HP := Lib.hid hp
  have HN := Lib.hid hn
  have HV := Lib.hid hv
  have HTT := Lib.hid hT
  have HST := Lib.hid hst
  rw [hst] at s1 s2
  clear hst
  obtain ⟨IM, hIM⟩ : ∃ IM, IM = imgs T.f T.n (md k) := ⟨_, rfl⟩
  obtain ⟨OG, hOG⟩ : ∃ OG, OG = orgs T.f T.n (md k) := ⟨_, rfl⟩
  rw [← hIM, ← hOG] at TU
  rw [← hOG] at HV hOl HOB
  rw [← hIM] at hIl ⊢
  clear hIM hOG h hM hp hn hv hd hT
  go_enter Tryd.func7, Tryd.ntmps7
  have Z1 := Lib.hid ((Below.refl w.heap.size w).alloc (Nat.le_refl _) (.cells #[.int .i64 (sn : Int), .slice AH T.n cH, .slice AN T.m cN] 25))
  have Z2 := Lib.hid (Z1.out.alloc Z1.out.size (.cells #[.int .i64 0, .slice none 0 0, .slice none 0 0] 25))
  have KT := Lib.hid ((Blk.new w 25 #[.int .i64 (sn : Int), .slice AH T.n cH, .slice AN T.m cN]).alloc (.cells #[.int .i64 0, .slice none 0 0, .slice none 0 0] 25))
  have KR := Blk.new (w.alloc (.cells #[.int .i64 (sn : Int), .slice AH T.n cH, .slice AN T.m cN] 25)) 25 #[.int .i64 0, .slice none 0 0, .slice none 0 0]
  simp only [World.size_alloc] at KR
  have KR := Lib.hid KR
  obtain ⟨t0, t1, t2, t3⟩ := KT.out.three
  go_wp2_with (first
    | (go_at_call 21; (with_reducible refine (RI.out _ Z2.out).mono ?_); rintro e w1 ⟨rfl, hb⟩; have B1 := Lib.hid (Z2.out.trans (hb.mono Z2.out.size)); have KT1 := Lib.hid (KT.out.below hb KT.out.lt); have KR1 := Lib.hid (KR.out.below hb KR.out.lt); clear hb; obtain ⟨u0, u1, u2, u3⟩ := KT1.out.three)
    | (go_at_call 22; (with_reducible refine (TU.out _ B1.out).mono ?_); rintro e w2 ⟨AI, cI, AO, cO, rfl, hq, hr, ho, hi2, hio, hb⟩; have I2 := Lib.hid hi2; have IO2 := Lib.hid hio; have L2 := Lib.hid hb; have Q2 := Lib.hid hq; have R2 := Lib.hid hr; have O2 := Lib.hid ho; have B2 := Lib.hid (B1.out.trans (hb.mono B1.out.size)); have KT2 := Lib.hid (KT1.out.below hb KT1.out.lt); have KR2 := Lib.hid (KR1.out.below hb KR1.out.lt); clear hb hq hr ho hio hi2; obtain ⟨v0, v1, v2, v3⟩ := KT2.out.three)
    | (go_at_call 23; (with_reducible refine (NF.out _).mono ?_); rintro e w3 ⟨fb, G, rfl, hf, hg, hb⟩; have F3 := Lib.hid hf; have G3 := Lib.hid hg; have L3 := Lib.hid hb; have B3 := Lib.hid (B2.out.trans (hb.mono B2.out.size)); have KT3 := Lib.hid (KT2.out.below hb KT2.out.lt); have KR3 := Lib.hid (KR2.out.below hb KR2.out.lt); clear hb hf hg))
  have hsz1 := B1.out.size
  have hsz2 : w1.heap.size ≤ w2.heap.size := L2.out.size
  have hsz3 : w2.heap.size ≤ w3.heap.size := L3.out.size
  have S0 : w3.drew.cell? ⟨w.heap.size, 0, none⟩ = some (.int .i64 (sn : Int)) ∧ w3.drew.cell? ⟨w.heap.size, 1, none⟩ = some (.slice AH T.n cH) ∧ w3.drew.cell? ⟨w.heap.size, 2, none⟩ = some (.slice AN T.m cN) := ⟨KT3.out.three.1, KT3.out.three.2.1, KT3.out.three.2.2.1⟩
  have PL := Lib.hid (by
    have := plant_any (w := w3.drew) (AH := AH) (nh := T.n) (ch := cH) (cN := cN) (B := w.heap.size) (HST.out ▸ (F3.out.below ((Below.refl w3.heap.size w3).drew))) HTT.out (HTS.out.2.below (show Below w.heap.size w w3.drew from B3.out.drew)) (show w.heap.size ≤ w3.heap.size by omega) (fun k hk => by have := G3.out k hk; omega) (HST.out.symm ▸ HP.out)
    rwa [HST.out] at this)
  have hG3 : ∀ k, G k → w2.heap.size ≤ k := G3.out
  have HG3 := Lib.hid hG3
  clear hG3
  have k0l : w.heap.size < w2.heap.size := Nat.lt_of_lt_of_le KT1.out.lt hsz2
  have k1l : w.heap.size + 1 < w2.heap.size := Nat.lt_of_lt_of_le KR1.out.lt hsz2
  have k0m := KT1.out.lt
  have k1m := KR1.out.lt
  by_cases hle : S'.out.length ≤ 4096
  · go_region_held_law (fun w' => w'.cell? ⟨w.heap.size, 0, none⟩ = some (.int .i64 (sn : Int)) ∧ w'.cell? ⟨w.heap.size, 1, none⟩ = some (.slice AH T.n cH) ∧ w'.cell? ⟨w.heap.size, 2, none⟩ = some (.slice AN T.m cN)) (first | assumption | go_keep)
      (first
      | (go_at_call 26; (with_reducible refine (PL.out).mono ?_); rintro e w4 ⟨G4, rfl, hf4, hr4⟩; have BL4 := Lib.hid (below_undrew (hr4.below HG3.out hsz3)); have KT4 := Lib.hid (below_blk BL4.out KT3.out k0l); have KR4 := Lib.hid (below_blk BL4.out KR3.out k1l); have S4 := tri KT4.out; have F4 := Lib.hid hf4; have R4 := Lib.hid hr4; have RO := Lib.hid (reo_at hf4 hr4 HG3.out hsz3 L3.out R2.out hOl n1 n25 HOB.out HN.out HV.out cO); clear hf4 hr4)
      | (go_at_call 25; (with_reducible refine (RO.out).mono ?_); rintro e w5 ⟨AN', cN', G5, rfl, hn5, hr5⟩; have N5 := Lib.hid hn5; have R5 := Lib.hid hr5; have NG := Lib.hid (not_at R4.out HG3.out hsz3 O2.out); have KT5 := Lib.hid (hr5.blk KT4.out (NG.out _ k0m k0l)); have KR5 := Lib.hid (hr5.blk KR4.out (NG.out _ k1m k1l)); have S5 := tri KT5.out; have LI := Lib.hid (fun w' => limited_ok (sn : Int) AI AN' T.n cI S'.out.length cN' w' hle); clear hn5 hr5)
      | (go_at_call 24; (with_reducible refine (LI.out _).mono ?_); rintro e w6 ⟨rfl, hb6⟩; have B6 := Lib.hid hb6; have KT6 := KT5.out.below hb6 KT5.out.lt; have S6 := tri KT6; have KR6 := Lib.hid (KR5.out.below hb6 KR5.out.lt); obtain ⟨z0, z1, z2, z3, z4, z5, z6⟩ := KR6.out.three6; have S8 := tri (((KT6.far (p := ⟨w.heap.size + 1, 0, none⟩) (by show w.heap.size ≠ w.heap.size + 1; omega) (.int .i64 (sn : Int))).far (p := ⟨w.heap.size + 1, 1, none⟩) (by show w.heap.size ≠ w.heap.size + 1; omega) (.slice AI T.n cI)).far (p := ⟨w.heap.size + 1, 2, none⟩) (by show w.heap.size ≠ w.heap.size + 1; omega) (.slice AN' S'.out.length cN')); clear hb6 KT6))
    go_wp2
    have FZ := set3_fr w6 (w.heap.size + 1) (.int .i64 (sn : Int)) (.slice AI T.n cI) (.slice AN' S'.out.length cN')
    have KZ := ((KR6.out.set_ 0 (.int .i64 (sn : Int))).set_ 1 (.slice AI T.n cI)).set_ 2 (.slice AN' S'.out.length cN')
    have KZ : Blk (((w6.setCell ⟨w.heap.size + 1, 0, none⟩ (.int .i64 (sn : Int))).setCell ⟨w.heap.size + 1, 1, none⟩ (.slice AI T.n cI)).setCell ⟨w.heap.size + 1, 2, none⟩ (.slice AN' S'.out.length cN')) (w.heap.size + 1) 25 #[.int .i64 (sn : Int), .slice AI T.n cI, .slice AN' S'.out.length cN'] := by simpa using KZ
    obtain ⟨y0, y1, y2, y3⟩ := KZ.three
    have s4 : w3.heap.size ≤ w4.heap.size := BL4.out.size
    have hnt := not_at (w1 := w1) R4.out HG3.out hsz3 O2.out
    have hge : ∀ k, (fun k => G4 k ∨ ∃ ad, AO = some ad ∧ k = ad.block) k → w.heap.size ≤ k := fun k hk => by
      rcases Nat.lt_or_ge k w1.heap.size with q | q
      · exact absurd hk (hnt k q (by omega))
      · omega
    have q2 : QReads w2 w2.heap.size AI T.n (lf IM) := by rw [← hIl]; exact Q2.out
    have q4 : QReads w4 w4.heap.size AI T.n (lf IM) := (((q2.below (L3.out.mono (Nat.le_refl _))).below BL4.out).more (by omega))
    have q5 := R5.out.qreads q4 (fun h0 ad e hk => by
      obtain ⟨g, o, e', hg, _⟩ := q2 h0
      rw [e] at e'
      injection e' with e'
      have hgb : ad.block < w2.heap.size := by rw [e']; exact hg
      rcases hk with hk | ⟨ad', e1, e2⟩
      · rcases R4.out.new _ hk with h | h
        · have := HG3.out _ h; omega
        · have h : w3.heap.size ≤ ad.block := h
          omega
      · exact IO2.out ad ad' e e1 e2)
    have q6 := FZ.qreads (q5.later B6.out) (fun h0 ad e hk => by
      have := I2.out ad e
      omega)
    have nl6 := ((N5.out.keep (Fr.of_below (G := fun _ => False) B6.out) (fun _ h => h.elim)).keep FZ (fun k hk => by omega))
    have n6 := nl6.nr
    have hbz := (((B3.out.trans (BL4.out.mono (by omega))).trans (R5.out.below hge (by omega))).trans (B6.out.mono (Nat.le_trans (by omega) R5.out.size))).trans (FZ.below (B := w.heap.size) (fun k hk => by omega) (Nat.le_trans (Nat.le_trans (by omega) R5.out.size) B6.out.size))
    exact bodyPost_ret (v := .tuple #[.agg #[.int .i64 (sn : Int), .slice AI T.n cI, .slice AN' S'.out.length cN'], .int .i64 0]) (by simp [results, Tryd.results7, go_sem, y0, y1, y2]) rfl (by
      unfold TurnOut
      rw [if_pos hle]
      exact ⟨AI, cI, AN', cN', rfl, ⟨⟨q6, n6⟩, fun H H' w'' hF hd => ⟨hF.qreads q6 (fun h0 ad e hk => by have := I2.out ad e; have := hd _ hk; omega), (nl6.keep hF (fun k hk => by have := hd k hk; omega)).nr⟩⟩, hbz⟩)
  · go_region_held_law (fun w' => w'.cell? ⟨w.heap.size, 0, none⟩ = some (.int .i64 (sn : Int)) ∧ w'.cell? ⟨w.heap.size, 1, none⟩ = some (.slice AH T.n cH) ∧ w'.cell? ⟨w.heap.size, 2, none⟩ = some (.slice AN T.m cN)) (first | assumption | go_keep)
      (first
      | (go_at_call 26; (with_reducible refine (PL.out).mono ?_); rintro e w4 ⟨G4, rfl, hf4, hr4⟩; have BL4 := Lib.hid (below_undrew (hr4.below HG3.out hsz3)); have KT4 := Lib.hid (below_blk BL4.out KT3.out k0l); have KR4 := Lib.hid (below_blk BL4.out KR3.out k1l); have S4 := tri KT4.out; have F4 := Lib.hid hf4; have R4 := Lib.hid hr4; have RO := Lib.hid (reo_at hf4 hr4 HG3.out hsz3 L3.out R2.out hOl n1 n25 HOB.out HN.out HV.out cO); clear hf4 hr4)
      | (go_at_call 25; (with_reducible refine (RO.out).mono ?_); rintro e w5 ⟨AN', cN', G5, rfl, hn5, hr5⟩; have N5 := Lib.hid hn5; have R5 := Lib.hid hr5; have NG := Lib.hid (not_at R4.out HG3.out hsz3 O2.out); have KT5 := Lib.hid (hr5.blk KT4.out (NG.out _ k0m k0l)); have KR5 := Lib.hid (hr5.blk KR4.out (NG.out _ k1m k1l)); have S5 := tri KT5.out; have LI := Lib.hid (fun w' => limited_no (sn : Int) AI AN' T.n cI S'.out.length cN' w' (by omega) hlen); clear hn5 hr5)
      | (go_at_call 24; (with_reducible refine (LI.out _).mono ?_); rintro e w6 ⟨rfl, hb6⟩; have B6 := Lib.hid hb6; have KT6 := KT5.out.below hb6 KT5.out.lt; have S6 := tri KT6; have KR6 := Lib.hid (KR5.out.below hb6 KR5.out.lt); obtain ⟨z0, z1, z2, z3, z4, z5, z6⟩ := KR6.out.three6; have S8 := tri (((KT6.far (p := ⟨w.heap.size + 1, 0, none⟩) (by show w.heap.size ≠ w.heap.size + 1; omega) (.int .i64 0)).far (p := ⟨w.heap.size + 1, 1, none⟩) (by show w.heap.size ≠ w.heap.size + 1; omega) (.slice none 0 0)).far (p := ⟨w.heap.size + 1, 2, none⟩) (by show w.heap.size ≠ w.heap.size + 1; omega) (.slice none 0 0)); clear hb6 KT6))
    go_wp2
    have FZ := set3_fr w6 (w.heap.size + 1) (.int .i64 0) (.slice none 0 0) (.slice none 0 0)
    have KZ := ((KR6.out.set_ 0 (.int .i64 0)).set_ 1 (.slice none 0 0)).set_ 2 (.slice none 0 0)
    have KZ : Blk (((w6.setCell ⟨w.heap.size + 1, 0, none⟩ (.int .i64 0)).setCell ⟨w.heap.size + 1, 1, none⟩ (.slice none 0 0)).setCell ⟨w.heap.size + 1, 2, none⟩ (.slice none 0 0)) (w.heap.size + 1) 25 #[.int .i64 0, .slice none 0 0, .slice none 0 0] := by simpa using KZ
    obtain ⟨y0, y1, y2, y3⟩ := KZ.three
    have s4 : w3.heap.size ≤ w4.heap.size := BL4.out.size
    have hnt := not_at (w1 := w1) R4.out HG3.out hsz3 O2.out
    have hge : ∀ k, (fun k => G4 k ∨ ∃ ad, AO = some ad ∧ k = ad.block) k → w.heap.size ≤ k := fun k hk => by
      rcases Nat.lt_or_ge k w1.heap.size with q | q
      · exact absurd hk (hnt k q (by omega))
      · omega
    have hbz := (((B3.out.trans (BL4.out.mono (by omega))).trans (R5.out.below hge (by omega))).trans (B6.out.mono (Nat.le_trans (by omega) R5.out.size))).trans (FZ.below (B := w.heap.size) (fun k hk => by omega) (Nat.le_trans (Nat.le_trans (by omega) R5.out.size) B6.out.size))
    exact bodyPost_ret (v := .tuple #[.agg #[.int .i64 0, .slice none 0 0, .slice none 0 0], .int .i64 6]) (by simp [results, Tryd.results7, go_sem, y0, y1, y2]) rfl (by
      unfold TurnOut
      rw [if_neg hle]
      exact ⟨rfl, hbz⟩)
end Go.Proofs.YthgnjjpkmikokaaDoor
namespace Go.Proofs.YthgnjjpkmikokaaDoor
open Go.RowKit

theorem below_drew2 {w w' : World} (h : Below w.drew.heap.size w.drew w') : Below w.heap.size w w' := ⟨h.os, h.tape, h.output, h.size, h.block⟩
/-- the last stores of Reduce -/
theorem red_fin {w wz : World} {sn n base cI cN : Nat} {f : Nat → P2} {AI AN : Option Addr} {out : List (Int × List Int)} {a b c : Value} (_ : Blk wz (w.heap.size + 1) 25 #[a, b, c]) (q : QReads wz wz.heap.size AI n f) (hq : ∀ ad, AI = some ad → w.heap.size + 1 < ad.block) (hn : NL wz base AN cN out) (hb : w.heap.size + 1 < base) (B : Below w.heap.size w wz) :
    TS (((wz.setCell ⟨w.heap.size + 1, 0, none⟩ (.int .i64 (sn : Int))).setCell ⟨w.heap.size + 1, 1, none⟩ (.slice AI n cI)).setCell ⟨w.heap.size + 1, 2, none⟩ (.slice AN out.length cN)) AI AN (trO sn n f out) ∧
    Below w.heap.size w (((wz.setCell ⟨w.heap.size + 1, 0, none⟩ (.int .i64 (sn : Int))).setCell ⟨w.heap.size + 1, 1, none⟩ (.slice AI n cI)).setCell ⟨w.heap.size + 1, 2, none⟩ (.slice AN out.length cN)) := by
  have FZ := set3_fr wz (w.heap.size + 1) (.int .i64 (sn : Int)) (.slice AI n cI) (.slice AN out.length cN)
  exact ⟨⟨FZ.qreads q (fun _ ad e hk => by have := hq ad e; omega), (hn.keep FZ (fun k hk => by omega)).nr⟩, B.trans (FZ.below (fun k hk => by omega) B.size)⟩
/-- an own row as a list of positions, kept -/
theorem own_q {w0 w w' : World} {base n c : Nat} {A : Option Addr} {f : Nat → P2} {G G' : Nat → Prop} (h : w.ownsRow base 40 2 (.slice A n c) n (cells2 f n)) (hf : Fr G w G' w') (hG : ∀ k, G k → k < base ∨ w.heap.size ≤ k) (hb : w0.heap.size + 1 < base) : QReads w' w'.heap.size A n f ∧ ∀ ad, A = some ad → w0.heap.size + 1 < ad.block := by
  refine ⟨hf.qreads (QReads.of_own h) (fun hn ad e hg => ?_), fun ad e => ?_⟩
  · subst e
    have := h.lt ad.block rfl
    rcases hG _ hg with h' | h' <;> omega
  · subst e
    have := (h.lt ad.block rfl).1
    omega
set_option maxRecDepth 100000 in
set_option maxHeartbeats 16000000 in
theorem reduce_any {T : Tr} {sn : Nat} {AH AN : Option Addr} {cH cN : Nat} {w : World} {nums : List Int} {L : List Ndv} {r : Int} {S' : Wk Unit} (hst : T.st = (sn : Int)) (h : TS w AH AN T) (hT : Rt T) (hp : plantF (sn : Int) T.lv T.nx T.m [] = some (nums, L)) (hn : I32 (ig nums (T.m - 1)))
    (hv : visitF sn (elN (sn : Int) L) T.n (ig nums (T.m - 1)) ⟨(), [], []⟩ = some (r, S')) :
    Calls Tryd.prog 11 #[.agg #[.int .i64 (sn : Int), .slice AH T.n cH, .slice AN T.m cN]] w fun e w' => ∃ AI cI AN' cN', e = .returned (.agg #[.int .i64 (sn : Int), .slice AI T.n cI, .slice AN' S'.out.length cN']) ∧ TS w' AI AN' (trO sn T.n T.f S'.out) ∧ Below w.heap.size w w' := by
  have s1 := hT.s1
  have s2 := hT.s2
  have n25 := hT.hd.1.2
  have HTS := Lib.hid h
  have RI := Lib.hid (fun w' (hb : Below w.heap.size w w') => tright_yes AH cH AN cN T w' (h.later hb) hT)
  rw [hst] at RI s1 s2
  have NF := Lib.hid (fun w' => newForest_any (sn := sn) (w := w') (by omega) (by omega))
  have CL := Lib.hid (fun w' (hb : Below w.heap.size w w') => clone_any AH T.n cH T.f w' (h.1.later hb) (by omega))
  have HN := Lib.hid hn
  have HTT := Lib.hid hT
  have HST := Lib.hid hst
  have HP := Lib.hid hp
  have HV := Lib.hid hv
  clear h hp hn hv hT hst
  go_enter Tryd.func11, Tryd.ntmps11
  have Z1 := Lib.hid ((Below.refl w.heap.size w).alloc (Nat.le_refl _) (.cells #[.int .i64 (sn : Int), .slice AH T.n cH, .slice AN T.m cN] 25))
  have Z2 := Lib.hid (Z1.out.alloc Z1.out.size (.cells #[.int .i64 0, .slice none 0 0, .slice none 0 0] 25))
  have KT := Lib.hid ((Blk.new w 25 #[.int .i64 (sn : Int), .slice AH T.n cH, .slice AN T.m cN]).alloc (.cells #[.int .i64 0, .slice none 0 0, .slice none 0 0] 25))
  have KR := Blk.new (w.alloc (.cells #[.int .i64 (sn : Int), .slice AH T.n cH, .slice AN T.m cN] 25)) 25 #[.int .i64 0, .slice none 0 0, .slice none 0 0]
  simp only [World.size_alloc] at KR
  have KR := Lib.hid KR
  obtain ⟨t0, t1, t2, t3⟩ := KT.out.three
  go_wp2_with (first
    | (go_at_call 21; (with_reducible refine (RI.out _ Z2.out).mono ?_); rintro e w1 ⟨rfl, hb⟩; have B1 := Lib.hid (Z2.out.trans (hb.mono Z2.out.size)); have KT1 := Lib.hid (KT.out.below hb KT.out.lt); have KR1 := Lib.hid (KR.out.below hb KR.out.lt); clear hb; obtain ⟨u0, u1, u2, u3⟩ := KT1.out.three)
    | (go_at_call 23; (with_reducible refine (NF.out _).mono ?_); rintro e w3 ⟨fb, G, rfl, hf, hg, hb⟩; have F3 := Lib.hid hf; have G3 := Lib.hid hg; have L3 := Lib.hid hb; have BTw3 := Lib.hid ((B1.out.trans (hb.mono B1.out.size)).drew); have KTw3 := Lib.hid (KT1.out.below hb KT1.out.lt).drew; have KRw3 := Lib.hid (KR1.out.below hb KR1.out.lt).drew; clear hb hf hg))
  have hr1 := KR1.out.lt
  have S0 := tri KTw3.out
  have SZw3 : w.heap.size + 1 + 1 ≤ w3.drew.heap.size := KRw3.out.lt
  have hGb : ∀ k, G k → w.heap.size + 1 + 1 ≤ k := fun k hk => by have := G3.out k hk; omega
  have HGB := Lib.hid hGb
  have GL := Lib.hid F3.out.st2.2.2.2.2.2.2.1
  have PL := Lib.hid (fun w' (hb : Below w.heap.size w w') (hz : w.heap.size + 1 + 1 ≤ w'.heap.size) (hf : Fo w' fb G (sn : Int) []) => by
    have := plant_any (w := w') (AH := AH) (nh := T.n) (ch := cH) (cN := cN) (B := w.heap.size) (HST.out ▸ hf) HTT.out (HTS.out.2.below hb) (by omega) (fun k hk => by have := HGB.out k hk; omega) (HST.out.symm ▸ HP.out)
    rw [HST.out] at this
    exact this.mono (R' := fun e w'' => ∃ G', e = .returned (.int .i32 (ig nums (T.m - 1))) ∧ Fo w'' fb G' (sn : Int) L ∧ Fr G w' G' w'' ∧ Below (w.heap.size + 1 + 1) w' w'' ∧ ∀ k, G' k → w.heap.size + 1 + 1 ≤ k) fun e w'' ⟨G', h1, h2, h3⟩ => ⟨G', h1, h2, h3, h3.below HGB.out hz, fun k hk => by
      rcases h3.new k hk with q | q
      · exact HGB.out k q
      · omega⟩)
  have NO := Lib.hid (fun w' G4 (hf : Fo w' fb G4 (sn : Int) L) (hg : ∀ k, G4 k → w.heap.size + 1 + 1 ≤ k) (hz : w.heap.size + 1 + 1 ≤ w'.heap.size) => (nodesOf_any (lm := 25) hf n25 (by omega) HN.out HV.out).mono (R' := fun e w'' => ∃ A c G', e = .returned (.slice A S'.out.length c) ∧ NL w'' w'.heap.size A c S'.out ∧ Fr G4 w' G' w'' ∧ Below (w.heap.size + 1 + 1) w' w'') fun e w'' ⟨A, c, G', h1, h2, h3⟩ => ⟨A, c, G', h1, h2, h3, h3.below hg hz⟩)
  have hk0 : w.heap.size < w.heap.size + 1 + 1 := by omega
  have hk1 : w.heap.size + 1 < w.heap.size + 1 + 1 := by omega
  have hk2 : w.heap.size ≤ w.heap.size + 1 + 1 := by omega
  have hkne : w.heap.size ≠ w.heap.size + 1 := by omega
  have S3 : w3.drew.cell? ⟨w.heap.size, 0, none⟩ = some (.int .i64 (sn : Int)) ∧ w3.drew.cell? ⟨w.heap.size, 1, none⟩ = some (.slice AH T.n cH) ∧ w3.drew.cell? ⟨w.heap.size, 2, none⟩ = some (.slice AN T.m cN) := S0
  clear t0 t1 t2 t3 u0 u1 u2 u3 S0 hGb
  go_region_held_law (fun w' => w'.cell? ⟨w.heap.size, 0, none⟩ = some (.int .i64 (sn : Int)) ∧ w'.cell? ⟨w.heap.size, 1, none⟩ = some (.slice AH T.n cH) ∧ w'.cell? ⟨w.heap.size, 2, none⟩ = some (.slice AN T.m cN)) (first | assumption | go_keep)
    (first
    | (go_at_call 31; (with_reducible refine (CL.out w3.drew BTw3.out).mono ?_); rintro e wa ⟨AI, cI, rfl, ho, hb⟩; have OCwa := Lib.hid ho; have BCwa := Lib.hid hb; have KTwa := Lib.hid (below_blk (hb.mono SZw3) KTw3.out hk0); have KRwa := Lib.hid (below_blk (hb.mono SZw3) KRw3.out hk1); have BTwa := Lib.hid (BTw3.out.trans ((hb.mono SZw3).mono hk2)); have SZwa := Nat.le_trans SZw3 ((hb.mono SZw3)).size; have Swa := tri KTwa.out; clear hb ho)
    | (go_at_call 26; (with_reducible refine (PL.out wa BTwa.out SZwa (F3.out.below (below_drew2 BCwa.out))).mono ?_); rintro e wb ⟨G4, rfl, hf4, hr4, hb4, hg4⟩; have Fwb := Lib.hid hf4; have Rwb := Lib.hid hr4; have GGwb := Lib.hid hg4; have KTwb := Lib.hid (below_blk hb4 KTwa.out hk0); have KRwb := Lib.hid (below_blk hb4 KRwa.out hk1); have BTwb := Lib.hid (BTwa.out.trans (hb4.mono hk2)); have SZwb := Nat.le_trans SZwa (hb4).size; have Swb := tri KTwb.out; clear hf4 hr4 hb4 hg4)
    | (go_at_call 32; (with_reducible refine (NO.out wb _ (Fwb.out) (GGwb.out) SZwb).mono ?_); rintro e wc ⟨AN', cN', G5, rfl, hn5, hr5, hb5⟩; have Nwc := Lib.hid hn5; have Rwc := Lib.hid hr5; have KTwc := Lib.hid (below_blk hb5 KTwb.out hk0); have KRwc := Lib.hid (below_blk hb5 KRwb.out hk1); have BTwc := Lib.hid (BTwb.out.trans (hb5.mono hk2)); have SZwc := Nat.le_trans SZwb (hb5).size; have Swc := tri KTwc.out; have S8 := tri (((KTwc.out.far (p := ⟨w.heap.size + 1, 0, none⟩) hkne (.int .i64 (sn : Int))).far (p := ⟨w.heap.size + 1, 1, none⟩) hkne (.slice AI T.n cI)).far (p := ⟨w.heap.size + 1, 2, none⟩) hkne (.slice AN' S'.out.length cN')); obtain ⟨z0, z1, z2, z3, z4, z5, z6⟩ := KRwc.out.three6; clear hn5 hr5 hb5))
  all_goals
    go_wp2
    have q9 := own_q (w0 := w) OCwa.out (Rwb.out.trans Rwc.out) (fun k hk => .inl (GL.out k hk)) (by omega)
    have n9 := Nwc.out
    obtain ⟨hts, hbz⟩ := red_fin (sn := sn) (f := T.f) (n := T.n) (cI := cI) (KRwc.out) q9.1 q9.2 n9 (by omega) BTwc.out
    have KZ := ((KRwc.out.set_ 0 (.int .i64 (sn : Int))).set_ 1 (.slice AI T.n cI)).set_ 2 (.slice AN' S'.out.length cN')
    have KZ : Blk (((wc.setCell ⟨w.heap.size + 1, 0, none⟩ (.int .i64 (sn : Int))).setCell ⟨w.heap.size + 1, 1, none⟩ (.slice AI T.n cI)).setCell ⟨w.heap.size + 1, 2, none⟩ (.slice AN' S'.out.length cN')) (w.heap.size + 1) 25 #[.int .i64 (sn : Int), .slice AI T.n cI, .slice AN' S'.out.length cN'] := by simpa using KZ
    obtain ⟨y0, y1, y2, y3⟩ := KZ.three
    exact bodyPost_ret (v := .agg #[.int .i64 (sn : Int), .slice AI T.n cI, .slice AN' S'.out.length cN']) (by simp [results, Tryd.results11, go_sem, y0, y1, y2]) rfl ⟨AI, cI, AN', cN', rfl, hts, hbz⟩
end Go.Proofs.YthgnjjpkmikokaaDoor
