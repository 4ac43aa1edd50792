/- The walk of turned. -/
import Derived.Test.YtjekpmkghpjamaaGreatDoorMaa
import Derived.Test.YtjekpmkghpjamaaGreatDoorMak
import Derived.Test.YtjekpmkghpjamaaGreatDoorMab
import Derived.Test.YtjekpmkghpjamaaGreatDoorMag
import Derived.Test.YtjekpmkghpjamaaGreatDoorMaj
import Derived.Test.YtjekpmkghpjamaaGreatDoorMae
import Derived.Test.YtjekpmkghpjamaaGreatDoorMaq
import Derived.Test.YtjekpmkghpjamaaGreatDoorMad
import Derived.Test.YtjekpmkghpjamaaGreatDoorMap
import Derived.Test.YtjekpmkghpjamaaGreatDoorMan
import Derived.Test.YtjekpmkghpjamaaGreatDoorMac
import Derived.Test.YtjekpmkghpjamaaGreatDoorMah
import Derived.Below
import Derived.BigQuiet
import Derived.Carry
import Derived.Deep.AppendLies
import Derived.Deep.CutRange
import Derived.Deep.Draws
import Derived.Deep.QuietTactic
import Derived.Deep.RegionHeldLaw
import Derived.Deep.RegionLaw
import Derived.DeepKeys4
import Derived.IntWalk
import Derived.Laws.BitsLemmas
import Derived.Laws.MakeOwn
import Derived.Laws.OwnMore
import Derived.Laws.Rows
import Derived.Lib.Hide
import Derived.LoopN
import Derived.Maps.OwnOps
import Derived.OwnWalk
import Derived.Shelf.Abstract
import Derived.Sort.Statements
import Derived.StillTail
import Derived.StillTailTactics
import Derived.Test.YtjekpmkghpjamaaGreatDoorRows
import Derived.WalkKit
namespace Go.Proofs.YtjekpmkghpjamaaGreatDoor
open Go.RowKit
/-- the offsets and their origins, among the first j of the square -/
def im (f : Nat → P2) (n m j : Nat) : List P2 := ((MR (rd f n)).take j).filter fun p => decide (0 ≤ px f n (tn (iv m) p))
def og (f : Nat → P2) (n m j : Nat) : List Int := (im f n m j).map fun p => px f n (tn (iv m) p)
theorem im_step {f : Nat → P2} {n m j : Nat} (h : j < (MR (rd f n)).length) : im f n m (j + 1) = if 0 ≤ px f n (tn (iv m) (lf (MR (rd f n)) j)) then im f n m j ++ [lf (MR (rd f n)) j] else im f n m j := by
  unfold im
  rw [List.take_succ_eq_append_getElem h, List.filter_append, lf_get h]
  split
  · next q => simp [q]
  · next q => simp [q]
theorem og_len (f : Nat → P2) (n m j : Nat) : (og f n m j).length = (im f n m j).length := by simp [og]
theorem im_le (f : Nat → P2) (n m j : Nat) : (im f n m j).length ≤ 25 := by
  have h1 := List.length_filter_le (fun p => decide (0 ≤ px f n (tn (iv m) p))) ((MR (rd f n)).take j)
  have h2 : ((MR (rd f n)).take j).length ≤ (MR (rd f n)).length := by rw [List.length_take]; omega
  have h3 := MR_len (r := rd f n)
  unfold im
  omega
theorem im_all (f : Nat → P2) (n m : Nat) : im f n m (MR (rd f n)).length = imgs f n m ∧ og f n m (MR (rd f n)).length = orgs f n m := by
  unfold og orgs im imgs
  rw [List.take_length]
  exact ⟨rfl, rfl⟩
theorem own_far' {w w' : World} {base k : Nat} {e : TypeId} {v v' : Value} {n : Nat} {xs : List Value} {o : Obj} (h : w.ownsRow base e k v n xs) (hne : ∀ g, v.ownBlock = some g → v'.ownBlock ≠ some g) (hg : (w.alloc o).grownBy w' v'.ownBlock) : w'.ownsRow base e k v n xs := by
  refine ⟨h.1, ?_⟩
  rcases h.2 with hn | ⟨g, cap, cur, rfl, hb', hgg, rest⟩
  · exact .inl hn
  · have hlt := (Array.getElem?_eq_some_iff.1 hgg).1
    refine .inr ⟨g, cap, cur, rfl, hb', ?_, rest⟩
    rw [hg.block g (by simp; omega) (fun e => hne g rfl e.symm), Below.heap_alloc _ _ _ hlt]
    exact hgg
set_option maxRecDepth 100000 in
set_option maxHeartbeats 8000000 in
theorem turned_any (k : Int) (A : Option Addr) (n c : Nat) (f : Nat → P2) (w : World) (hM : Mat w) (h : QReads w w.heap.size A n f) (hd : Hd f n) :
    Calls Tryz.prog 53 #[.int .i64 k, .slice A n c] w fun e w' => ∃ AI cI AO cO, e = .returned (.tuple #[.slice AI (imgs f n (md k)).length cI, .slice AO (orgs f n (md k)).length cO]) ∧ QReads w' w'.heap.size AI (imgs f n (md k)).length (lf (imgs f n (md k))) ∧ Reads w' w'.heap.size AO (orgs f n (md k)).length (il (orgs f n (md k))) ∧ (∀ ad, AO = some ad → w.heap.size ≤ ad.block) ∧ (∀ ad, AI = some ad → w.heap.size ≤ ad.block) ∧ (∀ ad ad', AI = some ad → AO = some ad' → ad.block ≠ ad'.block) ∧ Below w.heap.size w w' := by
  obtain ⟨i0, hi, hz0, hz1, hz2⟩ := info_parts Tryz.info_point
  obtain ⟨j0, ji, jz0, jz1, jz2⟩ := info_parts Tryz.info_int
  have hr := rd_bd f n hd.2.1
  have hm := md_lt k
  have hn25 := hd.1.2
  have hw0 := hM.1
  have RA := Lib.hid (radius_any A n c f w h hd)
  have MO := Lib.hid (fun w => mooreR hr.1 hr.2 w)
  have HM := Lib.hid hM
  have HQ := Lib.hid h
  have HI := Lib.hid (fun w => inverse_any k w)
  have HL := MR_len (r := rd f n)
  have HB2 := Lib.hid (fun j (hj : j < (MR (rd f n)).length) => (mem_MR hr.1 hr.2).1 (lf_mem (l := MR (rd f n)) hj))
  have HIA := Lib.hid (im_all f n (md k))
  obtain ⟨IM, hIM⟩ : ∃ IM, IM = imgs f n (md k) := ⟨_, rfl⟩
  obtain ⟨OG, hOG⟩ : ∃ OG, OG = orgs f n (md k) := ⟨_, rfl⟩
  rw [← hIM, ← hOG] at HIA ⊢
  clear hIM hOG hM h
  generalize md k = m at hm HI HIA
  have hivm := iv_lt m hm
  go_enter Tryz.func53, Tryz.ntmps53
  go_wp2_with (first
    | (go_at_call 99; (with_reducible refine (RA.out).mono ?_); rintro e w1 ⟨rfl, hb⟩; have B1 := Lib.hid hb; clear hb)
    | (go_at_call 71; (with_reducible refine (MO.out _).mono ?_); rintro e w2 ⟨AM, cM, rfl, hq, hb⟩; have Q2 := Lib.hid hq; have B2 := Lib.hid (B1.out.trans (hb.mono B1.out.size)); clear hb hq))
  clear RA MO
  have s2 := B2.out.size
  generalize hML : MR (rd f n) = ML at Q2 HL HB2
  go_loopw [6, 7, 15] (fun iv6 iv7 jv wr => ∃ (j : Nat) (AI AO : Option Addr) (cI cO : Nat), j ≤ ML.length ∧ jv = .int .i64 (j : Int) ∧ iv6 = .slice AI (im f n m j).length cI ∧ iv7 = .slice AO (im f n m j).length cO ∧ wr.ownsRow w2.heap.size 140 2 (.slice AI (im f n m j).length cI) (im f n m j).length (cl (im f n m j)) ∧ wr.ownsRow w2.heap.size 3 1 (.slice AO (im f n m j).length cO) (im f n m j).length (il (og f n m j)) ∧
    (∀ g, (Value.slice AI (im f n m j).length cI).ownBlock = some g → (Value.slice AO (im f n m j).length cO).ownBlock ≠ some g) ∧ Below w2.heap.size w2 wr) (fun _ _ jv _ => ML.length - (intOf jv).toNat)
  case atStart =>
    refine ⟨0, none, none, 0, 0, Nat.zero_le _, rfl, ?_, ?_, ?_, ?_, ?_, Below.refl _ _⟩
    · simp [im]
    · simp [im]
    · simp only [im, List.take_zero, List.filter_nil]; exact World.ownsRow_nil _ _ _ _
    · simp only [og, im, List.take_zero, List.filter_nil]; exact World.ownsRow_nil _ _ _ _
    · simp [Value.ownBlock]
  case round =>
    obtain ⟨j, AI, AO, cI, cO, hj, rfl, rfl, rfl, ho1, ho2, hne, hbel⟩ := hrel
    have HO1 := Lib.hid ho1
    have HO2 := Lib.hid ho2
    have HNE := Lib.hid hne
    have HE := Lib.hid hbel
    have hL25 := im_le f n m j
    clear ho1 ho2 hne hbel
    by_cases hjn : j < ML.length
    · obtain ⟨g, o, rfl, hg, hc⟩ := (Q2.out.below HE.out) (by omega)
      obtain ⟨c0, c1⟩ := hc j hjn
      have hgw : g < wr.heap.size := Nat.lt_of_lt_of_le hg HE.out.size
      obtain ⟨⟨b1, b2⟩, b3, b4⟩ := HB2.out j hjn
      have hst := im_step (f := f) (n := n) (m := m) (j := j) (by rw [hML]; exact hjn)
      rw [hML] at hst
      generalize hp : lf ML j = p at c0 c1 b1 b2 b3 b4 hst
      obtain ⟨x, y⟩ := p
      simp only at c0 c1 b1 b2 b3 b4
      have K7 := Lib.hid (Blk.new wr 140 #[.int .i64 x, .int .i64 y])
      have B7 := Lib.hid ((Below.refl wr.heap.size wr).alloc (Nat.le_refl _) (.cells #[.int .i64 x, .int .i64 y] 140))
      have BW := Lib.hid ((B2.out.trans (HE.out.mono B2.out.size)).alloc (by have := B2.out.size; have := HE.out.size; omega) (.cells #[.int .i64 x, .int .i64 y] 140))
      have S7 : wr.heap.size < (wr.alloc (.cells #[.int .i64 x, .int .i64 y] 140)).heap.size := by simp
      obtain ⟨i, hii⟩ : ∃ i, i = px f n (tn (iv m) (x, y)) := ⟨_, rfl⟩
      rw [← hii] at hst
      have hog : og f n m (j + 1) = if 0 ≤ i then og f n m j ++ [i] else og f n m j := by
        unfold og
        rw [hst]
        split
        · rw [List.map_append, List.map_singleton, ← hii]
        · rfl
      have HST := Lib.hid hst
      have HOG := Lib.hid hog
      have HII := Lib.hid hii
      have IN := Lib.hid (fun w => (HI.out w))
      have AP := Lib.hid (fun w (hM : Mat w) => by
        have := apply_any ((iv m : Nat) : Int) x y w hM (by omega) (by omega) (by omega) (by omega)
        rwa [md_nat _ hivm] at this)
      have PI := Lib.hid (fun w (hq : QReads w w.heap.size A n f) => pindex_any A n c f (turnX (iv m) x y) (turnY (iv m) x y) w hq (by omega))
      have e2 : px f n (turnX (iv m) x y, turnY (iv m) x y) = i := hii.symm
      rw [e2] at PI
      clear hst hog hii e2 hp hc
      go_wp2
      generalize wr.alloc (.cells #[.int .i64 x, .int .i64 y] 140) = w3 at K7 B7 BW S7 ⊢
      have q0 := fun p : LowW w3.heap.size w3 => (K7.out.below p.below K7.out.lt).two.1
      have q1 := fun p : LowW w3.heap.size w3 => (K7.out.below p.below K7.out.lt).two.2.1
      have hq3 := Lib.hid (HQ.out.later BW.out)
      have hm3 := Lib.hid (HM.out.below BW.out hw0)
      have hw3 := hm3.out.1
      have AP3 := Lib.hid (fun p : LowW w3.heap.size w3 => AP.out p.w (hm3.out.below p.below hw3))
      have PI3 := Lib.hid (fun p : LowW w3.heap.size w3 => PI.out p.w (hq3.out.later p.below))
      have IN3 := Lib.hid (fun p : LowW w3.heap.size w3 => (IN.out p.w).mono (R' := fun e w' => e = .returned (.int .i64 ((iv m : Nat) : Int)) ∧ Below p.w.heap.size p.w w') fun e w' h => ⟨h.1, h.2 ▸ Below.refl _ _⟩)
      clear c0 c1
      refine wp_region_low w3.heap.size w3 (by kernel_rfl) (by kernel_rfl) (Below.refl _ _) ?_
      repeat (quiet_step (first | (go_at_call 102; exact LowW.of_call _ (Nat.le_refl _) (IN3.out _)) | (go_at_call 101; exact LowW.of_call _ (Nat.le_refl _) (AP3.out _)) | (go_at_call 100; exact LowW.of_call _ (Nat.le_refl _) (PI3.out _))))
      refine wpQuiet_nil ?_
      rintro w4 ⟨p, rfl⟩
      have K4 := Lib.hid (K7.out.below p.below K7.out.lt)
      have B4 := Lib.hid (B7.out.trans (p.below.mono B7.out.size))
      have S4 : wr.heap.size < p.w.heap.size := Nat.lt_of_lt_of_le S7 p.below.size
      have O1 := Lib.hid (own_below2 HO1.out B4.out)
      have O2 := Lib.hid (own_below HO2.out B4.out)
      clear q0 q1 AP3 PI3 IN3 IN AP PI
      generalize p.w = w4 at K4 B4 S4 O1 O2 ⊢
      by_cases hi0 : 0 ≤ i
      · have d2 : decide (0 ≤ i) = true := by rw [decide_eq_true_iff]; exact hi0
        have hst := HST.out
        have hog := HOG.out
        rw [if_pos hi0] at hst hog
        obtain ⟨k0, k1, k2, k3, k4⟩ := K4.out.two
        have HST2 := Lib.hid hst
        have HOG2 := Lib.hid hog
        clear hst hog
        have sz4 : w2.heap.size ≤ w4.heap.size := by have := HE.out.size; omega
        have hol : ∀ g, (Value.slice AO (im f n m j).length cO).ownBlock = some g → g < w4.heap.size := fun g hg => (O2.out.lt g hg).2
        have HOL := Lib.hid hol
        clear hol
        go_wp2_with (first
          | (at_builtin; refine wpList_append2L rfl _ _ 22 rfl w2.heap.size 140 i0 (.agg #[.int .i64 0, .int .i64 0]) 16 Tryz.underlying22 hi hz0 hz1 hz2 rfl AI (im f n m j).length cI _ rfl O1.out (.int .i64 x) (.int .i64 y) rfl rfl rfl (by unfold maxLen; omega) (by omega) sz4 ?_; intro g5 c5 w5 hown5 hbel5 hgr5 hat5; have R1 := Lib.hid hown5; have G5 := Lib.hid hgr5; have T5 := Lib.hid hat5; have E5 := Lib.hid hbel5; have R2 := Lib.hid (own_far' O2.out (fun g hg hg' => HNE.out g hg' hg) hgr5); have sz5 : w2.heap.size ≤ w5.heap.size := Nat.le_trans sz4 (by have := hgr5.size; simp at this; omega); clear hown5 hbel5 hgr5 hat5)
          | (at_builtin; refine wpList_append1L rfl _ _ 36 rfl w2.heap.size 3 j0 (.int .i64 0) 8 Tryz.underlying36 ji jz0 jz1 jz2 rfl AO (im f n m j).length cO _ rfl R2.out (.int .i64 i) rfl rfl (by unfold maxLen; omega) (by omega) sz5 ?_; intro g6 c6 w6 hown6 hbel6 hgr6 hat6))
        have h5l := (R1.out.lt g5 rfl).2
        have hne5 : ∀ g, (Value.slice (some ⟨g5, 0, none⟩) ((im f n m j).length + 1) c5).ownBlock = some g → (Value.slice AO (im f n m j).length cO).ownBlock ≠ some g := fun g hg hg' => by
          have hg5 : g5 = g := by simpa [Value.ownBlock] using hg
          subst hg5
          rcases T5.out with e | e
          · exact HNE.out g5 e hg'
          · have := HOL.out _ hg'; omega
        have X1 := own_far' R1.out hne5 hgr6
        refine ⟨⟨j + 1, some ⟨g5, 0, none⟩, some ⟨g6, 0, none⟩, c5, c6, by omega, by go_num, ?_, ?_, ?_, ?_, ?_, ((HE.out.trans (B4.out.mono HE.out.size)).trans E5.out).trans hbel6⟩, by simp [intOf]; omega⟩
        · rw [HST2.out]; simp
        · rw [HST2.out]; simp
        · rw [HST2.out, List.length_append, List.length_singleton, cl_add]; exact X1
        · rw [HST2.out, HOG2.out, List.length_append, List.length_singleton, il_add]; exact hown6
        · rw [HST2.out, List.length_append, List.length_singleton]
          intro g hg hg'
          have e1 : g5 = g := by simpa [Value.ownBlock] using hg
          have e2 : g6 = g := by simpa [Value.ownBlock] using hg'
          subst e1
          rcases hat6 with e | e
          · rw [e2] at e
            exact hne5 g5 (by simp [Value.ownBlock]) e
          · omega
      · have d2 : decide (0 ≤ i) = false := by rw [decide_eq_false_iff_not]; exact hi0
        have hst := HST.out
        have hog := HOG.out
        rw [if_neg hi0] at hst hog
        have HST2 := Lib.hid hst
        have HOG2 := Lib.hid hog
        clear hst hog
        go_wp2
        refine ⟨⟨j + 1, AI, AO, cI, cO, by omega, by go_num, by rw [HST2.out], by rw [HST2.out], by rw [HST2.out]; exact O1.out, by rw [HST2.out, HOG2.out]; exact O2.out, by rw [HST2.out]; exact HNE.out, HE.out.trans (B4.out.mono HE.out.size)⟩, by simp [intOf]; omega⟩
    · obtain rfl : j = ML.length := by omega
      have e1 := HIA.out.1
      have e2 := HIA.out.2
      rw [hML] at e1 e2
      go_wp2
      go_ret2
      refine ⟨AI, cI, AO, cO, ?_, ?_, ?_, ?_, ?_, ?_, (B2.out.trans (HE.out.mono B2.out.size))⟩
      · rw [← e1, ← e2, og_len]; rfl
      · rw [← e1]; exact QReads.of_list HO1.out
      · rw [← e2, og_len]; exact Reads.of_own HO2.out
      · intro ad e
        subst e
        have := (HO2.out.lt ad.block rfl).1
        omega
      · intro ad e
        subst e
        have := (HO1.out.lt ad.block rfl).1
        omega
      · intro ad ad' e e' q
        subst e e'
        exact HNE.out ad.block rfl (by rw [q]; rfl)
end Go.Proofs.YtjekpmkghpjamaaGreatDoor
