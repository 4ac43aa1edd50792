/- The walk of collect: the new states of all inputs, and the tree that they make. -/
import Derived.Test.YtcgkkppidkkjiaaGreatDoorMaa
import Derived.Test.YtcgkkppidkkjiaaGreatDoorMal
import Derived.Test.YtcgkkppidkkjiaaGreatDoorMah
import Derived.Test.YtcgkkppidkkjiaaGreatDoorMbc
import Derived.Test.YtcgkkppidkkjiaaGreatDoorMac
import Derived.Test.YtcgkkppidkkjiaaGreatDoorMaz
import Derived.Test.YtcgkkppidkkjiaaGreatDoorMad
import Derived.Test.YtcgkkppidkkjiaaGreatDoorMba
import Derived.Test.YtcgkkppidkkjiaaGreatDoorMax
import Derived.Test.YtcgkkppidkkjiaaGreatDoorMab
import Derived.Test.YtcgkkppidkkjiaaGreatDoorMaf
import Derived.Test.YtcgkkppidkkjiaaGreatDoorMan
import Derived.Test.YtcgkkppidkkjiaaGreatDoorMaj
import Derived.Test.YtcgkkppidkkjiaaGreatDoorMaw
import Derived.Test.YtcgkkppidkkjiaaGreatDoorMao
import Derived.Test.YtcgkkppidkkjiaaGreatDoorMak
import Derived.Test.YtcgkkppidkkjiaaGreatDoorMai
import Derived.Below
import Derived.BigQuiet
import Derived.Carry
import Derived.Deep.AppendLies
import Derived.Deep.CutRange
import Derived.Deep.Draws
import Derived.Deep.OwnRows
import Derived.Deep.QuietTactic
import Derived.Deep.RegionHeld3
import Derived.Deep.RegionHeldLaw
import Derived.DeepKeys
import Derived.DeepKeys4
import Derived.IntWalk
import Derived.Laws.BitsLemmas
import Derived.Laws.IdiomStrings
import Derived.Laws.OwnMore
import Derived.Laws.Rows
import Derived.Lib.Hide
import Derived.Lib.SliceRun
import Derived.LoopIn
import Derived.LoopN
import Derived.LoopNIn
import Derived.Maps.AppendAt
import Derived.Maps.OwnOps
import Derived.OpenShut
import Derived.OwnWalk
import Derived.OwnWalkIn
import Derived.RangeFuncBound
import Derived.RangeFuncCalls
import Derived.RangeFuncLeaves
import Derived.RangeFuncNested
import Derived.Shelf.Abstract
import Derived.Shelf.RegionOpen
import Derived.Shelf.SlIterI.Sorted
import Derived.Shelf.SlLaysF0
import Derived.Shelf.Slices.Clone
import Derived.Shelf.Slices.Delete
import Derived.Shelf.Sort.Plain
import Derived.Shelf.Spec.SlicesInsert
import Derived.Sort.Grow
import Derived.Sort.OwnSortedInts
import Derived.Sort.Statements
import Derived.StillTail
import Derived.StillTailTactics
import Derived.StringKeys
import Derived.TacticsInMore
import Derived.Test.YtcgkkppidkkjiaaGreatDoorRows
import Derived.WalkKit
namespace Go.Proofs.YtcgkkppidkkjiaaGreatDoor
open Go.RowKit
theorem Reads.of_blk1 {w : World} {g : Nat} {t : TypeId} {l : List Int} (h : Blk w g t (il l).toArray) : Reads w w.heap.size (some ⟨g, 0, none⟩) l.length (il l) := by
  refine ⟨by simp [il], fun _ => ⟨_, rfl, h.lt, fun i u hi => ?_⟩⟩
  have : (⟨g, 0, none⟩ : Addr).add i = ⟨g, i, none⟩ := by
    unfold Addr.add
    split
    · next h => subst h; rfl
    · simp
  rw [this, h.cell, ← hi]
  simp
theorem b_via {w0 w1 w2 : World} (h : Below w0.heap.size w0 w1) (k : Below w1.heap.size w1 w2) : Below w0.heap.size w0 w2 := h.trans (k.mono h.size)
theorem Below.set1 {B g i : Nat} {w0 w : World} (h : Below B w0 w) (hg : B ≤ g) (u : Value) : Below B w0 (w.setCell ⟨g, i, none⟩ u) := h.setCell (p := ⟨g, i, none⟩) hg u
theorem below_set3 {B g : Nat} {w0 w : World} (h : Below B w0 w) (hg : B ≤ g) (a b c : Value) : Below B w0 (((w.setCell ⟨g, 0, none⟩ a).setCell ⟨g, 1, none⟩ b).setCell ⟨g, 2, none⟩ c) := Below.set1 (Below.set1 (Below.set1 h hg a) hg b) hg c
theorem Blk.below' {w w' : World} {g : Nat} {t : TypeId} {cs : Array Value} (h : Blk w g t cs) (hb : Below w.heap.size w w') : Blk w' g t cs := h.below hb h.lt
/-- bytes as cells -/
def ub (l : List UInt8) : List Value := l.map fun b => Value.int .u8 (b.toNat : Int)
theorem made_ub (n : Nat) : madeCells #[Value.int .u8 0] n = (ub (List.replicate n 0)).toArray := by
  apply Array.ext
  · simp [madeCells, ub]
  · intro i h1 h2
    simp [madeCells, ub, Nat.mod_one]
theorem Tryz.info_u8 : (Tryz.prog.info? 5).map (fun i => (i.zero, i.size, i.bytes)) = some (some (.int .u8 0), 1, 1) := by kernel_rfl
theorem mk_bytes (n : Nat) (hn : n ≤ 1000000) (w : World) : (Instr.makeSlice 76 (.int .i64 (n : Int)) (.int .i64 (n : Int))).run Tryz.prog w = .ok (.slice (some ⟨w.heap.size, 0, none⟩) n n) (w.alloc (.cells (ub (List.replicate n 0)).toArray 5)) := by
  rw [run_make_row' 76 5 (.int .u8 0) 1 Tryz.underlying76 Tryz.info_u8 rfl .i64 .i64 n (by omega) (by omega) w, made_ub]
theorem ub_get {l : List UInt8} {k : Nat} (h : k < l.length) : (ub l).toArray[k]? = some (.int .u8 (l[k].toNat : Int)) := by
  simp [ub, h]
/-- the new states of the first j inputs -/
def vsl (S n : Nat) (V : List Int → Nat) (j : Nat) : List UInt8 := (List.range j).map fun i => UInt8.ofNat (V (dg S n i))
theorem vsl_len (S n : Nat) (V : List Int → Nat) (j : Nat) : (vsl S n V j).length = j := by simp [vsl]
theorem vsl_get {S n : Nat} {V : List Int → Nat} {j k : Nat} (hk : k < j) (hV : V (dg S n k) < 256) : (((vsl S n V j)[k]'(by rw [vsl_len]; exact hk)).toNat : Int) = (V (dg S n k) : Int) := by
  simp only [vsl, List.getElem_map, List.getElem_range]
  rw [UInt8.toNat_ofNat_of_lt' (by exact hV)]
theorem vsl_step {S n : Nat} {V : List Int → Nat} {j N : Nat} (hj : j < N) (hV : V (dg S n j) < 256) :
    ((ub (vsl S n V j ++ List.replicate (N - j) 0)).toArray).setIfInBounds j (.int .u8 (V (dg S n j) : Int)) = (ub (vsl S n V (j + 1) ++ List.replicate (N - (j + 1)) 0)).toArray := by
  obtain ⟨k, hk⟩ : ∃ k, N - j = k + 1 := ⟨N - j - 1, by omega⟩
  have hk2 : N - (j + 1) = k := by omega
  have e : vsl S n V (j + 1) = vsl S n V j ++ [UInt8.ofNat (V (dg S n j))] := by simp [vsl, List.range_succ]
  have hl := vsl_len S n V j
  rw [hk, hk2, e, List.replicate_succ]
  have e2 : ((UInt8.ofNat (V (dg S n j))).toNat : Int) = (V (dg S n j) : Int) := by
    rw [UInt8.toNat_ofNat_of_lt' (by exact hV)]
  simp only [ub, List.map_append, List.map_cons, List.map_nil]
  apply Array.ext'
  simp only [Array.toList_setIfInBounds]
  rw [List.set_append_right _ _ (by simp [hl])]
  simp [hl]
  omega
theorem byt_vsl {S n N : Nat} {V : List Int → Nat} {k : Nat} (hk : k < N) (hV : V (dg S n k) < 256) : byt ⟨(vsl S n V N).toArray⟩ k = (V (dg S n k) : Int) := by
  unfold byt
  have hl : k < (vsl S n V N).length := by rw [vsl_len]; exact hk
  have e : (⟨(vsl S n V N).toArray⟩ : ByteArray).data[k]? = some ((vsl S n V N)[k]) := by simp [hl]
  rw [e]
  exact vsl_get hk hV
/-- what Tree promises: an error, or a tree that leads to what a function says -/
def TreeOut (S n : Nat) (f : Nat → P2) (V : List Int → Nat) (w : World) (e : Ending) (w' : World) : Prop :=
  (∃ er, e = .returned (.tuple #[.agg #[.int .i64 0, .slice none 0 0, .slice none 0 0], .int .i64 er]) ∧ (er ≠ 0 ∧ 1024 < S ^ n) ∧ Below w.heap.size w w') ∨
  ∃ AI cI AN cN out, e = .returned (.tuple #[.agg #[.int .i64 (S : Int), .slice AI n cI, .slice AN out.length cN], .int .i64 0]) ∧ TL w' w.heap.size n f AI cI AN cN out ∧ Gd S n out ∧ 1 ≤ out.length ∧ out.length ≤ 4096 ∧ Mn S out n (fun p => (V p : Int)) ((out.length : Int) - 1) ∧ Below w.heap.size w w'
set_option maxRecDepth 100000 in
set_option maxHeartbeats 4000000 in
theorem collect_any (S : Nat) (sy : Int) (AH : Option Addr) (n cH : Nat) (f : Nat → P2) (AV : Option Addr) (nv cV : Nat) (AR : Option Addr) (nr cR : Nat) (V : List Int → Nat) (g : FuncId) (lb : Array Value) (w : World)
    (hS : 2 ≤ S) (hS8 : S ≤ 8) (h0 : 0 < n) (hn : n ≤ 25) (hsm : S ^ n ≤ 65536) (hH : QReads w w.heap.size AH n f) (eg : ∀ args w, (callFunc g args).run Tryz.prog w = .ok (.enter g args) w)
    (HV : ∀ w' A c m, Below w.heap.size w w' → Reads w' w'.heap.size A n (il m) → n ≤ c → Sts S m → m.length = n → Calls Tryz.prog g (#[.slice A n c] ++ lb) w' fun e w'' => e = .returned (.int .i64 ((V m : Nat) : Int)) ∧ Below w'.heap.size w' w'')
    (hV : ∀ m, Sts S m → m.length = n → V m < S) (HE : ∀ l m, Sts S l → l.length = n → sy = 3 → Eqv n f l m → V m = V l) :
    Calls Tryz.prog 18 #[.agg #[.int .i64 (S : Int), .int .i64 sy, .slice AH n cH, .slice AV nv cV, .slice AR nr cR], .func (.func g) #[] lb] w (TreeOut S n f V w) := by
  have K0 := (Blk.new w 26 #[.int .i64 (S : Int), .int .i64 sy, .slice AH n cH, .slice AV nv cV, .slice AR nr cR]).alloc (.cells #[.int .i64 0, .slice none 0 0, .slice none 0 0] 32)
  have K1 := Blk.new (w.alloc (.cells #[.int .i64 (S : Int), .int .i64 sy, .slice AH n cH, .slice AV nv cV, .slice AR nr cR] 26)) 32 #[.int .i64 0, .slice none 0 0, .slice none 0 0]
  rw [World.size_alloc] at K1
  have B0 := ((Below.refl w.heap.size w).alloc (Nat.le_refl _) (.cells #[.int .i64 (S : Int), .int .i64 sy, .slice AH n cH, .slice AV nv cV, .slice AR nr cR] 26)).alloc (by simp) (.cells #[.int .i64 0, .slice none 0 0, .slice none 0 0] 32)
  have IN := Lib.hid (fun w' => inputs_yes S sy AH n cH AV nv cV AR nr cR w' hS hS8 (by omega) hsm)
  have IQ := Lib.hid (fun k w' (hk : k < 1000000) => input_any S k sy AH n cH AV nv cV AR nr cR w' hS hS8 (by omega) hk)
  have EQ := Lib.hid (fun w' A c l (hb : Below w.heap.size w w') (h : Reads w' w'.heap.size A n (il l)) (hst : Sts S l) => equiv_any S sy AH n cH f AV nv cV AR nr cR A c l w' hS hS8 h0 (by omega) hsm (hH.later hb) h hst)
  have HVV := Lib.hid HV
  have HVB := Lib.hid hV
  have HEE := Lib.hid HE
  have CL := Lib.hid (fun w' (hb : Below w.heap.size w w') => clone_any AH n cH f w' (hH.later hb) (by omega))
  obtain ⟨N, hN⟩ : ∃ N, N = S ^ n := ⟨_, rfl⟩
  rw [← hN] at hsm
  have IN := IN
  rw [← hN] at IN
  have HN := Lib.hid hN
  have mk := mk_bytes N (by omega)
  have hNI : (N : Int) ≤ 65536 := by omega
  clear HV hV HE hH hN
  go_enter Tryz.func18, Tryz.ntmps18
  go_upto_region 1 with (fail)
  generalize (w.alloc (.cells #[.int .i64 (S : Int), .int .i64 sy, .slice AH n cH, .slice AV nv cV, .slice AR nr cR] 26)).alloc (.cells #[.int .i64 0, .slice none 0 0, .slice none 0 0] 32) = w0 at K0 K1 B0 ⊢
  obtain ⟨t0, t1, t2, t3, t4, t5⟩ := K0.five
  have K0 := Lib.hid K0
  have K1 := Lib.hid K1
  have B0 := Lib.hid B0
  go_wp2_with (go_at_call 26; (with_reducible refine (IN.out _).mono ?_); rintro e w1 ⟨rfl, hb⟩; have B1 := Lib.hid (B0.out.trans (hb.mono B0.out.size)); have K10 := Lib.hid (K0.out.below hb K0.out.lt); have K11 := Lib.hid (K1.out.below hb K1.out.lt); have KB0 := Lib.hid (Blk.new w1 5 (ub (List.replicate N 0)).toArray); have K20 := Lib.hid (K10.out.alloc (.cells (ub (List.replicate N 0)).toArray 5)); have K21 := Lib.hid (K11.out.alloc (.cells (ub (List.replicate N 0)).toArray 5)); have B2 := Lib.hid (B1.out.alloc B1.out.size (.cells (ub (List.replicate N 0)).toArray 5)); have hgl : w.heap.size ≤ w1.heap.size := B1.out.size; clear hb)
  have hgl2 : w1.heap.size < (w1.alloc (.cells (ub (List.replicate N 0)).toArray 5)).heap.size := by simp
  have htl1 : w.heap.size + 1 < w1.heap.size := K11.out.lt
  generalize w1.alloc (.cells (ub (List.replicate N 0)).toArray 5) = w2 at KB0 K20 K21 B2 hgl2 ⊢
  obtain ⟨gB, hgB⟩ : ∃ gB, gB = w1.heap.size := ⟨_, rfl⟩
  rw [← hgB] at KB0 hgl hgl2 htl1 ⊢
  clear hgB t0 t1 t2 t3 t4 t5 K10 K11 B1 K0 K1 B0 mk
  go_loopw [25] (fun iv wr => ∃ j : Nat, j ≤ N ∧ iv = .int .i64 (j : Int) ∧ Hid (Below w.heap.size w wr) ∧ Hid (w2.heap.size ≤ wr.heap.size) ∧ Hid (Blk wr w.heap.size 26 #[.int .i64 (S : Int), .int .i64 sy, .slice AH n cH, .slice AV nv cV, .slice AR nr cR]) ∧ Hid (Blk wr (w.heap.size + 1) 32 #[.int .i64 0, .slice none 0 0, .slice none 0 0]) ∧ Hid (Blk wr gB 5 (ub (vsl S n V j ++ List.replicate (N - j) 0)).toArray)) (fun iv _ => N - (intOf iv).toNat)
  case atStart => exact ⟨0, Nat.zero_le _, rfl, B2, Lib.hid (Nat.le_refl _), K20, K21, KB0⟩
  case round =>
    obtain ⟨j, hj, rfl, HB, HZ, HK0, HK1, HKB⟩ := hrel
    have hzr := HZ.out
    obtain ⟨t0, t1, t2, t3, t4, t5⟩ := HK0.out.five
    by_cases hlt : j < N
    · have hjI : (j : Int) < (N : Int) := by omega
      have hj2 : dg S n j = dg S n j := rfl
      have HSJ := Lib.hid (sts_dg (show 0 < S by omega) n j)
      have HLJ := Lib.hid (dg_len S n j)
      have HBJ := HVB.out _ HSJ.out HLJ.out
      have HNJ := Lib.hid (show nm S (dg S n j) = j by rw [nm_dg, Nat.mod_eq_of_lt (by rw [← HN.out]; exact hlt)])
      go_upto_region 10 with (first
        | (go_at_call 28; (with_reducible refine (IQ.out j _ (by omega)).mono ?_); rintro e w3 ⟨g3, rfl, hk, hb⟩; have KI := Lib.hid hk; have B3 := Lib.hid (HB.out.trans (hb.mono HB.out.size)); have Z3 := Lib.hid (Nat.le_trans hzr hb.size); have K30 := Lib.hid (HK0.out.below hb HK0.out.lt); have K31 := Lib.hid (HK1.out.below hb HK1.out.lt); have K3B := Lib.hid (HKB.out.below hb HKB.out.lt); obtain ⟨u0, u1, u2, u3, u4, u5⟩ := K30.out.five; have R3 := Lib.hid (show Reads w3 w3.heap.size (some ⟨g3, 0, none⟩) n (il (dg S n j)) from by
            have := Reads.of_blk1 hk
            rwa [dg_len] at this); clear hk hb)
        | (go_at_call 27; (with_reducible refine (EQ.out _ _ _ _ B3.out R3.out HSJ.out).mono ?_); rintro e w4 ⟨m, rfl, hm1, hm2, hb⟩; have HM1 := Lib.hid hm1; have HM2 := Lib.hid hm2; have B4 := Lib.hid (B3.out.trans (hb.mono B3.out.size)); have Z4 := Lib.hid (Nat.le_trans Z3.out hb.size); have K40 := Lib.hid (K30.out.below hb K30.out.lt); have K41 := Lib.hid (K31.out.below hb K31.out.lt); have K4B := Lib.hid (K3B.out.below hb K3B.out.lt); have R4 := Lib.hid ((R3.out.below hb).more hb.size); obtain ⟨v0, v1, v2, v3, v4, v5⟩ := K40.out.five; clear hm1 hm2 hb))
      have z4 := Z4.out
      have hm8 : Sts S m := by
        rcases HM2.out with e | ⟨_, e, _⟩
        · rw [e]; exact HSJ.out
        · exact fun x hx => HSJ.out x (e.mem_iff.1 hx)
      have HDM := Lib.hid (show dg S n (nm S m) = m by
        have := dg_nm (show 0 < S by omega) hm8
        rwa [HM1.out] at this)
      have HPJ := Lib.hid (show nm S m < j → V m = V (dg S n j) from fun h => by
        rcases HM2.out with e | ⟨e1, e2⟩
        · rw [e]
        · exact HEE.out _ _ HSJ.out HLJ.out e1 e2)
      have hvb : ∀ k, V (dg S n k) < 256 := fun k => by have := HVB.out _ (sts_dg (show 0 < S by omega) n k) (dg_len S n k); omega
      have HST := Lib.hid (vsl_step (S := S) (n := n) (V := V) hlt (hvb j))
      have HCP := Lib.hid (fun (h : nm S m < j) => show (ub (vsl S n V j ++ List.replicate (N - j) 0)).toArray[nm S m]? = some (.int .u8 (V (dg S n j) : Int)) from by
        rw [ub_get (by rw [List.length_append, vsl_len]; omega)]
        have e : (vsl S n V j ++ List.replicate (N - j) 0)[nm S m]'(by rw [List.length_append, vsl_len]; omega) = (vsl S n V j)[nm S m]'(by rw [vsl_len]; exact h) := List.getElem_append_left (by rw [vsl_len]; exact h)
        rw [e, vsl_get h (hvb _), HDM.out, HPJ.out h])
      have HVJ := Lib.hid (fun W (hB : Below w.heap.size w W) hR => HVV.out W (some ⟨g3, 0, none⟩) n (dg S n j) hB hR (Nat.le_refl n) HSJ.out HLJ.out)
      obtain ⟨y, hy⟩ : ∃ y, y = V (dg S n j) := ⟨_, rfl⟩
      rw [← hy] at HCP HST HVJ HBJ
      obtain ⟨p, hp⟩ : ∃ p, p = nm S m := ⟨_, rfl⟩
      rw [← hp] at HCP ⊢
      have HY := Lib.hid hy
      clear hy hp hm8 hvb t0 t1 t2 t3 t4 t5 u0 u1 u2 u3 u4 u5 v0 v1 v2 v3 v4 v5
      have hgw : gB < w4.heap.size := by omega
      by_cases hpj : p < j
      · have d1 : decide ((p : Int) < (j : Int)) = true := by rw [decide_eq_true_iff]; omega
        have c1 : w4.cell? ⟨gB, p, none⟩ = some (.int .u8 (y : Int)) := by rw [K4B.out.cell]; exact HCP.out hpj
        have f1 := K4B.out.frozen j
        have k5 := K4B.out.set_ j (.int .u8 (y : Int))
        rw [HST.out] at k5
        have K5B := Lib.hid k5
        have K50 := Lib.hid (K40.out.far (p := ⟨gB, j, none⟩) (by show w.heap.size ≠ gB; omega) (.int .u8 (y : Int)))
        have K51 := Lib.hid (K41.out.far (p := ⟨gB, j, none⟩) (by show w.heap.size + 1 ≠ gB; omega) (.int .u8 (y : Int)))
        have B5 := Lib.hid (B4.out.setCell (p := ⟨gB, j, none⟩) (by show w.heap.size ≤ gB; omega) (.int .u8 (y : Int)))
        have hpI : (p : Int) < (N : Int) := by omega
        have c2 : w4.cell? ⟨gB, j, none⟩ = some (.int .u8 0) := by
          rw [K4B.out.cell, ub_get (by rw [List.length_append, vsl_len, List.length_replicate]; omega)]
          have hl := vsl_len S n V j
          rw [List.getElem_append_right (by omega)]
          simp
        clear k5
        go_wp2
        go_roundw
        case rel => exact ⟨j + 1, by omega, by go_num, B5, Lib.hid (by simpa [World.setCell] using z4), K50, K51, K5B⟩
        case measure => simp [intOf]; omega
      · have d1 : decide ((p : Int) < (j : Int)) = false := by rw [decide_eq_false_iff_not]; omega
        have yw : IntKind.u8.wrap (y : Int) = (y : Int) := IntWalk.u8_in _ ⟨by omega, by omega⟩
        have HC0 := Lib.hid (fun W (hk : Blk W gB 5 (ub (vsl S n V j ++ List.replicate (N - j) 0)).toArray) => show W.cell? ⟨gB, j, none⟩ = some (.int .u8 0) from by
          rw [hk.cell, ub_get (by rw [List.length_append, vsl_len, List.length_replicate]; omega)]
          have hl := vsl_len S n V j
          rw [List.getElem_append_right (by omega)]
          simp)
        go_wp2_with ((with_reducible refine (HVJ.out _ B4.out R4.out).mono ?_); rintro e w5 ⟨rfl, hb⟩; have hb5 := hb; have K5B := Lib.hid (K4B.out.below hb hgw); have f1 := K5B.out.frozen j; have c2 := HC0.out _ K5B.out; have K6B := Lib.hid (show Blk (w5.setCell ⟨gB, j, none⟩ (.int .u8 (y : Int))) gB 5 (ub (vsl S n V (j + 1) ++ List.replicate (N - (j + 1)) 0)).toArray from (by have k5 := K5B.out.set_ j (.int .u8 (y : Int)); rwa [HST.out] at k5)); have K60 := Lib.hid ((K40.out.below hb K40.out.lt).far (p := ⟨gB, j, none⟩) (by show w.heap.size ≠ gB; omega) (.int .u8 (y : Int))); have K61 := Lib.hid ((K41.out.below hb K41.out.lt).far (p := ⟨gB, j, none⟩) (by show w.heap.size + 1 ≠ gB; omega) (.int .u8 (y : Int))); have B6 := Lib.hid ((B4.out.trans (hb.mono B4.out.size)).setCell (p := ⟨gB, j, none⟩) (by show w.heap.size ≤ gB; omega) (.int .u8 (y : Int))); have Z6 := Lib.hid (Nat.le_trans z4 hb5.size); clear hb hb5)
        go_roundw
        case rel => exact ⟨j + 1, by omega, by go_num, B6, Lib.hid (by simpa [World.setCell] using Z6.out), K60, K61, K6B⟩
        case measure => simp [intOf]; omega
    · obtain rfl : j = N := by omega
      have hkb := HKB.out
      rw [Nat.sub_self, List.replicate_zero, List.append_nil] at hkb
      have d1 : decide ((j : Int) < (j : Int)) = false := by rw [decide_eq_false_iff_not]; omega
      have CV := Lib.hid (fun W (hB : Below wr.heap.size wr W) (c : Nat) => show (convert 76 9 (.slice (some ⟨gB, 0, none⟩) j c)).run Tryz.prog W = .ok (.string ⟨(vsl S n V j).toArray⟩) W from by
        have hk := hkb.below hB hkb.lt
        have h := run_convert_bytes_back (P := Tryz.prog) W 76 9 5 ⟨gB, 0, none⟩ c (vsl S n V j) Tryz.underlying76 Tryz.underlying5 Tryz.underlying9 (fun i hi => by
          have e : (⟨gB, 0, none⟩ : Addr).add i = ⟨gB, i, none⟩ := by
            unfold Addr.add
            split
            · next h => subst h; rfl
            · simp
          rw [e, hk.cell, ub_get hi])
        rwa [vsl_len] at h)
      have hwr := HB.out.size
      have CLr := Lib.hid (fun w' (hb : Below wr.heap.size wr w') => CL.out w' (HB.out.trans (hb.mono hwr)))
      obtain ⟨RS, hRS⟩ : ∃ RS, RS = (⟨(vsl S n V j).toArray⟩ : ByteArray) := ⟨_, rfl⟩
      rw [← hRS] at CV
      have hvb : ∀ k, V (dg S n k) < 256 := fun k => by have := HVB.out _ (sts_dg (show 0 < S by omega) n k) (dg_len S n k); omega
      have hRZ : RS.size = S ^ n := by
        rw [hRS, ← HN.out]
        show (vsl S n V j).toArray.size = j
        simp [vsl_len]
      have HBY := Lib.hid (fun k (hk : k < S ^ n) => show byt RS k = (V (dg S n k) : Int) from by rw [hRS]; exact byt_vsl (by rw [HN.out]; exact hk) (hvb k))
      have ND := Lib.hid (fun w' => nodesOf_any S n RS w' hS hS8 (by omega) (by omega) (by rw [← HN.out]; exact hsm) hRZ (fun k hk => by
        rw [HBY.out k (by rw [← hRZ]; exact hk)]
        have := HVB.out _ (sts_dg (show 0 < S by omega) n k) (dg_len S n k)
        omega))
      clear hRS hvb hRZ hkb
      have cv0 := CV.out wr.drew ((Below.refl _ _).drew) j
      have cv1 := fun o => CV.out (wr.drew.alloc o) (((Below.refl _ _).drew).alloc (Nat.le_refl _) o) j
      have cv4 := fun o => CV.out ((wr.alloc o).drew) (((Below.refl _ _).alloc (Nat.le_refl _) o).drew) j
      have cv5 := fun o => CV.out (wr.alloc o) ((Below.refl _ _).alloc (Nat.le_refl _) o) j
      have cv6 := CV.out wr (Below.refl _ _) j
      have KP := Lib.hid (fun w' (hb : Below wr.heap.size wr w') => show w'.cell? ⟨w.heap.size, 0, none⟩ = some (.int .i64 (S : Int)) ∧ w'.cell? ⟨w.heap.size, 2, none⟩ = some (.slice AH n cH) from ⟨(HK0.out.below hb HK0.out.lt).five.1, (HK0.out.below hb HK0.out.lt).five.2.2.1⟩)
      have S0 := KP.out wr.drew ((Below.refl _ _).drew)
      go_upto_region 14 with (fail)
      go_cut [12] from 52 to 65 (fun s12 wx => ∃ (gT : Nat) (AI : Option Addr) (cI : Nat) (AN : Option Addr) (cN : Nat) (out : List (Int × List Int)), s12 = .pointer (some ⟨gT, 0, none⟩) ∧ Blk wx gT 32 #[.int .i64 (S : Int), .slice AI n cI, .slice AN out.length cN] ∧ TL wx wr.heap.size n f AI cI AN cN out ∧ Hid (Gd S n out ∧ 1 ≤ out.length ∧ Mn S out n (fun p => byt RS (nm S p)) ((out.length : Int) - 1)) ∧ Hid (out.length ≤ 1000000 ∧ out.length + 1 ≤ 2 * S ^ n) ∧ wr.heap.size ≤ gT ∧ Below wr.heap.size wr wx)
      case first =>
        go_region_held_law (fun w' => w'.cell? ⟨w.heap.size, 0, none⟩ = some (.int .i64 (S : Int)) ∧ w'.cell? ⟨w.heap.size, 2, none⟩ = some (.slice AH n cH))
          (first | assumption | (refine KP.out _ ?_; (with_reducible (repeat (first | assumption | exact Below.refl _ _ | refine Below.drew' ?_ | refine Below.alloc' ?_ _ | refine Below.set1 ?_ ?_ _ | exact Nat.le_refl _))); done) | go_keep)
          (first
          | (go_at_call 35; (with_reducible refine (CLr.out _ ?_).mono ?_); (with_reducible (repeat (first | assumption | exact Below.refl _ _ | refine Below.drew' ?_ | refine Below.alloc' ?_ _))); rintro e wa ⟨AI, cI, rfl, ho, hb⟩; have HO := Lib.hid ho; have hba : Below wr.heap.size wr wa := b_via (by with_reducible (repeat (first | exact Below.refl _ _ | refine Below.drew' ?_ | refine Below.alloc' ?_ _))) hb; have hsa : wr.heap.size ≤ wa.heap.size := hba.size; have cv2 := CV.out wa hba j; have cv3 := fun o => CV.out (wa.alloc o) (hba.alloc hba.size o) j; (try (have hk := Blk.below' (by first | exact Blk.new _ 32 #[.int .i64 0, .slice none 0 0, .slice none 0 0]) hb)); clear ho hb)
          | (go_at_call 42; (with_reducible refine (ND.out _).mono ?_); rintro e wb ⟨AN, cN, out, rfl, hnl, hg, h1, hmn, h6, hb⟩; have HNL := Lib.hid hnl; have HGM := Lib.hid (show Gd S n out ∧ 1 ≤ out.length ∧ Mn S out n (fun p => byt RS (nm S p)) ((out.length : Int) - 1) from ⟨hg, h1, hmn⟩); have hbb := hb; have hbB : Below wr.heap.size wr wb := b_via (by with_reducible (repeat (first | assumption | exact Below.refl _ _ | refine Below.drew' ?_ | refine Below.alloc' ?_ _))) hb; (try (have hk2 := Blk.below' (by first | exact hk | exact Blk.new _ 32 #[.int .i64 0, .slice none 0 0, .slice none 0 0]) hb; obtain ⟨z0, z1, z2, z3, z4, z5, z6⟩ := hk2.three6; (try simp [World.drew] at z0 z1 z2 z3 z4 z5 z6))); clear hnl hg h1 hmn hb))
        all_goals
          go_wp2_with fail
          go_meet
          first
            | exact ⟨_, AI, cI, AN, cN, out, rfl, Blk.new wb _ _, tree_new HO.out hbb HNL.out (Nat.le_refl _) hsa ((Below.refl _ _).alloc (Nat.le_refl _) _), HGM, Lib.hid h6, hbB.size, hbB.alloc hbB.size _⟩
            | (obtain ⟨e1, e2⟩ := tree_set (b0 := wr.heap.size) hk2 HO.out (b_via ((Below.refl _ _).alloc (Nat.le_refl _) _) hbb) (fun g hg e => by have := (HO.out.lt g hg).2; omega) HNL.out (by simp) (Nat.le_refl _) (by simp; omega) (.int .i64 (S : Int)) (.slice AI n cI) (.slice AN out.length cN)
               exact ⟨_, AI, cI, AN, cN, out, rfl, e1, e2, HGM, Lib.hid h6, hsa, below_set3 hbB hsa _ _ _⟩)
            | (obtain ⟨e1, e2⟩ := tree_set (b0 := wr.heap.size) hk2 HO.out hbb (fun g hg e => by have := (HO.out.lt g hg).1; simp [World.drew] at this; omega) HNL.out hk.lt (by simp [World.drew]) hsa (.int .i64 (S : Int)) (.slice AI n cI) (.slice AN out.length cN)
               exact ⟨_, AI, cI, AN, cN, out, rfl, e1, e2, HGM, Lib.hid h6, Nat.le_refl _, below_set3 hbB (Nat.le_refl _) _ _ _⟩)
      case rest =>
        obtain ⟨gT, AI, cI, AN, cN, out, rfl, hk, htl, HGM, h6, hgT, hbc⟩ := hcut
        have h6a := h6.out.1
        have hRl := HK1.out.lt
        have KT := Lib.hid hk
        have HTL := Lib.hid htl
        have KR := Lib.hid (HK1.out.below hbc HK1.out.lt)
        have BC := Lib.hid (HB.out.trans (hbc.mono hwr))
        obtain ⟨q0, q1, q2, q3⟩ := hk.three
        obtain ⟨r0, r1, r2, r3, r4, r5, r6⟩ := KR.out.three6
        have hwR : w.heap.size ≤ w.heap.size + 1 := by omega
        clear hk htl hbc cv0 cv1 cv4 cv5 cv6 S0 t0 t1 t2 t3 t4 t5
        by_cases h4 : out.length ≤ 4096
        · have d2 : decide (4096 < (out.length : Int)) = false := by rw [decide_eq_false_iff_not]; omega
          go_wp2
          have KZ := ((KR.out.set_ 0 (.int .i64 (S : Int))).set_ 1 (.slice AI n cI)).set_ 2 (.slice AN out.length cN)
          have KZ : Blk (((wc.setCell ⟨w.heap.size + 1, 0, none⟩ (.int .i64 (S : Int))).setCell ⟨w.heap.size + 1, 1, none⟩ (.slice AI n cI)).setCell ⟨w.heap.size + 1, 2, none⟩ (.slice AN out.length cN)) (w.heap.size + 1) 32 #[.int .i64 (S : Int), .slice AI n cI, .slice AN out.length cN] := by simpa using KZ
          have TZ := HTL.out.keep (Fr.set3 wc (w.heap.size + 1) (.int .i64 (S : Int)) (.slice AI n cI) (.slice AN out.length cN)) (fun k hk => by subst hk; exact hRl)
          have BZ := below_set3 BC.out hwR (.int .i64 (S : Int)) (.slice AI n cI) (.slice AN out.length cN)
          obtain ⟨y0, y1, y2, y3⟩ := KZ.three
          have hg := HGM.out
          refine bodyPost_ret (v := .tuple #[.agg #[.int .i64 (S : Int), .slice AI n cI, .slice AN out.length cN], .int .i64 0]) (by simp [results, Tryz.results18, go_sem, y0, y1, y2]) rfl (.inr ⟨AI, cI, AN, cN, out, rfl, TZ.low hwr, hg.1, hg.2.1, h4, hg.2.2.congr (fun p hp hs => ?_), BZ⟩)
          have h1 := nm_lt hs
          have h2 := dg_nm (show 0 < S by omega) hs
          rw [hp] at h1 h2
          rw [HBY.out _ h1, h2]
        · have d2 : decide (4096 < (out.length : Int)) = true := by rw [decide_eq_true_iff]; omega
          go_wp2
          have KZ := ((KR.out.set_ 0 (.int .i64 0)).set_ 1 (.slice none 0 0)).set_ 2 (.slice none 0 0)
          have KZ : Blk (((wc.setCell ⟨w.heap.size + 1, 0, none⟩ (.int .i64 0)).setCell ⟨w.heap.size + 1, 1, none⟩ (.slice none 0 0)).setCell ⟨w.heap.size + 1, 2, none⟩ (.slice none 0 0)) (w.heap.size + 1) 32 #[.int .i64 0, .slice none 0 0, .slice none 0 0] := by simpa using KZ
          have BZ := below_set3 BC.out hwR (.int .i64 0) (.slice none 0 0) (.slice none 0 0)
          obtain ⟨y0, y1, y2, y3⟩ := KZ.three
          exact bodyPost_ret (v := .tuple #[.agg #[.int .i64 0, .slice none 0 0, .slice none 0 0], .int .i64 6]) (by simp [results, Tryz.results18, go_sem, y0, y1, y2]) rfl (.inl ⟨6, rfl, ⟨by decide, by have := h6.out.2; omega⟩, BZ⟩)
set_option maxRecDepth 100000 in
set_option maxHeartbeats 1000000 in
theorem collect_big (S : Nat) (sy : Int) (AH : Option Addr) (n cH : Nat) (f : Nat → P2) (AV : Option Addr) (nv cV : Nat) (AR : Option Addr) (nr cR : Nat) (V : List Int → Nat) (g : FuncId) (lb : Array Value) (w : World)
    (hS : 2 ≤ S) (hS8 : S ≤ 8) (hn : n ≤ 25) (hsm : ¬ S ^ n ≤ 65536) :
    Calls Tryz.prog 18 #[.agg #[.int .i64 (S : Int), .int .i64 sy, .slice AH n cH, .slice AV nv cV, .slice AR nr cR], .func (.func g) #[] lb] w (TreeOut S n f V w) := by
  have K0 := (Blk.new w 26 #[.int .i64 (S : Int), .int .i64 sy, .slice AH n cH, .slice AV nv cV, .slice AR nr cR]).alloc (.cells #[.int .i64 0, .slice none 0 0, .slice none 0 0] 32)
  have K1 := Blk.new (w.alloc (.cells #[.int .i64 (S : Int), .int .i64 sy, .slice AH n cH, .slice AV nv cV, .slice AR nr cR] 26)) 32 #[.int .i64 0, .slice none 0 0, .slice none 0 0]
  rw [World.size_alloc] at K1
  have B0 := ((Below.refl w.heap.size w).alloc (Nat.le_refl _) (.cells #[.int .i64 (S : Int), .int .i64 sy, .slice AH n cH, .slice AV nv cV, .slice AR nr cR] 26)).alloc (by simp) (.cells #[.int .i64 0, .slice none 0 0, .slice none 0 0] 32)
  have IN := Lib.hid (fun w' => inputs_no S sy AH n cH AV nv cV AR nr cR w' hS hS8 (by omega) hsm)
  have HSM := Lib.hid hsm
  clear hsm
  go_enter Tryz.func18, Tryz.ntmps18
  go_upto_region 1 with (fail)
  generalize (w.alloc (.cells #[.int .i64 (S : Int), .int .i64 sy, .slice AH n cH, .slice AV nv cV, .slice AR nr cR] 26)).alloc (.cells #[.int .i64 0, .slice none 0 0, .slice none 0 0] 32) = w0 at K0 K1 B0 ⊢
  obtain ⟨t0, t1, t2, t3, t4, t5⟩ := K0.five
  have K1 := Lib.hid K1
  have B0 := Lib.hid B0
  have hwR : w.heap.size ≤ w.heap.size + 1 := by omega
  go_wp2_with (go_at_call 26; (with_reducible refine (IN.out _).mono ?_); rintro e w1 ⟨rfl, hb⟩; have B1 := Lib.hid (B0.out.trans (hb.mono B0.out.size)); have K11 := Lib.hid (K1.out.below hb K1.out.lt); obtain ⟨r0, r1, r2, r3, r4, r5, r6⟩ := K11.out.three6; clear hb)
  have KZ := ((K11.out.set_ 0 (.int .i64 0)).set_ 1 (.slice none 0 0)).set_ 2 (.slice none 0 0)
  have KZ : Blk (((w1.setCell ⟨w.heap.size + 1, 0, none⟩ (.int .i64 0)).setCell ⟨w.heap.size + 1, 1, none⟩ (.slice none 0 0)).setCell ⟨w.heap.size + 1, 2, none⟩ (.slice none 0 0)) (w.heap.size + 1) 32 #[.int .i64 0, .slice none 0 0, .slice none 0 0] := by simpa using KZ
  have BZ := below_set3 B1.out hwR (.int .i64 0) (.slice none 0 0) (.slice none 0 0)
  obtain ⟨y0, y1, y2, y3⟩ := KZ.three
  exact bodyPost_ret (v := .tuple #[.agg #[.int .i64 0, .slice none 0 0, .slice none 0 0], .int .i64 6]) (by simp [results, Tryz.results18, go_sem, y0, y1, y2]) rfl (.inl ⟨6, rfl, ⟨by decide, by have := HSM.out; omega⟩, BZ⟩)
end Go.Proofs.YtcgkkppidkkjiaaGreatDoor
