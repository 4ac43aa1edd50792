/- The walk of combine$1: a pair that is new. -/
import Derived.Test.YthgnjjpkmikokaaDoorBat
import Derived.Test.YthgnjjpkmikokaaDoorBaj
namespace Go.Proofs.YthgnjjpkmikokaaDoor
open Go.RowKit
attribute [local go_sem] GDoes GUpon

theorem Blk.put9 {w : World} {g : Nat} {t : TypeId} {a0 a1 a2 a3 a4 a5 a6 a7 a8 b0 b1 b2 b3 b4 b5 b6 b7 b8 : Value} (h : Blk w g t #[a0, a1, a2, a3, a4, a5, a6, a7, a8]) : Blk (((((((((w.setCell ⟨g, 0, none⟩ b0).setCell ⟨g, 1, none⟩ b1).setCell ⟨g, 2, none⟩ b2).setCell ⟨g, 3, none⟩ b3).setCell ⟨g, 4, none⟩ b4).setCell ⟨g, 5, none⟩ b5).setCell ⟨g, 6, none⟩ b6).setCell ⟨g, 7, none⟩ b7).setCell ⟨g, 8, none⟩ b8) g t #[b0, b1, b2, b3, b4, b5, b6, b7, b8] := by
  simpa using ((((((((h.set_ 0 b0).set_ 1 b1).set_ 2 b2).set_ 3 b3).set_ 4 b4).set_ 5 b5).set_ 6 b6).set_ 7 b7).set_ 8 b8
theorem Blk.far9 {w : World} {g k : Nat} {t : TypeId} {cs : Array Value} {b0 b1 b2 b3 b4 b5 b6 b7 b8 : Value} (h : Blk w k t cs) (hk : k ≠ g) : Blk (((((((((w.setCell ⟨g, 0, none⟩ b0).setCell ⟨g, 1, none⟩ b1).setCell ⟨g, 2, none⟩ b2).setCell ⟨g, 3, none⟩ b3).setCell ⟨g, 4, none⟩ b4).setCell ⟨g, 5, none⟩ b5).setCell ⟨g, 6, none⟩ b6).setCell ⟨g, 7, none⟩ b7).setCell ⟨g, 8, none⟩ b8) k t cs :=
  ((((((((h.far (p := ⟨g, 0, none⟩) hk b0).far (p := ⟨g, 1, none⟩) hk b1).far (p := ⟨g, 2, none⟩) hk b2).far (p := ⟨g, 3, none⟩) hk b3).far (p := ⟨g, 4, none⟩) hk b4).far (p := ⟨g, 5, none⟩) hk b5).far (p := ⟨g, 6, none⟩) hk b6).far (p := ⟨g, 7, none⟩) hk b7).far (p := ⟨g, 8, none⟩) hk b8
theorem Below.put9 {B g : Nat} {w0 w : World} {b0 b1 b2 b3 b4 b5 b6 b7 b8 : Value} (h : Below B w0 w) (hB : B ≤ g) : Below B w0 (((((((((w.setCell ⟨g, 0, none⟩ b0).setCell ⟨g, 1, none⟩ b1).setCell ⟨g, 2, none⟩ b2).setCell ⟨g, 3, none⟩ b3).setCell ⟨g, 4, none⟩ b4).setCell ⟨g, 5, none⟩ b5).setCell ⟨g, 6, none⟩ b6).setCell ⟨g, 7, none⟩ b7).setCell ⟨g, 8, none⟩ b8) :=
  ((((((((h.setCell (p := ⟨g, 0, none⟩) hB b0).setCell (p := ⟨g, 1, none⟩) hB b1).setCell (p := ⟨g, 2, none⟩) hB b2).setCell (p := ⟨g, 3, none⟩) hB b3).setCell (p := ⟨g, 4, none⟩) hB b4).setCell (p := ⟨g, 5, none⟩) hB b5).setCell (p := ⟨g, 6, none⟩) hB b6).setCell (p := ⟨g, 7, none⟩) hB b7).setCell (p := ⟨g, 8, none⟩) hB b8
theorem nod_get {l : Int} {r : List Int} {j : Nat} (h : j < r.length) : (nodC ⟨l, r⟩).toArray[1 + j]? = some (.int .i32 (ig r j)) := by
  simp [nodC, ig, Nat.add_comm 1 j, h]
theorem pad_step {l y : Int} {ys : List Int} (h : ys.length < 8) : (nodC (padN l ys)).toArray.setIfInBounds (1 + ys.length) (.int .i32 y) = (nodC (padN l (ys ++ [y]))).toArray := by
  obtain ⟨k, hk⟩ : ∃ k, 8 - ys.length = k + 1 := ⟨8 - ys.length - 1, by omega⟩
  have hk2 : 8 - (ys ++ [y]).length = k := by simp; omega
  unfold padN nodC
  simp only [hk, hk2, List.replicate_succ]
  rw [Nat.add_comm]
  simp [List.set_append]
theorem pad_at {l : Int} {ys : List Int} {j : Nat} (hl : ys.length = j) (h : j < 8) : ∃ x, (nodC (padN l ys)).toArray[1 + j]? = some x := by
  have hl9 : (nodC (padN l ys)).length = 9 := by simp [nodC, padN]; omega
  have hlt9 : 1 + j < (nodC (padN l ys)).toArray.size := by rw [List.size_toArray, hl9]; omega
  exact ⟨_, Array.getElem?_eq_getElem hlt9⟩
theorem zip_at {xs ys : List Int} {sn j : Nat} (hx : j < xs.length) (hy : j < ys.length) (hj : j < sn) : ((xs.zip ys).take sn)[j]? = some (ig xs j, ig ys j) := by
  rw [List.getElem?_take, if_pos hj, List.getElem?_zip_eq_some]
  simp [ig, hx, hy]

set_option maxRecDepth 100000 in
set_option maxHeartbeats 16000000 in
theorem cv_go {vf : Int → Int → Int} {gW gV : FuncId} {cw : Array Value} {Vs : World → Prop} {dead : Nat → Prop} {sn most k xf xw xc xm xv mb fb : Nat} {w : World} {T : Nat → Prop} {S S1 : Cs} {a c r : Int} {x y : Ndv} {next : List Int} {L2 : List Ndv} (hs1 : 2 ≤ sn) (hs2 : sn ≤ 8)
    (V : Vfn vf gW cw Vs dead) (egV : ∀ args w, (callFunc gV args).run Tryd.prog w = .ok (.enter gV args) w)
    (IH : ∀ (p : Int × Int) (r : Int) (S S' : Cs) (w : World) (T : Nat → Prop), I32 p.1 → I32 p.2 → combF sn most vf k p S = some (r, S') → Cst sn most Vs dead ⟨xf, xw, xc, xm, xv, mb, fb, .func (.func gW) #[] cw, .func (.func gV) #[] #[.pointer (some ⟨xf, 0, none⟩), .pointer (some ⟨xw, 0, none⟩), .pointer (some ⟨xc, 0, none⟩), .pointer (some ⟨xm, 0, none⟩), .pointer (some ⟨xv, 0, none⟩)]⟩ w T S →
      Calls Tryd.prog gV #[.int .i32 p.1, .int .i32 p.2, .pointer (some ⟨xf, 0, none⟩), .pointer (some ⟨xw, 0, none⟩), .pointer (some ⟨xc, 0, none⟩), .pointer (some ⟨xm, 0, none⟩), .pointer (some ⟨xv, 0, none⟩)] w fun e w' => VcOut sn most Vs dead ⟨xf, xw, xc, xm, xv, mb, fb, .func (.func gW) #[] cw, .func (.func gV) #[] #[.pointer (some ⟨xf, 0, none⟩), .pointer (some ⟨xw, 0, none⟩), .pointer (some ⟨xc, 0, none⟩), .pointer (some ⟨xm, 0, none⟩), .pointer (some ⟨xv, 0, none⟩)]⟩ w T r S' e w')
    (ha : I32 a) (hc : I32 c) (hlt : ¬ min a c < (sn : Int)) (h : Cst sn most Vs dead ⟨xf, xw, xc, xm, xv, mb, fb, .func (.func gW) #[] cw, .func (.func gV) #[] #[.pointer (some ⟨xf, 0, none⟩), .pointer (some ⟨xw, 0, none⟩), .pointer (some ⟨xc, 0, none⟩), .pointer (some ⟨xm, 0, none⟩), .pointer (some ⟨xv, 0, none⟩)]⟩ w T S) (hf : S.M.lookup (a, c) = none) (ho : ¬ most < S.M.length)
    (hx : nodeF (sn : Int) S.L a = some x) (hy : nodeF (sn : Int) S.L c = some y) (hr : rowF (combF sn most vf k) ((x.r.zip y.r).take sn) S = some (next, S1)) (hf1 : S1.M.lookup (a, c) = none) (had : addF (sn : Int) S1.L (padN x.lv next) = some (r, L2)) :
    Calls Tryd.prog 86 #[.int .i32 a, .int .i32 c, .pointer (some ⟨xf, 0, none⟩), .pointer (some ⟨xw, 0, none⟩), .pointer (some ⟨xc, 0, none⟩), .pointer (some ⟨xm, 0, none⟩), .pointer (some ⟨xv, 0, none⟩)] w fun e w' => VcOut sn most Vs dead ⟨xf, xw, xc, xm, xv, mb, fb, .func (.func gW) #[] cw, .func (.func gV) #[] #[.pointer (some ⟨xf, 0, none⟩), .pointer (some ⟨xw, 0, none⟩), .pointer (some ⟨xc, 0, none⟩), .pointer (some ⟨xm, 0, none⟩), .pointer (some ⟨xv, 0, none⟩)]⟩ w T r ⟨L2, ((a, c), r) :: S1.M⟩ e w' := by
  obtain ⟨b, hb⟩ : ∃ b : CB, b = ⟨xf, xw, xc, xm, xv, mb, fb, .func (.func gW) #[] cw, .func (.func gV) #[] #[.pointer (some ⟨xf, 0, none⟩), .pointer (some ⟨xw, 0, none⟩), .pointer (some ⟨xc, 0, none⟩), .pointer (some ⟨xm, 0, none⟩), .pointer (some ⟨xv, 0, none⟩)]⟩ := ⟨_, rfl⟩
  rw [← hb] at IH h ⊢
  obtain ⟨b1, b2, b3, b4, b5, b6, b7, b8, b9⟩ : b.xf = xf ∧ b.xw = xw ∧ b.xc = xc ∧ b.xm = xm ∧ b.xv = xv ∧ b.mb = mb ∧ b.fb = fb ∧ b.wv = .func (.func gW) #[] cw ∧ b.vv = .func (.func gV) #[] #[.pointer (some ⟨xf, 0, none⟩), .pointer (some ⟨xw, 0, none⟩), .pointer (some ⟨xc, 0, none⟩), .pointer (some ⟨xm, 0, none⟩), .pointer (some ⟨xv, 0, none⟩)] := by subst hb; exact ⟨rfl, rfl, rfl, rfl, rfl, rfl, rfl, rfl, rfl⟩
  clear hb
  obtain ⟨G, k1, k2⟩ := h.rest
  have hX := k1.st2.2.2.2.2.1 x (nodeF_mem hx)
  have hY := k1.st2.2.2.2.2.1 y (nodeF_mem hy)
  have lk := com_look h.map (p := (a, c)) ha hc
  rw [hf, b6] at lk
  simp only at lk
  have hlen := fun ty => h.map.len Tryd.underlying126 ty
  rw [b6] at hlen
  have kf := h.cf
  rw [b1, b7] at kf
  have kc := h.cc
  rw [b3, b6] at kc
  have km := h.cm
  rw [b4] at km
  obtain ⟨f0, f1, f2⟩ := kf.one
  obtain ⟨c0, c1, c2⟩ := kc.one
  obtain ⟨m0, m1, m2⟩ := km.one
  obtain ⟨s0, s1, _⟩ := k1.st2
  rw [b7] at s0 s1 k1
  have hm : ∀ (w : World) (ts : Array TypeId) (t : TypeId), (Builtin.min_ ts t #[.int .i32 a, .int .i32 c]).run Tryd.prog w = .ok (.int .i32 (min a c)) w := fun w ts t => run_min2 w ts t .i32 a c
  have hmr : -2147483648 ≤ min a c ∧ min a c < 2147483648 := by
    obtain ⟨a1, a2⟩ := ha
    obtain ⟨c1, c2⟩ := hc
    omega
  generalize min a c = m at hm hlt hmr
  have cc1 : IntKind.i64.wrap m = m := IntWalk.i64_in _ ⟨by omega, by omega⟩
  have d1 : decide (m < (sn : Int)) = false := by rw [decide_eq_false_iff_not]; exact hlt
  have d2 : decide ((most : Int) < (S.M.length : Int)) = false := by rw [decide_eq_false_iff_not]; omega
  have C1 := Lib.hid (fun p : LowW w.heap.size w => node_any (k1.below p.below) hx)
  have C2 := Lib.hid (fun p : LowW w.heap.size w => node_any (k1.below p.below) hy)
  have f0p := fun p : LowW w.heap.size w => LowW.cell f2 f0 p
  obtain ⟨lx, xr⟩ := x
  obtain ⟨ly, yr⟩ := y
  obtain ⟨x1, x2, x3, x4, x5, x6, x7, x8, rfl⟩ := oct hX.2.2.1
  obtain ⟨y1, y2, y3, y4, y5, y6, y7, y8, rfl⟩ := oct hY.2.2.1
  simp only [nodV_eight] at C1 C2
  have H := Lib.hid h
  have VV := Lib.hid V
  have HX := Lib.hid hX
  have HY := Lib.hid hY
  have IHH := Lib.hid IH
  have HR := Lib.hid hr
  have HA := Lib.hid ha
  have HC := Lib.hid hc
  have HF1 := Lib.hid hf1
  have HAD := Lib.hid had
  clear h V hX hY IH hr ha hc hf hf1 had hx hy kf kc km k1 k2
  go_enter Tryd.func86, Tryd.ntmps86
  go_wp2
  refine wp_region_mix 6 2 (by kernel_rfl) (by kernel_rfl) ?_
  simp only [List.take_succ_cons, List.take_zero, List.drop_succ_cons, List.drop_zero]
  repeat (refine wpG_step (fun K hK => ?_); go_simp; first | (refine hK _ ?_; clear hK K) | (apply Exists.intro; refine ⟨fun _ => ?_, hK _ ?_⟩; (first | (go_at_call 65; with_reducible exact C1.out _) | (go_at_call 65; with_reducible exact C2.out _)); clear hK K))
  refine wpG_nil ?_
  refine ⟨90, #[.int .i64 0, .int .i32 0, .int .i32 0, .int .i32 0, .int .i32 0, .int .i32 0, .int .i32 0, .int .i32 0, .int .i32 0], ⟨fun _ => rfl, fun a w => by kernel_rfl⟩, fun ga => ?_⟩
  refine ⟨90, #[.int .i64 0, .int .i32 0, .int .i32 0, .int .i32 0, .int .i32 0, .int .i32 0, .int .i32 0, .int .i32 0, .int .i32 0], ⟨fun _ => rfl, fun a w => by kernel_rfl⟩, fun gb => ?_⟩
  intro w3 hw3
  have P6 := (hw3.blk _ (.tail _ (.head _))).1
  have P7 := (hw3.blk _ (.head _)).1
  have la : w.heap.size ≤ ga := (hw3.blk _ (.tail _ (.head _))).2
  have lb : w.heap.size ≤ gb := (hw3.blk _ (.head _)).2
  have hne : gb ≠ ga := by have := hw3.apart; simp at this; exact this
  have B3 := Lib.hid hw3.low
  clear hw3 f0p
  simp only at P6 P7
  have S6 := Lib.hid P6
  have S7 := Lib.hid P7
  obtain ⟨p0, p1, p2, p3, p4, p5, p6, p7, p8⟩ := P6.nine
  obtain ⟨q0, q1, q2, q3, q4, q5, q6, q7, q8⟩ := P7.nine
  have fp0 := S6.out.frozen 0
  have fq0 := S7.out.frozen 0
  have fp1 := S6.out.frozen 1
  have fq1 := S7.out.frozen 1
  have fp2 := S6.out.frozen 2
  have fq2 := S7.out.frozen 2
  have fp3 := S6.out.frozen 3
  have fq3 := S7.out.frozen 3
  have fp4 := S6.out.frozen 4
  have fq4 := S7.out.frozen 4
  have fp5 := S6.out.frozen 5
  have fq5 := S7.out.frozen 5
  have fp6 := S6.out.frozen 6
  have fq6 := S7.out.frozen 6
  have fp7 := S6.out.frozen 7
  have fq7 := S7.out.frozen 7
  have fp8 := S6.out.frozen 8
  have fq8 := S7.out.frozen 8
  clear P6 P7
  go_upto_region 7 with (fail)
  have KX := (Blk.put9 S6.out (b0 := .int .i64 lx) (b1 := .int .i32 x1) (b2 := .int .i32 x2) (b3 := .int .i32 x3) (b4 := .int .i32 x4) (b5 := .int .i32 x5) (b6 := .int .i32 x6) (b7 := .int .i32 x7) (b8 := .int .i32 x8)).far9 (g := gb) (b0 := .int .i64 ly) (b1 := .int .i32 y1) (b2 := .int .i32 y2) (b3 := .int .i32 y3) (b4 := .int .i32 y4) (b5 := .int .i32 y5) (b6 := .int .i32 y6) (b7 := .int .i32 y7) (b8 := .int .i32 y8) (Ne.symm hne)
  have KY := (S7.out.far9 (g := ga) (b0 := .int .i64 lx) (b1 := .int .i32 x1) (b2 := .int .i32 x2) (b3 := .int .i32 x3) (b4 := .int .i32 x4) (b5 := .int .i32 x5) (b6 := .int .i32 x6) (b7 := .int .i32 x7) (b8 := .int .i32 x8) hne).put9 (b0 := .int .i64 ly) (b1 := .int .i32 y1) (b2 := .int .i32 y2) (b3 := .int .i32 y3) (b4 := .int .i32 y4) (b5 := .int .i32 y5) (b6 := .int .i32 y6) (b7 := .int .i32 y7) (b8 := .int .i32 y8)
  have BW := Below.put9 (g := gb) (b0 := .int .i64 ly) (b1 := .int .i32 y1) (b2 := .int .i32 y2) (b3 := .int .i32 y3) (b4 := .int .i32 y4) (b5 := .int .i32 y5) (b6 := .int .i32 y6) (b7 := .int .i32 y7) (b8 := .int .i32 y8) (Below.put9 (g := ga) (b0 := .int .i64 lx) (b1 := .int .i32 x1) (b2 := .int .i32 x2) (b3 := .int .i32 x3) (b4 := .int .i32 x4) (b5 := .int .i32 x5) (b6 := .int .i32 x6) (b7 := .int .i32 x7) (b8 := .int .i32 x8) B3.out la) lb
  clear p0 q0 fp0 fq0 p1 q1 fp1 fq1 p2 q2 fp2 fq2 p3 q3 fp3 fq3 p4 q4 fp4 fq4 p5 q5 fp5 fq5 p6 q6 fp6 fq6 p7 q7 fp7 fq7 p8 q8 fp8 fq8
  generalize ((((((((((((((((((w3.setCell ⟨ga, 0, none⟩ (.int .i64 lx)).setCell ⟨ga, 1, none⟩ (.int .i32 x1)).setCell ⟨ga, 2, none⟩ (.int .i32 x2)).setCell ⟨ga, 3, none⟩ (.int .i32 x3)).setCell ⟨ga, 4, none⟩ (.int .i32 x4)).setCell ⟨ga, 5, none⟩ (.int .i32 x5)).setCell ⟨ga, 6, none⟩ (.int .i32 x6)).setCell ⟨ga, 7, none⟩ (.int .i32 x7)).setCell ⟨ga, 8, none⟩ (.int .i32 x8)).setCell ⟨gb, 0, none⟩ (.int .i64 ly)).setCell ⟨gb, 1, none⟩ (.int .i32 y1)).setCell ⟨gb, 2, none⟩ (.int .i32 y2)).setCell ⟨gb, 3, none⟩ (.int .i32 y3)).setCell ⟨gb, 4, none⟩ (.int .i32 y4)).setCell ⟨gb, 5, none⟩ (.int .i32 y5)).setCell ⟨gb, 6, none⟩ (.int .i32 y6)).setCell ⟨gb, 7, none⟩ (.int .i32 y7)).setCell ⟨gb, 8, none⟩ (.int .i32 y8)) = w4 at KX KY BW ⊢
  obtain ⟨p0, p1, p2, p3, p4, p5, p6, p7, p8⟩ := KX.nine
  have KX := Lib.hid KX
  have KY := Lib.hid KY
  have BW := Lib.hid BW
  clear S6 S7 B3 lk hlen
  have f40 := (BW.out.cell (p := ⟨xf, 0, none⟩) f2).trans f0
  have s40 := (BW.out.cell (p := ⟨fb, 0, none⟩) s1).trans s0
  have s41 : fb < w4.heap.size := Nat.lt_of_lt_of_le s1 BW.out.size
  have f42 : xf < w4.heap.size := Nat.lt_of_lt_of_le f2 BW.out.size
  clear f0 f1 s0 c0 c1 m0 m1
  go_wp2
  have BO := Lib.hid (BW.out.alloc (Nat.le_trans (Nat.le_refl _) BW.out.size) (.cells #[.int .i64 lx, .int .i32 0, .int .i32 0, .int .i32 0, .int .i32 0, .int .i32 0, .int .i32 0, .int .i32 0, .int .i32 0] 90))
  have KXO := Lib.hid (KX.out.alloc (.cells #[.int .i64 lx, .int .i32 0, .int .i32 0, .int .i32 0, .int .i32 0, .int .i32 0, .int .i32 0, .int .i32 0, .int .i32 0] 90))
  have KYO := Lib.hid (KY.out.alloc (.cells #[.int .i64 lx, .int .i32 0, .int .i32 0, .int .i32 0, .int .i32 0, .int .i32 0, .int .i32 0, .int .i32 0, .int .i32 0] 90))
  have KOO := Lib.hid (Blk.new w4 90 #[.int .i64 lx, .int .i32 0, .int .i32 0, .int .i32 0, .int .i32 0, .int .i32 0, .int .i32 0, .int .i32 0, .int .i32 0])
  have hga : ga < w4.heap.size := KX.out.lt
  have hgb : gb < w4.heap.size := KY.out.lt
  have hwl : w.heap.size ≤ w4.heap.size := BW.out.size
  clear p0 p1 p2 p3 p4 p5 p6 p7 p8 f40 s40 s41 f42
  go_loopw [59] (fun jv wr => ∃ (j : Nat) (ys : List Int) (Sj : Cs) (Tj : Nat → Prop), j ≤ sn ∧ jv = .int .i64 (j : Int) ∧ ys.length = j ∧ rowF (combF sn most vf k) (((([x1, x2, x3, x4, x5, x6, x7, x8] : List Int).zip [y1, y2, y3, y4, y5, y6, y7, y8]).take sn).take j) S = some (ys, Sj) ∧
    Cst sn most Vs dead b wr Tj Sj ∧ Fr T w Tj wr ∧ (∀ x ∈ ys, I32 x) ∧ ¬ Tj ga ∧ ¬ Tj gb ∧ ¬ Tj w4.heap.size ∧ Blk wr ga 90 (nodC ⟨lx, [x1, x2, x3, x4, x5, x6, x7, x8]⟩).toArray ∧ Blk wr gb 90 (nodC ⟨ly, [y1, y2, y3, y4, y5, y6, y7, y8]⟩).toArray ∧ Blk wr w4.heap.size 90 (nodC (padN lx ys)).toArray) (fun jv _ => sn - (intOf jv).toNat)
  case atStart =>
    refine ⟨0, [], S, T, Nat.zero_le _, rfl, rfl, rfl, H.out.below VV.out BO.out, Fr.of_below BO.out, by simp, fun h => ?_, fun h => ?_, fun h => ?_, KXO.out, KYO.out, KOO.out⟩
    · have := H.out.lt _ h; omega
    · have := H.out.lt _ h; omega
    · have := H.out.lt _ h; omega
  case round =>
    obtain ⟨j, ys, Sj, Tj, hj, rfl, hyl, hrow, hw, hfr, hyi, ht1, ht2, ht3, hkx, hky, hko⟩ := hrel
    have HW := Lib.hid hw
    have HF := Lib.hid hfr
    have HYI := Lib.hid hyi
    have HKX := Lib.hid hkx
    have HKY := Lib.hid hky
    have HKO := Lib.hid hko
    have HYL := Lib.hid hyl
    have HT1 := Lib.hid ht1
    have HT2 := Lib.hid ht2
    have HT3 := Lib.hid ht3
    have HROW := Lib.hid hrow
    have hol : w4.heap.size < wr.heap.size := hko.lt
    clear hw hfr hkx hky hko ht1 ht2 ht3 hrow hyl hyi
    by_cases hjn : j < sn
    · have d3 : decide ((j : Int) < (sn : Int)) = true := by rw [decide_eq_true_iff]; omega
      have i0 : (0 : Int) ≤ (j : Int) := by omega
      have i1 : (j : Int) < 8 := by omega
      have hj8 : j < 8 := by omega
      have hzip := zip_at (xs := [x1, x2, x3, x4, x5, x6, x7, x8]) (ys := [y1, y2, y3, y4, y5, y6, y7, y8]) (sn := sn) (j := j) (by simpa using hj8) (by simpa using hj8) hjn
      obtain ⟨y, zs', t1, t2, q1, q2, q3⟩ := rowF_at HR.out hzip
      have hqq := HROW.out.symm.trans q1
      simp only [Option.some.injEq, Prod.mk.injEq] at hqq
      obtain ⟨rfl, rfl⟩ := hqq
      have hxi : I32 (ig ([x1, x2, x3, x4, x5, x6, x7, x8] : List Int) j) := HX.out.2.2.2 _ (ig_mem (by simpa using hj8))
      have hyi : I32 (ig ([y1, y2, y3, y4, y5, y6, y7, y8] : List Int) j) := HY.out.2.2.2 _ (ig_mem (by simpa using hj8))
      have CC := Lib.hid (IHH.out _ _ _ _ wr.drew Tj hxi hyi q2 (HW.out.below VV.out ((Below.refl wr.heap.size wr).drew)))
      have kv := HW.out.cv
      rw [b5, b9] at kv
      obtain ⟨v0, v1, v2⟩ := kv.one
      have kx := (HKX.out.cell (1 + j)).trans (nod_get (l := lx) (r := [x1, x2, x3, x4, x5, x6, x7, x8]) (by simpa using hj8))
      have ky := (HKY.out.cell (1 + j)).trans (nod_get (l := ly) (r := [y1, y2, y3, y4, y5, y6, y7, y8]) (by simpa using hj8))
      have Q3 := Lib.hid q3
      generalize ig ([x1, x2, x3, x4, x5, x6, x7, x8] : List Int) j = xj at CC kx
      generalize ig ([y1, y2, y3, y4, y5, y6, y7, y8] : List Int) j = yj at CC ky
      obtain ⟨pz, hpz⟩ := pad_at (l := lx) HYL.out hj8
      have PZ := Lib.hid hpz
      clear q1 q2 q3 hxi hyi kv hzip hpz
      simp only at CC
      go_wp2
      go_region_with ((with_reducible refine (CC.out).mono ?_); rintro e w5 ⟨T5, rfl, hyr, hW5, hF5⟩; have W5 := Lib.hid hW5; have F5 := Lib.hid hF5; have YR := Lib.hid hyr; have KX5 := Lib.hid (F5.out.blk (show Blk wr.drew _ _ _ from HKX.out) HT1.out); have KY5 := Lib.hid (F5.out.blk (show Blk wr.drew _ _ _ from HKY.out) HT2.out); have KO5 := Lib.hid (F5.out.blk (show Blk wr.drew _ _ _ from HKO.out) HT3.out); have z0 := (KO5.out.cell (1 + j)).trans PZ.out; have z1 := KO5.out.frozen (1 + j); clear hW5 hF5 hyr)
      all_goals
        have hw5l : wr.heap.size ≤ w5.heap.size := F5.out.size
        have hN := Lib.hid F5.out.new
        have hgal : ga < wr.heap.size := HKX.out.lt
        have hgbl : gb < wr.heap.size := HKY.out.lt
        have t51 : ¬ T5 ga := fun h => (hN.out _ h).elim HT1.out (fun h' => by have h' : wr.heap.size ≤ ga := h'; omega)
        have t52 : ¬ T5 gb := fun h => (hN.out _ h).elim HT2.out (fun h' => by have h' : wr.heap.size ≤ gb := h'; omega)
        have t53 : ¬ T5 w4.heap.size := fun h => (hN.out _ h).elim HT3.out (fun h' => by have h' : wr.heap.size ≤ w4.heap.size := h'; omega)
        have W6 := Lib.hid (W5.out.keep VV.out (Fr.set_ (G := fun k => k = w4.heap.size) w5 (p := ⟨w4.heap.size, 1 + j, none⟩) (.int .i32 y) rfl) (fun k hk e => t53 (e ▸ hk)) (fun k hk e => by have := H.out.clt k hk; omega) (fun k hk e => by have := VV.out.lt H.out.vs k hk; omega))
        have F6 := Lib.hid ((HF.out.trans (show Fr Tj wr T5 w5 from ⟨F5.out.os, F5.out.tape, F5.out.output, F5.out.size, F5.out.block, F5.out.new⟩)).set_new (p := ⟨w4.heap.size, 1 + j, none⟩) hwl (.int .i32 y))
        have KO6 := KO5.out.set_ (1 + j) (.int .i32 y)
        have hy2 := HYL.out
        rw [← hy2, pad_step (by omega), hy2] at KO6
        have KO6 := Lib.hid KO6
        have KX6 := Lib.hid (KX5.out.far (p := ⟨w4.heap.size, 1 + j, none⟩) (by show ga ≠ w4.heap.size; omega) (.int .i32 y))
        have KY6 := Lib.hid (KY5.out.far (p := ⟨w4.heap.size, 1 + j, none⟩) (by show gb ≠ w4.heap.size; omega) (.int .i32 y))
        have YI6 := Lib.hid (show ∀ x ∈ ys ++ [y], I32 x from fun x hx => by
          rcases List.mem_append.1 hx with hx | hx
          · exact HYI.out x hx
          · simp at hx; subst hx; exact YR.out)
        clear z0 z1 hy2 hN
        generalize w5.setCell ⟨w4.heap.size, 1 + j, none⟩ (.int .i32 y) = w6 at W6 F6 KX6 KY6 KO6 ⊢
        go_wp2
        go_roundw
        case rel => exact ⟨j + 1, ys ++ [y], t2, T5, by omega, by go_num, by simp [HYL.out], Q3.out, W6.out, F6.out, YI6.out, t51, t52, t53, KX6.out, KY6.out, KO6.out⟩
        case measure => simp [intOf]; omega
    · obtain rfl : j = sn := by omega
      have d3 : decide ((j : Int) < (j : Int)) = false := by rw [decide_eq_false_iff_not]; omega
      have hrow := HROW.out
      rw [List.take_of_length_le (by simp; omega)] at hrow
      have hqq := HR.out.symm.trans hrow
      simp only [Option.some.injEq, Prod.mk.injEq] at hqq
      obtain ⟨rfl, rfl⟩ := hqq
      have hlen8 : (padN lx next).r.length = 8 := by simp [padN, HYL.out]; omega
      have hn8 : Nd8 (padN lx next) := ⟨HX.out.1, HX.out.2.1, hlen8, fun x hx => by
        rcases List.mem_append.1 (show x ∈ next ++ List.replicate (8 - next.length) 0 from hx) with hx | hx
        · exact HYI.out x hx
        · have := List.eq_of_mem_replicate hx; omega⟩
      obtain ⟨Gr, hfo, hgrow⟩ := HW.out.grow VV.out
      have hrg := addF_rng HAD.out (by omega) hfo.st2.2.2.2.2.2.2.2
      have C := add_any hfo hn8 HAD.out
      obtain ⟨u1, u2, u3, u4, u5, u6, u7, u8, hpn⟩ := nodV_len9 hlen8
      have hpn : padN lx next = ⟨lx, [u1, u2, u3, u4, u5, u6, u7, u8]⟩ := hpn
      have hko := HKO.out
      rw [hpn] at hko
      obtain ⟨v0, v1, v2, v3, v4, v5, v6, v7, v8⟩ := Blk.nine (t := 90) (show Blk wr w4.heap.size _ #[.int .i64 lx, .int .i32 u1, .int .i32 u2, .int .i32 u3, .int .i32 u4, .int .i32 u5, .int .i32 u6, .int .i32 u7, .int .i32 u8] from hko)
      rw [hpn, nodV_eight, b7] at C
      have CH := Lib.hid C
      have GR := Lib.hid hgrow
      have RI := Lib.hid (show I32 r from ⟨by omega, by omega⟩)
      have kf := HW.out.cf
      rw [b1, b7] at kf
      obtain ⟨f0, f1, f2'⟩ := kf.one
      obtain ⟨kl, hkl⟩ := key_pair (p := (a, c)) HA.out HC.out
      have KL := Lib.hid hkl
      clear hko C hn8 hlen8 hfo hgrow hrg kf hpn hkl hrow
      go_wp2_with (go_at_call 59; (with_reducible refine (CH.out).mono ?_); rintro e w5 ⟨G5, rfl, hF5, hR5⟩; rw [← b7] at hF5; obtain ⟨W5, F5⟩ := GR.out w5 G5 L2 hF5 hR5; obtain ⟨w6, hr6, hm6, hs6, hf6⟩ := MapN.store W5.map Tryd.keyPair Tryd.underlying126 r KL.out HF1.out (fun y _ _ e => pairV_inj e); have W6 := Lib.hid (W5.put VV.out hm6 RI.out hf6); have F6 := Lib.hid (F5.trans (hf6.weak (fun k e => e ▸ W5.tm) (fun k h => .inl h))); have kc5 := W5.cc; rw [b3, b6] at kc5; obtain ⟨g0, g1, g2⟩ := kc5.one; rw [b6] at hr6; simp only [pairV] at hr6; clear W5 F5 hm6 hs6 hf6 hF5 hR5 kc5)
      go_ret
      exact ⟨_, rfl, RI.out, W6.out, HF.out.trans F6.out⟩
end Go.Proofs.YthgnjjpkmikokaaDoor
