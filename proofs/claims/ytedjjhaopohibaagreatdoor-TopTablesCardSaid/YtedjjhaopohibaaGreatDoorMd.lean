/- The walks of point.Compare, said so: it draws, it lays blocks, and it turns nothing else. -/
/- The bodies of the library's sort of positions lie in this program as the library's own contract asks: facts that the kernel compares, and nothing else. -/
/- The walk of rightRow. -/
/- The walk of slices.SortFunc on positions by point.Compare, at every length: by the library's own contract of the sort. -/
/- The walk of slices.Clone, slices.Compact, point.Sort and image. -/
/- The walks of Compact and point.Sort on positions that are all different, and of image. -/
/- The walks of image and Syms on valid neighbourhoods. -/
/- The walk of Syms on valid neighbourhoods, and of the reference's Same on lists of numbers. -/
import Derived.Test.YtedjjhaopohibaaGreatDoorMa
import Derived.Sort.Grow
import Derived.Shelf.SlLaysF0
import Derived.Test.YtedjjhaopohibaaGreatDoorMc
import Derived.Test.YtedjjhaopohibaaGreatDoorMb
import Derived.LoopN
import Derived.Shelf.SlSortCmp.WholeK
import Derived.Lib.SliceRun
namespace Go.Proofs.YtedjjhaopohibaaGreatDoor
open Go.RowKit

/-- w' is w some draws later, with some blocks laid behind it -/
def Grown (w w' : World) : Prop := ∃ q os, w' = Go.Sort.grow (w.drewN q) os
section
variable {w w1 w2 : World}
theorem Grown.refl (w : World) : Grown w w := ⟨0, #[], by rw [Go.Sort.grow_empty]; rfl⟩
theorem Grown.trans (h : Grown w w1) (h' : Grown w1 w2) : Grown w w2 := by
  obtain ⟨q, os, rfl⟩ := h
  obtain ⟨q', os', rfl⟩ := h'
  exact ⟨q + q', os ++ os', by show Go.Sort.grow (Go.Sort.grow ((w.drewN q).drewN q') os) os' = _; rw [Go.Sort.grow_grow, World.drewN_drewN]⟩
theorem Grown.alloc (h : Grown w w1) (o : Obj) : Grown w (w1.alloc o) := h.trans ⟨0, #[o], by rw [Go.Sort.alloc_eq_grow]; rfl⟩
theorem Grown.drew (h : Grown w w1) : Grown w w1.drew := h.trans ⟨1, #[], by rw [Go.Sort.grow_empty]; rfl⟩
theorem Grown.below (h : Grown w w1) : Below w.heap.size w w1 := by
  obtain ⟨q, os, rfl⟩ := h
  refine ⟨rfl, rfl, rfl, ?_, fun g hg => ?_⟩
  · rw [Go.Sort.size_grow]; exact Nat.le_add_right _ _
  · show ((w.drewN q).heap ++ os)[g]? = _
    rw [Array.getElem?_append_left (by exact hg)]
    rfl
end

/-- a world some draws and blocks behind w0 -/
structure GrW (w0 : World) where
  w : World
  grown : Grown w0 w
instance (w0 : World) : Inhabited (GrW w0) := ⟨⟨w0, Grown.refl w0⟩⟩
theorem GrW.of_call {P : Program} {w0 : World} (p : GrW w0) {f : FuncId} {args : Array Value} {v : Value} (h : Calls P f args p.w fun e w' => e = .returned v ∧ Grown p.w w') :
    Calls P f args p.w fun e w'' => e = .returned v ∧ ∃ q : GrW w0, w'' = q.w :=
  h.mono fun _ w' ⟨he, hb⟩ => ⟨he, ⟨w', p.grown.trans hb⟩, rfl⟩
theorem GrW.cell {w0 : World} {a : Addr} {v : Value} (hb : a.block < w0.heap.size) (h : w0.cell? a = some v) (p : GrW w0) : p.w.cell? a = some v := (p.grown.below.cell hb).trans h
theorem wp_region_grow {P : Program} {id : Nat} {Q : Exit → Act → World → Prop} {a : Act} {w : World} {l : List Oper} (w0 : World) (hm : P.follows .mixedOrders = true) (hB : Region.lexB .any l.toArray = true) (h0 : Grown w0 w)
    (h : wpQuiet P l.toArray (fun w' => ∃ p : GrW w0, w' = p.w) (fun a' => ∀ w', (∃ p : GrW w0, w' = p.w) → Q .normal a' w') l a) : (Code.region id l.toArray true).wp P Q a w :=
  wp_region_quiet (C := fun w' => ∃ p : GrW w0, w' = p.w) hm hB ⟨⟨w.drew, h0.drew⟩, rfl⟩ (by simpa using h)
theorem wp_region_grow_tail {P : Program} {id : Nat} {Q : Exit → Act → World → Prop} {a : Act} {w : World} {l : List Oper} (w0 : World) (n : Nat) (hm : P.follows .mixedOrders = true) (hB : Region.lexTailB .any l.toArray n = true) (h0 : Grown w0 w)
    (h : wpQuiet P l.toArray (fun w' => ∃ p : GrW w0, w' = p.w) (fun a' => ∀ w', (∃ p : GrW w0, w' = p.w) → wpList P l.toArray Q (l.drop n) a' w') (l.take n) a) : (Code.region id l.toArray true).wp P Q a w :=
  wp_region_quiet_tail (fun w' => ∃ p : GrW w0, w' = p.w) n hm hB ⟨⟨w.drew, h0.drew⟩, rfl⟩ h
theorem grown_quiet {P : Program} {f : FuncId} {args : Array Value} {w : World} {v : Value} (h : Calls P f args w fun e w' => e = .returned v ∧ w = w') : Calls P f args w fun e w' => e = .returned v ∧ Grown w w' :=
  h.mono fun _ _ ⟨he, hw⟩ => ⟨he, hw ▸ Grown.refl _⟩

set_option maxHeartbeats 1000000 in
theorem pcompare_grow (x y u v : Int) (w : World) :
    Calls Tryz.prog 48 #[.agg #[.int .i64 x, .int .i64 y], .agg #[.int .i64 u, .int .i64 v]] w fun e w' => e = .returned (.int .i64 (or2 (sg y v) (sg x u))) ∧ Grown w w' := by
  have K1 := (Blk.new w 74 #[.int .i64 x, .int .i64 y]).alloc (.cells #[.int .i64 u, .int .i64 v] 74)
  have K2 := Blk.new (w.alloc (.cells #[.int .i64 x, .int .i64 y] 74)) 74 #[.int .i64 u, .int .i64 v]
  rw [show (w.alloc (.cells #[.int .i64 x, .int .i64 y] 74)).heap.size = w.heap.size + 1 by simp] at K2
  have B2 : Grown w ((w.alloc (.cells #[.int .i64 x, .int .i64 y] 74)).alloc (.cells #[.int .i64 u, .int .i64 v] 74)) := ((Grown.refl _).alloc _).alloc _
  have C1 := Lib.hid cmp_any
  go_enter Tryz.func48, Tryz.ntmps48
  go_wp2_with fail
  generalize (w.alloc (.cells #[.int .i64 x, .int .i64 y] 74)).alloc (.cells #[.int .i64 u, .int .i64 v] 74) = w0 at K1 K2 B2 ⊢
  have k10 := fun p : GrW w0 => (K1.below p.grown.below K1.lt).two.1
  have k11 := fun p : GrW w0 => (K1.below p.grown.below K1.lt).two.2.1
  have k20 := fun p : GrW w0 => (K2.below p.grown.below K2.lt).two.1
  have k21 := fun p : GrW w0 => (K2.below p.grown.below K2.lt).two.2.1
  have B2 := Lib.hid B2
  clear K1 K2
  refine wp_region_grow_tail w0 10 (by kernel_rfl) (by kernel_rfl) (Grown.refl _) ?_
  simp only [List.take_succ_cons, List.take_zero, List.drop_succ_cons, List.drop_zero]
  repeat (quiet_step (first | (go_at_call 65; with_reducible exact GrW.of_call _ (grown_quiet (C1.out _ _ _)))))
  refine wpQuiet_nil ?_
  rintro w' ⟨p, rfl⟩
  have PB := Lib.hid p.grown
  clear k10 k11 k20 k21
  generalize p.w = w1 at PB ⊢
  go_wp2_with (go_at_call 64; refine (or_any _ _ _ 3 _ (Blk.new _ _ _)).mono ?_; rintro e w2 ⟨rfl, rfl⟩)
  go_ret
  exact ⟨rfl, (B2.out.trans PB.out).alloc _⟩

end Go.Proofs.YtedjjhaopohibaaGreatDoor
namespace Go.Proofs.YtedjjhaopohibaaGreatDoor
open Go.Shelf

def sortRen : Go.Shelf.Ren := ⟨fun | 14 => 104 | 20 => 111 | 21 => 112 | 22 => 113 | 23 => 114 | 24 => 115 | 25 => 116 | 26 => 117 | 27 => 118 | 46 => 120 | 47 => 106 | 48 => 107 | 49 => 121 | 50 => 122 | 57 => 123 | 15 => 84 | 28 => 101 | 29 => 102 | n => n, fun | 24 => 74 | 22 => 22 | 3 => 3 | 25 => 94 | 4 => 4 | 0 => 0 | 46 => 140 | 45 => 139 | 50 => 48 | 66 => 150 | 39 => 126 | 55 => 148 | 70 => 154 | 76 => 161 | 77 => 162 | 53 => 146 | 5 => 5 | 9 => 9 | n => n, fun n => n⟩
theorem sortLays : SlLaysF0.n14 Tryz.prog sortRen := {
  mixed := by kernel_rfl
  f14 := ⟨Tryz.f104.name, by decide, Tryz.func104.trans (congrArg some (by kernel_rfl))⟩
  f15 := Tryz.func84.trans (congrArg some (by kernel_rfl))
  f20 := ⟨Tryz.f111.name, by decide, Tryz.func111.trans (congrArg some (by kernel_rfl))⟩
  f21 := ⟨Tryz.f112.name, by decide, Tryz.func112.trans (congrArg some (by kernel_rfl))⟩
  f22 := ⟨Tryz.f113.name, by decide, Tryz.func113.trans (congrArg some (by kernel_rfl))⟩
  f23 := ⟨Tryz.f114.name, by decide, Tryz.func114.trans (congrArg some (by kernel_rfl))⟩
  f24 := ⟨Tryz.f115.name, by decide, Tryz.func115.trans (congrArg some (by kernel_rfl))⟩
  f25 := ⟨Tryz.f116.name, by decide, Tryz.func116.trans (congrArg some (by kernel_rfl))⟩
  f26 := ⟨Tryz.f117.name, by decide, Tryz.func117.trans (congrArg some (by kernel_rfl))⟩
  f27 := ⟨Tryz.f118.name, by decide, Tryz.func118.trans (congrArg some (by kernel_rfl))⟩
  f28 := Tryz.func101.trans (congrArg some (by kernel_rfl))
  f29 := Tryz.func102.trans (congrArg some (by kernel_rfl))
  f46 := ⟨Tryz.f120.name, by decide, Tryz.func120.trans (congrArg some (by kernel_rfl))⟩
  f47 := Tryz.func106.trans (congrArg some (by kernel_rfl))
  f48 := Tryz.func107.trans (congrArg some (by kernel_rfl))
  f49 := ⟨Tryz.f121.name, by decide, Tryz.func121.trans (congrArg some (by kernel_rfl))⟩
  f50 := ⟨Tryz.f122.name, by decide, Tryz.func122.trans (congrArg some (by kernel_rfl))⟩
  f57 := ⟨Tryz.f123.name, by decide, Tryz.func123.trans (congrArg some (by kernel_rfl))⟩
  t0 := Tryz.underlying0
  a0 := Tryz.isAgg0
  z0 := Tryz.sizeOf0
  v0 := Tryz.zeroValue0
  t3 := Tryz.underlying3
  a3 := Tryz.isAgg3
  z3 := Tryz.sizeOf3
  v3 := Tryz.zeroValue3
  t4 := Tryz.underlying4
  a4 := Tryz.isAgg4
  z4 := Tryz.sizeOf4
  v4 := Tryz.zeroValue4
  t5 := Tryz.underlying5
  a5 := Tryz.isAgg5
  z5 := Tryz.sizeOf5
  v5 := Tryz.zeroValue5
  t9 := Tryz.underlying9
  a9 := Tryz.isAgg9
  z9 := Tryz.sizeOf9
  v9 := Tryz.zeroValue9
  t22 := Tryz.underlying22
  a22 := Tryz.isAgg22
  z22 := Tryz.sizeOf22
  v22 := Tryz.zeroValue22
  t25 := Tryz.underlying94
  a25 := Tryz.isAgg94
  z25 := Tryz.sizeOf94
  v25 := Tryz.zeroValue94
  t39 := Tryz.underlying126
  a39 := Tryz.isAgg126
  z39 := Tryz.sizeOf126
  v39 := Tryz.zeroValue126
  t45 := Tryz.underlying139
  a45 := Tryz.isAgg139
  z45 := Tryz.sizeOf139
  v45 := Tryz.zeroValue139
  t46 := Tryz.underlying140
  a46 := Tryz.isAgg140
  z46 := Tryz.sizeOf140
  v46 := Tryz.zeroValue140
  t50 := Tryz.underlying48
  a50 := Tryz.isAgg48
  z50 := Tryz.sizeOf48
  v50 := Tryz.zeroValue48
  t53 := Tryz.underlying146
  a53 := Tryz.isAgg146
  z53 := Tryz.sizeOf146
  v53 := Tryz.zeroValue146
  t55 := Tryz.underlying148
  a55 := Tryz.isAgg148
  z55 := Tryz.sizeOf148
  v55 := Tryz.zeroValue148
  t66 := Tryz.underlying150
  a66 := Tryz.isAgg150
  z66 := Tryz.sizeOf150
  v66 := Tryz.zeroValue150
  t70 := Tryz.underlying154
  a70 := Tryz.isAgg154
  z70 := Tryz.sizeOf154
  v70 := Tryz.zeroValue154
  t76 := Tryz.underlying161
  a76 := Tryz.isAgg161
  z76 := Tryz.sizeOf161
  v76 := Tryz.zeroValue161
  t77 := Tryz.underlying162
  a77 := Tryz.isAgg162
  z77 := Tryz.sizeOf162
  v77 := Tryz.zeroValue162 }
end Go.Proofs.YtedjjhaopohibaaGreatDoor
namespace Go.Proofs.YtedjjhaopohibaaGreatDoor
open Go.RowKit

/-- the elements of a row are states or variables -/
def els (st : Int) (nv : Nat) (l : List Int) : Bool := (List.range l.length).all fun i => decide (-(nv : Int) ≤ ig l i) && decide (ig l i < st)
theorem els_iff (st : Int) (nv : Nat) (l : List Int) : els st nv l = true ↔ ∀ i, i < l.length → -(nv : Int) ≤ ig l i ∧ ig l i < st := by
  simp only [els, List.all_eq_true, List.mem_range, Bool.and_eq_true, decide_eq_true_eq]
/-- a row of a table -/
def rr (n : Nat) (st : Int) (nv : Nat) (l : List Int) (o : Int) : Bool := decide (l.length = n) && els st nv l && (sta st o || decide (o ∈ l))

set_option maxRecDepth 100000 in
set_option maxHeartbeats 2000000 in
theorem rightRow_any (st k : Int) (AH : Option Addr) (n cH : Nat) (AV : Option Addr) (nv cV : Nat) (AR : Option Addr) (nr cR : Nat) (AI : Option Addr) (m cI : Nat) (l : List Int) (o : Int) (w : World)
    (h : Reads w w.heap.size AI m (il l)) (hm : m < 9223372036854775808) (hn : n ≤ 1000) (hv : nv ≤ 1000) (hs1 : 0 ≤ st) (hs2 : st ≤ 8) :
    Calls Tryz.prog 28 #[.agg #[.int .i64 st, .int .i64 k, .slice AH n cH, .slice AV nv cV, .slice AR nr cR], .agg #[.slice AI m cI, .int .i64 o]] w fun e w' => e = .returned (.bool (rr n st nv l o)) ∧ Below w.heap.size w w' := by
  have HL := Lib.hid (reads_len h)
  have K1 := (Blk.new w 26 #[.int .i64 st, .int .i64 k, .slice AH n cH, .slice AV nv cV, .slice AR nr cR]).alloc (.cells #[.slice AI m cI, .int .i64 o] 47)
  have K2 := Blk.new (w.alloc (.cells #[.int .i64 st, .int .i64 k, .slice AH n cH, .slice AV nv cV, .slice AR nr cR] 26)) 47 #[.slice AI m cI, .int .i64 o]
  rw [show (w.alloc (.cells #[.int .i64 st, .int .i64 k, .slice AH n cH, .slice AV nv cV, .slice AR nr cR] 26)).heap.size = w.heap.size + 1 by simp] at K2
  have B2 : Below w.heap.size w ((w.alloc (.cells #[.int .i64 st, .int .i64 k, .slice AH n cH, .slice AV nv cV, .slice AR nr cR] 26)).alloc (.cells #[.slice AI m cI, .int .i64 o] 47)) := ((Below.refl _ _).alloc (Nat.le_refl _) _).alloc (by simp) _
  by_cases hmn : m = n
  · subst hmn
    have RB := Lib.hid (show rr m st nv l o = (els st nv l && (sta st o || decide (o ∈ l))) by rw [rr, HL.out, decide_eq_true rfl]; simp)
    have IS := Lib.hid (fun w => isState_any st o w)
    have CO := fun w (h : Reads w w.heap.size AI m (il l)) => contains_any AI m cI _ l o w h (by omega)
    generalize hq : sta st o = q at RB IS
    generalize hp : decide (o ∈ l) = p at RB CO
    have CO := Lib.hid CO
    have H := Lib.hid h
    clear h hq hp
    go_enter Tryz.func28, Tryz.ntmps28
    go_wp2_with fail
    generalize (w.alloc (.cells #[.int .i64 st, .int .i64 k, .slice AH m cH, .slice AV nv cV, .slice AR nr cR] 26)).alloc (.cells #[.slice AI m cI, .int .i64 o] 47) = w0 at K1 K2 B2 ⊢
    obtain ⟨a0, a1, a2, a3, a4, a5⟩ := K1.five
    obtain ⟨b0, b1, b2, b3, b4⟩ := K2.two
    have R := H.out.below B2
    have R0 := Lib.hid ((H.out.below B2).more B2.size)
    have B2 := Lib.hid B2
    clear K1 K2
    go_wp2
    go_loop [17] (fun iv => ∃ j : Nat, j ≤ m ∧ iv = .int .i64 (j : Int) ∧ ∀ i, i < j → -(nv : Int) ≤ ig l i ∧ ig l i < st) (fun iv => m - (intOf iv).toNat)
    case atStart => exact ⟨0, Nat.zero_le _, rfl, fun i hi => absurd hi (by omega)⟩
    case round =>
      obtain ⟨j, hj, rfl, hno⟩ := hrel
      have HN := Lib.hid hno
      clear hno
      by_cases hlt : j < m
      · obtain ⟨ad, rfl, hb, hc⟩ := il_at R hlt
        have HF := Lib.hid (show ¬ (-(nv : Int) ≤ ig l j ∧ ig l j < st) → rr m st nv l o = false from fun h => by
          rw [RB.out, show els st nv l = false by rw [← Bool.not_eq_true, els_iff]; exact fun h' => h (h' j (by rw [HL.out]; exact hlt))]
          rfl)
        obtain ⟨x, hx⟩ : ∃ x, x = ig l j := ⟨_, rfl⟩
        rw [← hx] at hc HF
        have HX := Lib.hid hx
        clear hx R
        by_cases h1 : -(nv : Int) ≤ x
        · by_cases h2 : x < st
          · have HQ := Lib.hid (show -(nv : Int) ≤ x ∧ x < st from ⟨h1, h2⟩)
            go_wp2
            go_round
            case rel => exact ⟨j + 1, by omega, by go_num, fun i hi => by
              by_cases e : i < j
              · exact HN.out i e
              · obtain rfl : i = j := by omega
                rw [← HX.out]; exact HQ.out⟩
            case measure => simp [intOf]; omega
          · have HG := Lib.hid (HF.out fun h => h2 h.2)
            have d := decide_eq_false h2
            have d2 : decide (st ≤ x) = true := by rw [decide_eq_true_iff]; omega
            go_wp2
            go_ret
            exact ⟨ret_bool HG.out.symm, B2.out⟩
        · have HG := Lib.hid (HF.out fun h => h1 h.1)
          have d2 : decide (x < -(nv : Int)) = true := by rw [decide_eq_true_iff]; omega
          go_wp2
          go_ret
          exact ⟨ret_bool HG.out.symm, B2.out⟩
      · obtain rfl : j = m := by omega
        have HG := Lib.hid (show rr j st nv l o = (q || p) by rw [RB.out, show els st nv l = true by rw [els_iff, HL.out]; exact HN.out]; rfl)
        have CW := Lib.hid (CO.out w0 R0.out)
        clear R
        cases q with
        | true =>
          go_wp2_with (go_at_call 34; (with_reducible refine (IS.out _).mono ?_); rintro e w' ⟨rfl, rfl⟩)
          go_ret
          exact ⟨ret_bool HG.out.symm, B2.out⟩
        | false =>
          go_wp2_with (first
            | (go_at_call 34; (with_reducible refine (IS.out _).mono ?_); rintro e w' ⟨rfl, rfl⟩)
            | (go_at_call 50; (with_reducible refine CW.out.mono ?_); rintro e w' ⟨rfl, rfl⟩))
          go_ret
          exact ⟨ret_bool HG.out.symm, B2.out⟩
  · have HF := Lib.hid (show rr n st nv l o = false by rw [rr, HL.out, decide_eq_false hmn]; rfl)
    have e1 : ((m : Int) != (n : Int)) = true := by rw [bne_iff_ne]; omega
    clear h
    go_enter Tryz.func28, Tryz.ntmps28
    go_wp2_with fail
    generalize (w.alloc (.cells #[.int .i64 st, .int .i64 k, .slice AH n cH, .slice AV nv cV, .slice AR nr cR] 26)).alloc (.cells #[.slice AI m cI, .int .i64 o] 47) = w0 at K1 K2 B2 ⊢
    obtain ⟨a0, a1, a2, a3, a4, a5⟩ := K1.five
    obtain ⟨b0, b1, b2, b3, b4⟩ := K2.two
    have B2 := Lib.hid B2
    clear K1 K2
    go_wp2
    go_ret
    exact ⟨ret_bool HF.out.symm, B2.out⟩
end Go.Proofs.YtedjjhaopohibaaGreatDoor
namespace Go.Proofs.YtedjjhaopohibaaGreatDoor
open Go.RowKit

/-- a position's values -/
abbrev en (x : P2) : List Value := [.int .i64 x.1, .int .i64 x.2]
theorem en_one (x : P2) : ∀ v ∈ en x, v.oneCell' = true := fun v hv => by
  simp at hv
  rcases hv with rfl | rfl <;> rfl
theorem cmp_lays (g size : Nat) (w : World) : CmpLays Tryz.prog 48 #[] en 2 pc g 0 size w :=
  fun _ _ _ _ x y => pcompare_grow x.1 x.2 y.1 y.2 _
theorem cmp_enters : ∀ args w, (callFunc 48 args).run Tryz.prog w = .ok (.enter 48 args) w := enters_of Tryz.func48 (by kernel_rfl) rfl
theorem lt_swo : Go.Sort.SWO (ltOf pc) := pc_swo

/-- what the sort leaves turns nothing below the row -/
theorem sorted_below {g : Nat} {w w' : World} {d : Array P2} (hg : g < w.heap.size) (h : SWK en 2 w g 0 d w') : Below g w w' := by
  obtain ⟨n, os, rfl⟩ := h
  refine ⟨rfl, rfl, rfl, ?_, fun b hb => ?_⟩
  · show w.heap.size ≤ (Go.Sort.grow (Go.Sort.putRowK en 2 (Go.Sort.ahead w n) g 0 d) os).heap.size
    rw [Go.Sort.size_grow, Go.Sort.size_putRowK]
    exact Nat.le_add_right _ _
  · show (((w.heap.modify g _) ++ os)[b]?) = _
    rw [Array.getElem?_append_left (by simp; omega), Array.getElem?_modify, if_neg (by omega)]
theorem bits_len (n : Nat) (w : World) (hn : n ≤ 1000000) : Calls Tryz.prog 84 #[.int .u64 (n : Int)] w fun e w' => e = .returned (.int .i64 (Lib.bitLen n : Nat)) ∧ w' = w := by
  have h := Any.bits_Len (SlLaysF0.n15.bits (P := Tryz.prog) (ρ := sortRen) { sortLays with }) (n : Int) w (by omega) (by omega)
  rwa [Int.toNat_natCast] at h

theorem pdq_any (g c l : Nat) (d : Array P2) (w : World) (hH : Go.Sort.HoldsK en 2 w g 0 d) (hg : g < w.heap.size) (hn : d.size ≤ 1000000) (hl : l < 4611686018427387904) :
    Calls Tryz.prog 104 #[.slice (some ⟨g, 0, none⟩) d.size c, .int .i64 0, .int .i64 (d.size : Nat), .int .i64 (l : Nat), .func (.func 48) #[] #[]] w
      fun e w' => e = .returned (.tuple #[]) ∧ ∃ d', Go.Sort.PermIn 0 d.size d d' ∧ Go.Sort.SortedIn (ltOf pc) 0 d.size d' ∧ SWK en 2 w g 0 d' w' := by
  have h := AnyQ.pdqsortCmpFunc_all sortLays 2 Tryz.isAgg74 Tryz.sizeOf74 en pc 48 #[] lt_swo g 0 c d w cmp_enters (cmp_lays g d.size w)
    ⟨fun _ => rfl, en_one, hH, hg⟩ (d.size + 1) 0 d.size l d w (by omega) rfl (SWK.start hH) (Nat.zero_le _) (Nat.le_refl _) (by omega) hl (Or.inl rfl)
  have hs := Go.Sort.pdq_sorts (ltOf pc) lt_swo d 0 d.size l true true (Nat.zero_le _) (Nat.le_refl _) (Or.inl rfl)
  exact h.mono fun e w' ⟨he, hw⟩ => ⟨he, _, hs.1, hs.2, hw⟩

/-- a row of the call's own holds its positions -/
theorem holds_of_own {w : World} {base g n c : Nat} {e : TypeId} {f : Nat → P2} (h : w.ownsRow base e 2 (.slice (some ⟨g, 0, none⟩) n c) n (cells2 f n)) : Go.Sort.HoldsK en 2 w g 0 (lst f n).toArray := by
  intro j hj
  have hs : (lst f n).toArray.size = n := by simp [lst_len]
  rw [Go.Sort.size_flatK, hs] at hj
  rw [Go.Sort.get_flatK _ _ _ _ (by rw [hs]; exact hj)]
  have hq : j / 2 < n := by omega
  have hl := cells2_len f n
  obtain ⟨c1, c2⟩ := cells2_at f n (j / 2) hq
  have hd : (lst f n).toArray[j / 2]! = f (j / 2) := by
    rw [getElem!_pos _ _ (by rw [hs]; exact hq)]
    simp [lst_get]
  rw [hd, Nat.zero_add]
  refine ⟨?_, h.frozenAt j⟩
  rw [h.cellAt j (by omega)]
  have hm : j % 2 = 0 ∨ j % 2 = 1 := by omega
  rcases hm with hm | hm
  · rw [show j = j / 2 * 2 by omega, c1]
    rw [show (j / 2 * 2) / 2 = j / 2 by omega, show (j / 2 * 2) % 2 = 0 by omega]; rfl
  · rw [show j = j / 2 * 2 + 1 by omega, c2]
    rw [show (j / 2 * 2 + 1) / 2 = j / 2 by omega, show (j / 2 * 2 + 1) % 2 = 1 by omega]; rfl
/-- .. and a row that holds positions reads as them -/
theorem reads_of_holds {w : World} {g : Nat} {d : Array P2} (hg : g < w.heap.size) (h : Go.Sort.HoldsK en 2 w g 0 d) : QReads w w.heap.size (some ⟨g, 0, none⟩) d.size (fun k => d[k]!) := fun _ => by
  refine ⟨g, 0, rfl, hg, fun k hk => ?_⟩
  have h0 := (h.cell (i := k) (c := 0) hk (by omega)).1
  have h1 := (h.cell (i := k) (c := 1) hk (by omega)).1
  exact ⟨h0, h1⟩

set_option maxHeartbeats 1000000 in
/-- a row of the call's own, sorted -/
theorem sortf_any (g c n base : Nat) (e : TypeId) (f : Nat → P2) (w : World) (h : w.ownsRow base e 2 (.slice (some ⟨g, 0, none⟩) n c) n (cells2 f n)) (hn : n ≤ 1000000) (hap : ∀ i j, i < j → j < n → f i ≠ f j) :
    Calls Tryz.prog 89 #[.slice (some ⟨g, 0, none⟩) n c, .func (.func 48) #[] #[]] w fun e w' =>
      e = .returned (.tuple #[]) ∧ ∃ f', QReads w' w'.heap.size (some ⟨g, 0, none⟩) n f' ∧ (lst f' n).Perm (lst f n) ∧ Up f' n ∧ Below g w w' := by
  have hs : (lst f n).toArray.size = n := by simp [lst_len]
  have hg := (h.lt g rfl).2
  have hH := holds_of_own h
  have hp := fun l hl => pdq_any g c l (lst f n).toArray w hH hg (by omega) hl
  rw [hs] at hp
  have key : ∀ (d' : Array P2) (w' : World), Go.Sort.PermIn 0 n (lst f n).toArray d' → Go.Sort.SortedIn (ltOf pc) 0 n d' → SWK en 2 w g 0 d' w' →
      ∃ f', QReads w' w'.heap.size (some ⟨g, 0, none⟩) n f' ∧ (lst f' n).Perm (lst f n) ∧ Up f' n ∧ Below g w w' := by
    intro d' w' h1 h2 h3
    obtain ⟨p1, _, p3⟩ := h1
    have hs' : d'.size = n := by rw [p1, hs]
    have hR := reads_of_holds (h3.lt hg) (h3.holds hg hH p1)
    rw [hs'] at hR
    have hL : lst (fun k => d'[k]!) n = d'.toList := by
      apply List.ext_getElem
      · simp [lst_len, hs']
      · intro i h1 h2
        rw [lst_get]
        rw [getElem!_pos _ _ (by rw [lst_len] at h1; omega)]
        simp
    have hP : (lst (fun k => d'[k]!) n).Perm (lst f n) := by
      rw [hL]
      have e1 : d'.extract 0 n = d' := by rw [← hs']; simp
      have e2 : (lst f n).toArray.extract 0 n = (lst f n).toArray := by
        have := Array.extract_size (xs := (lst f n).toArray)
        rwa [hs] at this
      rw [e1, e2] at p3
      simpa using p3
    refine ⟨_, hR, hP, fun i j hij hj => ?_, sorted_below hg h3⟩
    have h4 := h2 i j (Nat.zero_le _) hij hj
    have h5 := apart_perm hP hap i j hij hj
    have h6 : ¬ pc d'[j]! d'[i]! < 0 := by simpa [ltOf] using h4
    show pc d'[i]! d'[j]! < 0
    have h7 := pc_gt d'[i]! d'[j]!
    have h8 := pc_zero d'[i]! d'[j]!
    have h5' : d'[i]! ≠ d'[j]! := h5
    have h9 : pc d'[i]! d'[j]! ≠ 0 := fun e => h5' (h8.1 e)
    clear h8 h5
    omega
  have B := bits_len n
  have hl : Lib.bitLen n < 4611686018427387904 := Nat.lt_of_le_of_lt (Lib.bitLen_le n 62 (by omega) (by omega)) (by omega)
  have hp := Lib.hid (hp _ hl)
  generalize Lib.bitLen n = l at B hp hl
  have B := Lib.hid (fun w => B w hn)
  have wr : IntKind.u64.wrap (n : Int) = n := by simp [IntKind.wrap, IntKind.bits, IntKind.signed]; omega
  have key := Lib.hid key
  clear hH hap h
  go_enter Tryz.func89, Tryz.ntmps89
  go_wp2_with (first | (go_at_call 84; (with_reducible refine (B.out _).mono ?_); rintro e w' ⟨rfl, rfl⟩) | (go_at_call 104; (with_reducible refine hp.out.mono ?_); rintro e w' ⟨rfl, d', h1, h2, h3⟩; have K := Lib.hid (key.out d' w' h1 h2 h3); clear h1 h2 h3))
  go_end0
  exact ⟨rfl, K.out⟩
end Go.Proofs.YtedjjhaopohibaaGreatDoor
namespace Go.Proofs.YtedjjhaopohibaaGreatDoor
open Go.RowKit

theorem cells2_one (f : Nat → P2) (n : Nat) : ∀ u ∈ cells2 f n, u.oneCell' = true := by
  induction n with
  | zero => intro u hu; cases hu
  | succ n ih =>
    intro u hu
    rw [cells2, List.mem_append] at hu
    rcases hu with hu | hu
    · exact ih u hu
    · simp at hu
      rcases hu with rfl | rfl <;> rfl
theorem cells2_cell {w : World} {g o n : Nat} {f : Nat → P2} (h : ∀ k, k < n → w.cell? ⟨g, o + k * 2, none⟩ = some (.int .i64 (f k).1) ∧ w.cell? ⟨g, o + k * 2 + 1, none⟩ = some (.int .i64 (f k).2))
    (j : Nat) (u : Value) (hj : (cells2 f n)[j]? = some u) : w.cell? ((⟨g, o, none⟩ : Addr).add j) = some u := by
  have hl := cells2_len f n
  have hlt : j < n * 2 := by
    rcases Nat.lt_or_ge j (n * 2) with h | h
    · exact h
    · rw [List.getElem?_eq_none (by omega)] at hj; cases hj
  have hq : j / 2 < n := by omega
  obtain ⟨c1, c2⟩ := cells2_at f n (j / 2) hq
  obtain ⟨d1, d2⟩ := h (j / 2) hq
  have hadd : ((⟨g, o, none⟩ : Addr).add j) = ⟨g, o + j, none⟩ := by
    unfold Addr.add
    split
    · next e => subst e; rfl
    · rfl
  rw [hadd]
  have hm : j % 2 = 0 ∨ j % 2 = 1 := by omega
  rcases hm with hm | hm
  · have e : j / 2 * 2 = j := by omega
    rw [e] at c1 d1
    rw [c1] at hj
    rw [← hj]; exact d1
  · have e : j / 2 * 2 + 1 = j := by omega
    rw [Nat.add_assoc, e] at d2
    rw [e] at c2
    rw [c2] at hj
    rw [← hj]; exact d2

set_option maxRecDepth 100000 in
set_option maxHeartbeats 1000000 in
theorem clone_some (ad : Addr) (n c : Nat) (f : Nat → P2) (w : World) (h : QReads w w.heap.size (some ad) n f) (hn : n ≤ 5000) :
    Calls Tryz.prog 32 #[.slice (some ad) n c] w fun e w' => ∃ A' c', e = .returned (.slice A' n c') ∧ w'.ownsRow w.heap.size 74 2 (.slice A' n c') n (cells2 f n) ∧ Below w.heap.size w w' := by
  obtain ⟨i0, hi, hz0, hz1, hz2⟩ := info_parts Tryz.info_point
  have hnews : ∀ (j : Nat) (u : Value), (cells2 f n)[j]? = some u → (w.alloc (.cells #[] 74)).cell? (ad.add j) = some u := by
    intro j u hj
    have hlt : j < n * 2 := by
      rcases Nat.lt_or_ge j (n * 2) with h | h
      · exact h
      · rw [List.getElem?_eq_none (by rw [cells2_len]; omega)] at hj; cases hj
    obtain ⟨g, o, ha, hg, hc⟩ := h (by omega)
    injection ha with ha
    subst ha
    exact (World.cell?_alloc_lt w _ _ (by rw [block_of_add]; exact hg)).trans (cells2_cell hc j u hj)
  have HN := Lib.hid hnews
  have B1 := Lib.hid ((Below.refl w.heap.size w).alloc (Nat.le_refl _) (.cells #[] 74))
  have HO := Lib.hid (World.ownsRow_made (base := w.heap.size) (e := 74) (size := 2) w #[] 0 (Nat.le_refl _) (by unfold maxLen; omega) (by rfl))
  have s1 := B1.out.size
  have L := cells2_len f n
  have O := cells2_one f n
  generalize cells2 f n = xs at HN L O ⊢
  clear h hnews
  have q22 : ∀ (w : World) (a : Option Addr) (n c n' c' : Nat), (binOp .eql 22 (.slice a n c) (.slice none n' c')).run Tryz.prog w = .ok (.bool a.isNone) w := fun w a n c n' c' => Lib.run_eql_slice_nil w _ _ a n c n' c' Tryz.underlying22
  go_enter Tryz.func32, Tryz.ntmps32
  go_wp2_with (at_builtin; refine wpList_append_own _ rfl _ _ 22 rfl w.heap.size 74 i0 (.agg #[.int .i64 0, .int .i64 0]) 2 16 Tryz.underlying22 hi hz0 hz1 hz2 rfl (by decide) _ 0 [] rfl HO.out ad n c xs rfl L HN.out O (by unfold maxLen; omega) (by omega) s1 ?_; intro v' w2 hown2 hg2 hiff; have B2 := Lib.hid (B1.out.grown hg2 s1 (fun k hk => (HO.out.lt k hk).1)); have HO2 := Lib.hid hown2; clear hown2 hg2 hiff)
  have e : ∃ A' c', v' = .slice A' n c' := by
    have h := HO2.out
    rw [Nat.zero_add] at h
    rcases h.2 with ⟨h1, h2⟩ | ⟨g, cap, cur, h1, _⟩
    · subst h2; exact ⟨_, _, h1⟩
    · exact ⟨_, _, h1⟩
  obtain ⟨A', c', rfl⟩ := e
  go_ret
  have h := HO2.out
  rw [Nat.zero_add, List.nil_append] at h
  exact ⟨A', c', rfl, h, B2.out⟩
set_option maxRecDepth 100000 in
theorem clone_none (c : Nat) (w : World) :
    Calls Tryz.prog 32 #[.slice none 0 c] w fun e w' => e = .returned (.slice none 0 0) ∧ w = w' := by
  have q22 : ∀ (w : World) (a : Option Addr) (n c n' c' : Nat), (binOp .eql 22 (.slice a n c) (.slice none n' c')).run Tryz.prog w = .ok (.bool a.isNone) w := fun w a n c n' c' => Lib.run_eql_slice_nil w _ _ a n c n' c' Tryz.underlying22
  go_enter Tryz.func32, Tryz.ntmps32
  go_wp2
  go_ret
  exact ⟨rfl, rfl⟩
theorem clone_any (A : Option Addr) (n c : Nat) (f : Nat → P2) (w : World) (h : QReads w w.heap.size A n f) (hn : n ≤ 5000) :
    Calls Tryz.prog 32 #[.slice A n c] w fun e w' => ∃ A' c', e = .returned (.slice A' n c') ∧ w'.ownsRow w.heap.size 74 2 (.slice A' n c') n (cells2 f n) ∧ Below w.heap.size w w' := by
  cases A with
  | some ad => exact clone_some ad n c f w h hn
  | none =>
    have hn0 : n = 0 := by
      rcases Nat.eq_zero_or_pos n with e | e
      · exact e
      · obtain ⟨g, o, ha, _⟩ := h e; cases ha
    subst hn0
    exact (clone_none c w).mono fun e w' ⟨he, hw⟩ => ⟨none, 0, he, hw ▸ World.ownsRow_nil _ _ _ _, hw ▸ Below.refl _ _⟩
end Go.Proofs.YtedjjhaopohibaaGreatDoor
namespace Go.Proofs.YtedjjhaopohibaaGreatDoor
open Go.RowKit

set_option maxRecDepth 100000 in
set_option maxHeartbeats 1000000 in
theorem compact_any (A : Option Addr) (n c : Nat) (f : Nat → P2) (w : World) (h : QReads w w.heap.size A n f) (hn : n ≤ 5000) (hne : ∀ i, i + 1 < n → f i ≠ f (i + 1)) :
    Calls Tryz.prog 90 #[.slice A n c] w fun e w' => e = .returned (.slice A n c) ∧ Below w.heap.size w w' := by
  have H := Lib.hid h
  have HN := Lib.hid hne
  clear h hne
  by_cases h2 : n < 2
  · go_enter Tryz.func90, Tryz.ntmps90
    go_wp2
    go_ret
    exact ⟨rfl, Below.refl _ _⟩
  · go_enter Tryz.func90, Tryz.ntmps90
    go_wp2
    go_loopw [3] (fun iv wr => ∃ j : Nat, 1 ≤ j ∧ j ≤ n ∧ iv = .int .i64 (j : Int) ∧ Below w.heap.size w wr) (fun iv _ => n - (intOf iv).toNat)
    case atStart => exact ⟨1, Nat.le_refl _, by omega, rfl, Below.refl _ _⟩
    case round =>
      obtain ⟨j, hj1, hj, rfl, hbel⟩ := hrel
      have R := H.out.below hbel
      have HB := Lib.hid hbel
      clear hbel
      by_cases hjn : j < n
      · obtain ⟨i, hi⟩ : ∃ i, j = i + 1 := ⟨j - 1, by omega⟩
        have hin : i < n := by omega
        have e1 : (j : Int) - 1 = (i : Int) := by omega
        have hw1 : IntKind.i64.wrap ((j : Int) - 1) = (i : Int) := by rw [e1]; exact IntWalk.i64_in _ (by omega)
        obtain ⟨g1, o1, rfl, hb1, hc1⟩ := R (by omega)
        obtain ⟨c10, c11⟩ := hc1 j hjn
        obtain ⟨c20, c21⟩ := hc1 i hin
        have hne := HN.out i (by omega)
        rw [← hi] at hne
        obtain ⟨⟨x1, x2⟩, hx⟩ : ∃ x, x = f j := ⟨_, rfl⟩
        obtain ⟨⟨y1, y2⟩, hy⟩ : ∃ y, y = f i := ⟨_, rfl⟩
        rw [← hx] at c10 c11 hne
        rw [← hy] at c20 c21 hne
        simp only at c10 c11 c20 c21
        clear hx hy hc1 R hi e1
        by_cases e1 : x1 = y1
        · subst e1
          have e2 : (x2 == y2) = false := by rw [beq_eq_false_iff_ne]; intro e; exact hne (by rw [e])
          clear hne
          go_wp2_with fail
          go_quiet (fail)
          clear hw1
          go_wp2
          go_roundw
          case rel => exact ⟨j + 1, by omega, by omega, by go_num, below_drewN HB.out _⟩
          case measure => simp [intOf]; omega
        · have e1 : (x1 == y1) = false := by rw [beq_eq_false_iff_ne]; exact e1
          clear hne
          go_wp2_with fail
          go_quiet (fail)
          clear hw1
          go_wp2
          go_roundw
          case rel => exact ⟨j + 1, by omega, by omega, by go_num, below_drewN HB.out _⟩
          case measure => simp [intOf]; omega
      · obtain rfl : j = n := by omega
        clear R
        go_wp2
        go_ret
        exact ⟨rfl, HB.out⟩
theorem psort_any (A : Option Addr) (n c : Nat) (f : Nat → P2) (w : World) (h : QReads w w.heap.size A n f) (hn0 : 1 ≤ n) (hn : n ≤ 5000) (hap : ∀ i j, i < j → j < n → f i ≠ f j) :
    Calls Tryz.prog 80 #[.slice A n c] w fun e w' => ∃ A' c' f', e = .returned (.slice A' n c') ∧ QReads w' w'.heap.size A' n f' ∧ (lst f' n).Perm (lst f n) ∧ Up f' n ∧ Below w.heap.size w w' := by
  have CL := Lib.hid (clone_any A n c f w h hn)
  have ST := Lib.hid (fun g c base e (w : World) (h : w.ownsRow base e 2 (.slice (some ⟨g, 0, none⟩) n c) n (cells2 f n)) => sortf_any g c n base e f w h (by omega) hap)
  clear h hap
  go_enter Tryz.func80, Tryz.ntmps80
  go_wp2_with (first
    | (go_at_call 32; (with_reducible refine CL.out.mono ?_); rintro e w1 ⟨A', c', rfl, hown, hb⟩; have B1 := Lib.hid hb; obtain ⟨g, cc, hv, hg, hs5⟩ := hown.form (by omega); injection hv with hv1 hv2 hv3; subst hv1 hv3; have hb5 := (hown.lt g rfl).1; have S1 := Lib.hid (ST.out _ _ _ _ _ hown); clear hb hown hv2)
    | (go_at_call 89; (with_reducible refine S1.out.mono ?_); rintro e w2 ⟨rfl, f', h1, h2, h3, h4⟩; have R5 := Lib.hid h1; have P5 := Lib.hid h2; have U5 := Lib.hid h3; have B2 := Lib.hid (B1.out.trans (h4.mono hb5)); have CP := Lib.hid (compact_any (some ⟨g, 0, none⟩) n c' f' w2 h1 hn (fun i hi e => by have := h3 i (i + 1) (by omega) hi; rw [e, pc_lt] at this; omega)); clear h1 h2 h3 h4)
    | (go_at_call 90; (with_reducible refine CP.out.mono ?_); rintro e w3 ⟨rfl, hb⟩; have R6 := Lib.hid (R5.out.later hb); have B3 := Lib.hid (B2.out.trans (hb.mono B2.out.size)); clear hb))
  go_ret
  exact ⟨_, _, f', rfl, R6.out, P5.out, U5.out, B3.out⟩
end Go.Proofs.YtedjjhaopohibaaGreatDoor
namespace Go.Proofs.YtedjjhaopohibaaGreatDoor
open Go.RowKit

/-- the images of the offsets, unsorted -/
def tn (m : Nat) (f : Nat → P2) (i : Nat) : P2 := (turnX m (f i).1 (f i).2, turnY m (f i).1 (f i).2)
theorem tn_inj (m : Nat) (hm : m < 8) (f : Nat → P2) (i j : Nat) (h : tn m f i = tn m f j) : f i = f j := by
  unfold tn at h
  generalize f i = a at h ⊢
  generalize f j = b at h ⊢
  obtain ⟨x, y⟩ := a
  obtain ⟨u, v⟩ := b
  refine eight (P := fun m => (turnX m x y, turnY m x y) = (turnX m u v, turnY m u v) → (x, y) = (u, v)) ?_ ?_ ?_ ?_ ?_ ?_ ?_ ?_ m hm h <;> simp only [turnX, turnY, Prod.mk.injEq] <;> omega
theorem Hd.up {f : Nat → P2} {n : Nat} (h : Hd f n) : Up f n := by
  intro i j hij hj
  induction j with
  | zero => omega
  | succ j ih =>
    have h1 := h.2.2 j (by omega)
    by_cases e : i = j
    · rw [e]; exact h1
    · have h2 := ih (by omega) (by omega)
      rw [pc_lt] at *
      omega
theorem Up.ne {f : Nat → P2} {n : Nat} (h : Up f n) (i j : Nat) (hij : i < j) (hj : j < n) : f i ≠ f j := fun e => by
  have h1 := h i j hij hj
  rw [e, pc_lt] at h1
  omega

set_option maxRecDepth 100000 in
set_option maxHeartbeats 2000000 in
theorem image_any (k : Int) (A : Option Addr) (n c : Nat) (f : Nat → P2) (w : World) (hM : Mat w) (h : QReads w w.heap.size A n f) (hd : Hd f n) :
    Calls Tryz.prog 67 #[.int .i64 k, .slice A n c] w fun e w' => ∃ A' c' f', e = .returned (.slice A' n c') ∧ QReads w' w'.heap.size A' n f' ∧ (lst f' n).Perm (lst (tn (md k) f) n) ∧ Up f' n ∧ Below w.heap.size w w' := by
  obtain ⟨i0, hi, hz0, hz1, hz2⟩ := info_parts Tryz.info_point
  have hap : ∀ i j, i < j → j < n → tn (md k) f i ≠ tn (md k) f j := fun i j hij hj e => hd.up.ne i j hij hj (tn_inj _ (md_lt k) f i j e)
  obtain ⟨⟨hn1, hn2⟩, hin, _⟩ := hd
  have H := Lib.hid h
  have HI := Lib.hid hin
  have MH := Lib.hid hM
  have ST := Lib.hid (fun A c w (h : QReads w w.heap.size A n (tn (md k) f)) => psort_any A n c (tn (md k) f) w h hn1 (by omega) hap)
  have hz : 0 < w.heap.size := hM.1
  clear h hin hM hap
  go_enter Tryz.func67, Tryz.ntmps67
  go_wp2_with (at_make; refine wpList_make_own _ rfl _ _ 22 rfl w.heap.size 74 i0 (.agg #[.int .i64 0, .int .i64 0]) 2 Tryz.underlying22 hi hz0 hz1 .i64 .i64 _ n rfl rfl (by omega) (by rw [hz2]; omega) (by unfold maxLen; omega) (Nat.le_refl _) ?_; intro w2 hown2 hgrow2; have PB2 := Lib.hid ((Below.refl w.heap.size w).grown hgrow2 (Nat.le_refl _) (fun k hk => by cases hk)))
  have HO2 := Lib.hid hown2
  have HP2 := PB2.out
  clear hown2 hgrow2
  go_loopw [5, 13] (fun lv jv wr => ∃ j : Nat, j ≤ n ∧ jv = .int .i64 (j : Int) ∧ lv = .slice (some ⟨w.heap.size, 0, none⟩) j n ∧ wr.ownsRow w.heap.size 74 2 (.slice (some ⟨w.heap.size, 0, none⟩) j n) j (cells2 (tn (md k) f) j) ∧ Below w.heap.size w wr) (fun _ jv _ => n - (intOf jv).toNat)
  case atStart => exact ⟨0, Nat.zero_le _, rfl, rfl, HO2.out, HP2⟩
  case round =>
    obtain ⟨j, hj, rfl, rfl, hown, hbel⟩ := hrel
    have R := H.out.below hbel
    have HB := Lib.hid hbel
    have HW := Lib.hid hown
    clear hown HP2
    by_cases hjn : j < n
    · obtain ⟨g1, o1, rfl, hb1, hc1⟩ := R (by omega)
      obtain ⟨c10, c11⟩ := hc1 j hjn
      have hx4 := HI.out j hjn
      have hgw : g1 < wr.heap.size := Nat.lt_of_lt_of_le hb1 hbel.size
      have hcell : cells2 (tn (md k) f) (j + 1) = cells2 (tn (md k) f) j ++ [.int .i64 (turnX (md k) (f j).1 (f j).2), .int .i64 (turnY (md k) (f j).1 (f j).2)] := rfl
      generalize f j = x at c10 c11 hx4 hcell
      obtain ⟨x1, x2⟩ := x
      simp only at c10 c11 hx4 hcell
      have HC := Lib.hid hcell
      have B7 := HB.out.alloc HB.out.size (.cells #[.int .i64 x1, .int .i64 x2] 74)
      have BW := Lib.hid ((Below.refl wr.heap.size wr).alloc (Nat.le_refl _) (.cells #[.int .i64 x1, .int .i64 x2] 74))
      have AP := Lib.hid (apply_any k x1 x2 (wr.alloc (.cells #[.int .i64 x1, .int .i64 x2] 74)) (MH.out.below B7 hz) (by omega) (by omega) (by omega) (by omega))
      clear hc1 R hx4 hbel hcell B7
      go_wp2_with (first
        | (go_at_call 56; (with_reducible refine AP.out.mono ?_); rintro e w4 ⟨rfl, hb⟩; have BX := Lib.hid (BW.out.trans (hb.mono BW.out.size)); have B4 := Lib.hid (HB.out.trans (BX.out.mono HB.out.size)); have W4 := own_below2 HW.out BX.out; have hs4 := B4.out.size; clear hb)
        | (at_builtin; refine wpList_fit2 rfl _ _ 22 rfl w.heap.size 74 i0 Tryz.underlying22 hi hz1 w.heap.size j n _ rfl W4 (.int .i64 (turnX (md k) x1 x2)) (.int .i64 (turnY (md k) x1 x2)) rfl rfl rfl (by omega) hs4 ?_; intro w5 hown5 hbel5))
      go_roundw
      case rel => exact ⟨j + 1, by omega, by go_num, rfl, by rw [HC.out]; exact hown5, B4.out.trans hbel5⟩
      case measure => simp [intOf]; omega
    · obtain rfl : j = n := by omega
      have S1 := Lib.hid (ST.out (some ⟨w.heap.size, 0, none⟩) j wr (QReads.of_own HW.out))
      clear R hbel
      go_wp2_with (go_at_call 80; (with_reducible refine S1.out.mono ?_); rintro e w4 ⟨A', c', f', rfl, h1, h2, h3, hb⟩; have R4 := Lib.hid h1; have P4 := Lib.hid h2; have U4 := Lib.hid h3; have B4 := Lib.hid (HB.out.trans (hb.mono HB.out.size)); clear h1 h2 h3 hb)
      go_ret
      exact ⟨A', c', f', rfl, R4.out, P4.out, U4.out, B4.out⟩
end Go.Proofs.YtedjjhaopohibaaGreatDoor
namespace Go.Proofs.YtedjjhaopohibaaGreatDoor
open Go.RowKit

theorem Tryz.info_int : (Tryz.prog.info? 3).map (fun i => (i.zero, i.size, i.bytes)) = some (some (.int .i64 0), 1, 8) := by kernel_rfl
/-- whether the symmetry number k maps the offsets to themselves -/
def sk (f : Nat → P2) (n k : Nat) : Bool := decide ((lst (tn k f) n).Perm (lst f n))
/-- the numbers below j that do -/
def sy (f : Nat → P2) (n j : Nat) : List Nat := (List.range j).filter (sk f n)
theorem sy_succ (f : Nat → P2) (n j : Nat) : sy f n (j + 1) = if sk f n j = true then sy f n j ++ [j] else sy f n j := by
  unfold sy
  rw [List.range_succ, List.filter_append]
  by_cases h : sk f n j = true <;> simp [h]
theorem sy_len (f : Nat → P2) (n j : Nat) : (sy f n j).length ≤ j := by
  have := List.length_filter_le (sk f n) (List.range j)
  simpa [sy] using this
theorem sm_sk {f f' : Nat → P2} {n k : Nat} (hf : Up f n) (hf' : Up f' n) (hp : (lst f' n).Perm (lst (tn k f) n)) : sm f' n f n = sk f n k := by
  rw [Bool.eq_iff_iff, sm_iff, sk, decide_eq_true_iff]
  constructor
  · rintro ⟨_, h⟩
    rw [lst_congr h] at hp
    exact hp.symm
  · exact fun h => ⟨rfl, up_same hf' hf (hp.trans h)⟩

set_option maxRecDepth 100000 in
set_option maxHeartbeats 2000000 in
theorem syms_any (A : Option Addr) (n c : Nat) (f : Nat → P2) (w : World) (hM : Mat w) (h : QReads w w.heap.size A n f) (hd : Hd f n) :
    Calls Tryz.prog 49 #[.slice A n c] w fun e w' => ∃ A' c', e = .returned (.slice A' (sy f n 8).length c') ∧ Reads w' w'.heap.size A' (sy f n 8).length (ints (sy f n 8)) ∧ Below w.heap.size w w' := by
  obtain ⟨i0, hi, hz0, hz1, hz2⟩ := info_parts Tryz.info_int
  have RI := Lib.hid (hright_any A n c f w h hd)
  have hn := hd.1.2
  have hz : 0 < w.heap.size := hM.1
  have H := Lib.hid h
  have MH := Lib.hid hM
  have HD := Lib.hid hd
  clear h hM hd
  go_enter Tryz.func49, Tryz.ntmps49
  go_wp2_with (go_at_call 25; (with_reducible refine RI.out.mono ?_); rintro e w1 ⟨rfl, hb⟩; have B1 := Lib.hid hb; clear hb)
  go_loopw [3, 8] (fun lv jv wr => ∃ (j : Nat) (l : List Nat) (A' : Option Addr) (c' : Nat), j ≤ 8 ∧ jv = .int .i64 (j : Int) ∧ l = sy f n j ∧ l.length ≤ j ∧ lv = .slice A' l.length c' ∧ wr.ownsRow w.heap.size 3 1 (.slice A' l.length c') l.length (ints l) ∧ Below w.heap.size w wr) (fun _ jv _ => 8 - (intOf jv).toNat)
  case atStart => exact ⟨0, [], none, 0, Nat.zero_le _, rfl, rfl, Nat.zero_le _, rfl, World.ownsRow_nil _ _ _ _, B1.out⟩
  case round =>
    obtain ⟨j, l, A', c', hj, rfl, hl, hll, rfl, hown, hbel⟩ := hrel
    have HB := Lib.hid hbel
    have HW := Lib.hid hown
    have HL := Lib.hid hl
    have hsz := hbel.size
    clear hown hbel hl RI B1
    by_cases hjn : j < 8
    · have IM := Lib.hid (image_any (j : Int) A n c f wr (MH.out.below HB.out hz) ((H.out.below HB.out).more hsz) HD.out)
      rw [md_nat j hjn] at IM
      have SM := Lib.hid (fun (w2 w4 : World) (A2 : Option Addr) (c2 : Nat) (f' : Nat → P2) (hb : Below wr.heap.size wr w4) (h1 : QReads w4 w4.heap.size A2 n f') (h2 : (lst f' n).Perm (lst (tn j f) n)) (h3 : Up f' n) => by
        have := hsame_any A2 A n n c2 c f' f w4 h1 ((((H.out.below HB.out).more hsz).below hb).more hb.size) (by omega) (by omega)
        rwa [sm_sk HD.out.up h3 h2] at this)
      have step := sy_succ f n j
      generalize sk f n j = q at SM step
      have STEP := Lib.hid step
      clear step
      cases q with
      | true =>
        go_wp2_with (first
          | (go_at_call 67; (with_reducible refine IM.out.mono ?_); rintro e w4 ⟨A2, c2, f', rfl, h1, h2, h3, hb⟩; have S4 := Lib.hid (SM.out w4 w4 A2 c2 f' hb h1 h2 h3); have C4 := Lib.hid hb; clear h1 h2 h3 hb)
          | (go_at_call 66; (with_reducible refine S4.out.mono ?_); rintro e w5 ⟨rfl, hb⟩; have C5 := Lib.hid (C4.out.trans (hb.mono C4.out.size)); have B5 := Lib.hid (HB.out.trans (C5.out.mono hsz)); have W5 := own_below HW.out C5.out; have hs5 := B5.out.size; clear hb)
          | (at_builtin; refine wpList_append1 rfl _ _ 27 rfl w.heap.size 3 i0 (.int .i64 0) 8 Tryz.underlying27 hi hz0 hz1 hz2 rfl A' l.length c' _ rfl W5 (.int .i64 (j : Int)) rfl rfl (by unfold maxLen; omega) (by omega) hs5 ?_; intro g6 c6 w6 hown6 hbel6))
        go_roundw
        case rel => exact ⟨j + 1, l ++ [j], some ⟨g6, 0, none⟩, c6, by omega, by go_num, by rw [STEP.out, HL.out]; rfl, by (simp; omega), by simp, by simpa [ints] using hown6, B5.out.trans hbel6⟩
        case measure => simp [intOf]; omega
      | false =>
        go_wp2_with (first
          | (go_at_call 67; (with_reducible refine IM.out.mono ?_); rintro e w4 ⟨A2, c2, f', rfl, h1, h2, h3, hb⟩; have S4 := Lib.hid (SM.out w4 w4 A2 c2 f' hb h1 h2 h3); have C4 := Lib.hid hb; clear h1 h2 h3 hb)
          | (go_at_call 66; (with_reducible refine S4.out.mono ?_); rintro e w5 ⟨rfl, hb⟩; have C5 := Lib.hid (C4.out.trans (hb.mono C4.out.size)); have B5 := Lib.hid (HB.out.trans (C5.out.mono hsz)); have W5 := own_below HW.out C5.out; have hs5 := B5.out.size; clear hb))
        go_roundw
        case rel => exact ⟨j + 1, l, A', c', by omega, by go_num, by rw [STEP.out, HL.out]; rfl, by omega, rfl, W5, B5.out⟩
        case measure => simp [intOf]; omega
    · obtain rfl : j = 8 := by omega
      go_wp2
      go_ret
      have hl := HL.out
      subst hl
      exact ⟨A', c', rfl, Reads.of_own HW.out, HB.out⟩
end Go.Proofs.YtedjjhaopohibaaGreatDoor
