/- The walk of Kind, over contracts of the three calls that read a notation. -/
/- The walks of accepts and matches. -/
/- The walks of slices.Sort, slices.Collect and slices.Sorted at lists of numbers. -/
/- The walks of slices.Clone and slices.Delete at lists of numbers, and of arranged. -/
import Derived.Test.YtjekpmkghpjamaaGreatDoorMbh
import Derived.Test.YtjekpmkghpjamaaGreatDoorMbj
import Derived.Test.YtjekpmkghpjamaaGreatDoorMab
import Derived.Test.YtjekpmkghpjamaaGreatDoorMaa
import Derived.Below
import Derived.BigQuiet
import Derived.Deep.AppendLies
import Derived.Deep.CutRange
import Derived.Deep.Draws
import Derived.Deep.QuietTactic
import Derived.IntWalk
import Derived.Laws.BitsLemmas
import Derived.Laws.OwnMore
import Derived.Laws.Rows
import Derived.Lib.Hide
import Derived.Lib.SliceRun
import Derived.LoopN
import Derived.OwnWalk
import Derived.Shelf.SlLaysF0
import Derived.Sort.Grow
import Derived.Sort.Statements
import Derived.StillTail
import Derived.StillTailTactics
import Derived.Test.YtjekpmkghpjamaaGreatDoorRows
import Derived.WalkKit
import Derived.LoopIn
import Derived.LoopNIn
import Derived.Maps.AppendAt
import Derived.OpenShut
import Derived.OwnWalkIn
import Derived.Shelf.Abstract
import Derived.Shelf.Slices.Clone
import Derived.TacticsInMore
import Derived.Test.YtjekpmkghpjamaaGreatDoorMbb
namespace Go.Proofs.YtjekpmkghpjamaaGreatDoor
open Go.RowKit

/-- the package variables that the walk reads -/
structure Vars (m : Int) (u : TypeId) (x : Value) (u' : TypeId) (x' : Value) (w : World) : Prop where
  g : VrG m u x w
  r : Vr u' x' w
  m : Mat w
theorem Vars.later {m : Int} {u u' : TypeId} {x x' : Value} {w w' : World} (h : Vars m u x u' x' w) (hb : Below w.heap.size w w') : Vars m u x u' x' w' := ⟨h.g.later hb, h.r.later hb, h.m.below hb h.m.1⟩
/-- what a text that is no notation of rows gives -/
def WSyn (s : List UInt8) : Prop := ∀ (u : TypeId) (v : Value) (w : World), Vr u v w → Calls Tryz.prog 17 #[.string (tx s)] w fun e w' => e = .returned (.tuple #[.int .i64 0, .int .i64 0, .bool false, .int .i64 15]) ∧ Below w.heap.size w w'
/-- a text that is one -/
def WPar (s : List UInt8) (a b : Int) (t : Bool) : Prop := ∀ (u : TypeId) (v : Value) (w : World), Vr u v w → Calls Tryz.prog 17 #[.string (tx s)] w fun e w' => e = .returned (.tuple #[.int .i64 a, .int .i64 b, .bool t, .int .i64 0]) ∧ Below w.heap.size w w'
/-- any answer of the two others -/
def LAny (s : List UInt8) (k : Int) : Prop := ∀ w, Calls Tryz.prog 14 #[.string (tx s)] w fun e w' => ∃ A n c st A1 n1 c1 A2 n2 c2, e = .returned (.tuple #[.agg #[.slice A n c, .int .i64 st, .slice A1 n1 c1, .slice A2 n2 c2], .int .i64 k]) ∧ Below w.heap.size w w'
def GAny (s : List UInt8) (k : Int) : Prop := ∀ (m : Int) (u : TypeId) (x : Value) (w : World), VrG m u x w → Calls Tryz.prog 15 #[.string (tx s)] w fun e w' => ∃ A n c st A1 n1 c1 A2 n2 c2, e = .returned (.tuple #[.agg #[.slice A n c, .int .i64 st, .slice A1 n1 c1, .slice A2 n2 c2], .int .i64 k]) ∧ Below w.heap.size w w'
/-- Kind answers k -/
def KindIs (s : List UInt8) (k : Int) : Prop := ∀ (m : Int) (u : TypeId) (x : Value) (u' : TypeId) (x' : Value) (w : World), Vars m u x u' x' w → Calls Tryz.prog 12 #[.string (tx s)] w fun e w' => e = .returned (.int .i64 k) ∧ Below w.heap.size w w'
set_option maxRecDepth 100000 in
set_option maxHeartbeats 2000000 in
theorem kind_1 {s : List UInt8} {k : Int} (hk : (k != 15) = true) (L : LAny s k) : KindIs s 1 := by
  intro m u x u' x' w hv
  have HV := Lib.hid hv
  unfold LAny at L
  generalize tx s = t at L ⊢
  have zz := Lib.hid L
  (try clear L)
  have L := zz
  clear zz
  clear hv
  go_enter Tryz.func12, Tryz.ntmps12
  go_wp2_with (first
    | (go_at_call 14; (with_reducible refine (L.out _).mono ?_); rintro e w1 ⟨A, n, c, st, A1, n1, c1, A2, n2, c2, rfl, hb⟩; have B1 := Lib.hid (hb.alloc hb.size (.cells #[.slice A n c, .int .i64 st, .slice A1 n1 c1, .slice A2 n2 c2] 44)); clear hb))
  go_ret
  exact ⟨rfl, B1.out⟩
set_option maxRecDepth 100000 in
set_option maxHeartbeats 2000000 in
theorem kind_2 {s : List UInt8} {k : Int} (hk : (k != 15) = true) (L : LSyn s) (G : GAny s k) : KindIs s 2 := by
  intro m u x u' x' w hv
  have HV := Lib.hid hv
  unfold LSyn at L
  unfold GAny at G
  generalize tx s = t at L G ⊢
  have zz := Lib.hid L
  (try clear L)
  have L := zz
  clear zz
  have zz := Lib.hid G
  (try clear G)
  have G := zz
  clear zz
  clear hv
  go_enter Tryz.func12, Tryz.ntmps12
  go_wp2_with (first
    | (go_at_call 15; (with_reducible refine (G.out _ _ _ _ (HV.out.later B1.out).g).mono ?_); rintro e w2 ⟨A, n, c, st, A1, n1, c1, A2, n2, c2, rfl, hb⟩; have B2 := Lib.hid (B1.out.trans ((hb.alloc hb.size (.cells #[.slice A n c, .int .i64 st, .slice A1 n1 c1, .slice A2 n2 c2] 44)).mono B1.out.size)); clear hb)
    | (go_at_call 14; (with_reducible refine (L.out _).mono ?_); rintro e w1 ⟨rfl, hb⟩; have B1 := Lib.hid (hb.alloc hb.size (.cells #[.slice none 0 0, .int .i64 0, .slice none 0 0, .slice none 0 0] 44)); clear hb))
  go_ret
  exact ⟨rfl, B2.out⟩
set_option maxRecDepth 100000 in
set_option maxHeartbeats 2000000 in
theorem kind_3 {s : List UInt8} {a b : Int} {t9 : Bool} (L : LSyn s) (G : GSyn s) (W : WPar s a b t9) (P : ∀ w, Calls Tryz.prog 30 #[.string (tx s), .string ⟨#[87]⟩] w fun e w' => e = .returned (.bool true) ∧ w = w') : KindIs s 3 := by
  intro m u x u' x' w hv
  have HV := Lib.hid hv
  unfold LSyn at L
  unfold GSyn at G
  unfold WPar at W
  generalize tx s = t at L G W P ⊢
  have zz := Lib.hid L
  (try clear L)
  have L := zz
  clear zz
  have zz := Lib.hid G
  (try clear G)
  have G := zz
  clear zz
  have zz := Lib.hid W
  (try clear W)
  have W := zz
  clear zz
  have zz := Lib.hid P
  (try clear P)
  have P := zz
  clear zz
  clear hv
  go_enter Tryz.func12, Tryz.ntmps12
  go_wp2_with (first
    | (go_at_call 30; (with_reducible refine (P.out _).mono ?_); rintro e w4 ⟨rfl, rfl⟩)
    | (go_at_call 17; (with_reducible refine (W.out _ _ _ (HV.out.later B2.out).r).mono ?_); rintro e w3 ⟨rfl, hb⟩; have B3 := Lib.hid (B2.out.trans (hb.mono B2.out.size)); clear hb)
    | (go_at_call 15; (with_reducible refine (G.out _ _ _ _ (HV.out.later B1.out).g).mono ?_); rintro e w2 ⟨rfl, hb⟩; have B2 := Lib.hid (B1.out.trans ((hb.alloc hb.size (.cells #[.slice none 0 0, .int .i64 0, .slice none 0 0, .slice none 0 0] 44)).mono B1.out.size)); clear hb)
    | (go_at_call 14; (with_reducible refine (L.out _).mono ?_); rintro e w1 ⟨rfl, hb⟩; have B1 := Lib.hid (hb.alloc hb.size (.cells #[.slice none 0 0, .int .i64 0, .slice none 0 0, .slice none 0 0] 44)); clear hb))
  go_ret
  exact ⟨rfl, B3.out⟩
set_option maxRecDepth 100000 in
set_option maxHeartbeats 2000000 in
theorem kind_4 {s : List UInt8} {a b : Int} {t9 : Bool} (L : LSyn s) (G : GSyn s) (W : WPar s a b t9) (P : ∀ w, Calls Tryz.prog 30 #[.string (tx s), .string ⟨#[87]⟩] w fun e w' => e = .returned (.bool false) ∧ w = w') : KindIs s 4 := by
  intro m u x u' x' w hv
  have HV := Lib.hid hv
  unfold LSyn at L
  unfold GSyn at G
  unfold WPar at W
  generalize tx s = t at L G W P ⊢
  have zz := Lib.hid L
  (try clear L)
  have L := zz
  clear zz
  have zz := Lib.hid G
  (try clear G)
  have G := zz
  clear zz
  have zz := Lib.hid W
  (try clear W)
  have W := zz
  clear zz
  have zz := Lib.hid P
  (try clear P)
  have P := zz
  clear zz
  clear hv
  go_enter Tryz.func12, Tryz.ntmps12
  go_wp2_with (first
    | (go_at_call 30; (with_reducible refine (P.out _).mono ?_); rintro e w4 ⟨rfl, rfl⟩)
    | (go_at_call 17; (with_reducible refine (W.out _ _ _ (HV.out.later B2.out).r).mono ?_); rintro e w3 ⟨rfl, hb⟩; have B3 := Lib.hid (B2.out.trans (hb.mono B2.out.size)); clear hb)
    | (go_at_call 15; (with_reducible refine (G.out _ _ _ _ (HV.out.later B1.out).g).mono ?_); rintro e w2 ⟨rfl, hb⟩; have B2 := Lib.hid (B1.out.trans ((hb.alloc hb.size (.cells #[.slice none 0 0, .int .i64 0, .slice none 0 0, .slice none 0 0] 44)).mono B1.out.size)); clear hb)
    | (go_at_call 14; (with_reducible refine (L.out _).mono ?_); rintro e w1 ⟨rfl, hb⟩; have B1 := Lib.hid (hb.alloc hb.size (.cells #[.slice none 0 0, .int .i64 0, .slice none 0 0, .slice none 0 0] 44)); clear hb))
  go_ret
  exact ⟨rfl, B3.out⟩
set_option maxRecDepth 100000 in
set_option maxHeartbeats 2000000 in
theorem kind_5 {s : List UInt8} (L : LSyn s) (G : GSyn s) (W : WSyn s) (P : ∀ w, Calls Tryz.prog 31 #[.string (tx s), .string ⟨#[10]⟩] w fun e w' => e = .returned (.bool true) ∧ w = w') : KindIs s 5 := by
  intro m u x u' x' w hv
  have HV := Lib.hid hv
  unfold LSyn at L
  unfold GSyn at G
  unfold WSyn at W
  generalize tx s = t at L G W P ⊢
  have zz := Lib.hid L
  (try clear L)
  have L := zz
  clear zz
  have zz := Lib.hid G
  (try clear G)
  have G := zz
  clear zz
  have zz := Lib.hid W
  (try clear W)
  have W := zz
  clear zz
  have zz := Lib.hid P
  (try clear P)
  have P := zz
  clear zz
  clear hv
  go_enter Tryz.func12, Tryz.ntmps12
  go_wp2_with (first
    | (go_at_call 31; (with_reducible refine (P.out _).mono ?_); rintro e w4 ⟨rfl, rfl⟩)
    | (go_at_call 17; (with_reducible refine (W.out _ _ _ (HV.out.later B2.out).r).mono ?_); rintro e w3 ⟨rfl, hb⟩; have B3 := Lib.hid (B2.out.trans (hb.mono B2.out.size)); clear hb)
    | (go_at_call 15; (with_reducible refine (G.out _ _ _ _ (HV.out.later B1.out).g).mono ?_); rintro e w2 ⟨rfl, hb⟩; have B2 := Lib.hid (B1.out.trans ((hb.alloc hb.size (.cells #[.slice none 0 0, .int .i64 0, .slice none 0 0, .slice none 0 0] 44)).mono B1.out.size)); clear hb)
    | (go_at_call 14; (with_reducible refine (L.out _).mono ?_); rintro e w1 ⟨rfl, hb⟩; have B1 := Lib.hid (hb.alloc hb.size (.cells #[.slice none 0 0, .int .i64 0, .slice none 0 0, .slice none 0 0] 44)); clear hb))
  go_ret
  exact ⟨rfl, B3.out⟩
set_option maxRecDepth 100000 in
set_option maxHeartbeats 2000000 in
theorem kind_0 {s : List UInt8} (L : LSyn s) (G : GSyn s) (W : WSyn s) (P : ∀ w, Calls Tryz.prog 31 #[.string (tx s), .string ⟨#[10]⟩] w fun e w' => e = .returned (.bool false) ∧ w = w') : KindIs s 0 := by
  intro m u x u' x' w hv
  have HV := Lib.hid hv
  unfold LSyn at L
  unfold GSyn at G
  unfold WSyn at W
  generalize tx s = t at L G W P ⊢
  have zz := Lib.hid L
  (try clear L)
  have L := zz
  clear zz
  have zz := Lib.hid G
  (try clear G)
  have G := zz
  clear zz
  have zz := Lib.hid W
  (try clear W)
  have W := zz
  clear zz
  have zz := Lib.hid P
  (try clear P)
  have P := zz
  clear zz
  clear hv
  go_enter Tryz.func12, Tryz.ntmps12
  go_wp2_with (first
    | (go_at_call 31; (with_reducible refine (P.out _).mono ?_); rintro e w4 ⟨rfl, rfl⟩)
    | (go_at_call 17; (with_reducible refine (W.out _ _ _ (HV.out.later B2.out).r).mono ?_); rintro e w3 ⟨rfl, hb⟩; have B3 := Lib.hid (B2.out.trans (hb.mono B2.out.size)); clear hb)
    | (go_at_call 15; (with_reducible refine (G.out _ _ _ _ (HV.out.later B1.out).g).mono ?_); rintro e w2 ⟨rfl, hb⟩; have B2 := Lib.hid (B1.out.trans ((hb.alloc hb.size (.cells #[.slice none 0 0, .int .i64 0, .slice none 0 0, .slice none 0 0] 44)).mono B1.out.size)); clear hb)
    | (go_at_call 14; (with_reducible refine (L.out _).mono ?_); rintro e w1 ⟨rfl, hb⟩; have B1 := Lib.hid (hb.alloc hb.size (.cells #[.slice none 0 0, .int .i64 0, .slice none 0 0, .slice none 0 0] 44)); clear hb))
  go_ret
  exact ⟨rfl, B3.out⟩
end Go.Proofs.YtjekpmkghpjamaaGreatDoor
namespace Go.Proofs.YtjekpmkghpjamaaGreatDoor
open Go.RowKit
end Go.Proofs.YtjekpmkghpjamaaGreatDoor
namespace Go.Proofs.YtjekpmkghpjamaaGreatDoor
open Go.RowKit
end Go.Proofs.YtjekpmkghpjamaaGreatDoor
namespace Go.Proofs.YtjekpmkghpjamaaGreatDoor
open Go.RowKit
theorem Reads.one {w : World} {B : Nat} {ad : Addr} {x : Int} (hb : ad.block < B) (h : w.cell? ad = some (.int .i64 x)) : Reads w B (some ad) 1 (il [x]) := by
  refine ⟨rfl, fun _ => ⟨ad, rfl, hb, fun j u hu => ?_⟩⟩
  match j, hu with
  | 0, hu =>
    simp [il] at hu
    subst hu
    simpa [Addr.add] using h
  | j + 1, hu => simp [il] at hu

end Go.Proofs.YtjekpmkghpjamaaGreatDoor
namespace Go.Proofs.YtjekpmkghpjamaaGreatDoor
open Go.RowKit Go.Shelf
def r2c : Go.Shelf.Ren := ⟨fun | 0 => 0 | 1 => 1 | 2 => 2 | 15 => 118 | 21 => 220 | 23 => 218 | 27 => 244 | 28 => 245 | 31 => 260 | 35 => 264 | 37 => 229 | 39 => 272 | 40 => 286 | 41 => 287 | 42 => 288 | 43 => 289 | 44 => 290 | 45 => 291 | 46 => 292 | 47 => 293 | 48 => 294 | 49 => 295 | 50 => 296 | 51 => 297 | 52 => 298 | 53 => 299 | 54 => 300 | 55 => 306 | _ => 0, fun | 0 => 0 | 1 => 1 | 2 => 2 | 3 => 3 | 4 => 4 | 5 => 5 | 6 => 6 | 7 => 7 | 8 => 8 | 9 => 9 | 10 => 10 | 11 => 11 | 12 => 12 | 13 => 13 | 14 => 14 | 15 => 15 | 16 => 16 | 17 => 17 | 18 => 18 | 19 => 19 | 20 => 20 | 21 => 21 | 22 => 36 | 23 => 168 | 28 => 268 | 29 => 266 | 33 => 83 | 36 => 37 | 37 => 294 | 40 => 59 | 41 => 63 | 42 => 64 | 45 => 267 | 46 => 218 | 47 => 327 | 48 => 328 | 49 => 329 | 50 => 330 | 51 => 331 | 52 => 332 | 53 => 246 | 54 => 333 | 55 => 334 | 56 => 335 | 57 => 245 | 58 => 336 | 59 => 337 | 60 => 338 | 61 => 339 | 62 => 278 | _ => 0, fun n => n⟩
theorem layCloneI : Lays2.n15 Tryz.prog r2c := {
  mixed := by kernel_rfl
  f15 := Tryz.func118.trans (congrArg some (by kernel_rfl))
  t3 := Tryz.underlying3
  a3 := Tryz.isAgg3
  z3 := Tryz.sizeOf3
  v3 := Tryz.zeroValue3
  t4 := Tryz.underlying4
  a4 := Tryz.isAgg4
  z4 := Tryz.sizeOf4
  v4 := Tryz.zeroValue4
  t22 := Tryz.underlying36
  a22 := Tryz.isAgg36
  z22 := Tryz.sizeOf36
  v22 := Tryz.zeroValue36
  i3 := by kernel_rfl
}
end Go.Proofs.YtjekpmkghpjamaaGreatDoor
namespace Go.Proofs.YtjekpmkghpjamaaGreatDoor
open Go.RowKit Go.Shelf Go.Lib Go.Sort
theorem spot_of_cell' {w : World} {a : Addr} {u : Value} (h : w.cell? a = some u) : a = ⟨a.block, a.off, none⟩ := by
  obtain ⟨b, o, s⟩ := a
  cases s with
  | none => rfl
  | some s => unfold World.cell? at h; split at h <;> simp_all
theorem iclone_any (A : Option Addr) (c n : Nat) (l : List Int) (w : World) (h : Reads w w.heap.size A n (il l)) (hn : n ≤ 1000000) (h0 : 0 < n) :
    Calls Tryz.prog 118 #[.slice A n c] w fun e w' => ∃ g cap, e = .returned (.slice (some ⟨g, 0, none⟩) n cap) ∧ RowB w' w.heap.size g n cap l ∧ Below w.heap.size w w' := by
  have hl := reads_len h
  obtain ⟨ad, rfl, hb, hc⟩ := h.2 h0
  obtain ⟨b, o, s⟩ := ad
  have hc0 := hc 0 (.int .i64 (ig l 0)) (by simp [il, ig, show 0 < l.length by omega])
  have hs : s = none := by
    have := spot_of_cell' hc0
    simp [Addr.add] at this
    exact this
  subst hs
  have hcs : ∀ j, j < l.length → w.cell? ⟨b, o + j, none⟩ = some (.int .i64 (l.getD j 0)) := fun j hj => by
    have := hc j (.int .i64 (l.getD j 0)) (by simp [il, hj])
    rw [Addr.add_lit] at this
    exact this
  refine (Any.slices_Clone_int layCloneI b o n c l w (by omega) (by omega) hcs).mono ?_
  rintro e w' ⟨v', rfl, hr, hne, hbel⟩
  rw [List.take_of_length_le (by omega)] at hr
  rcases hr.2 with ⟨_, h1⟩ | ⟨g, cap, cur, rfl, _⟩
  · omega
  · exact ⟨g, cap, rfl, RowB.of hr, hbel⟩
end Go.Proofs.YtjekpmkghpjamaaGreatDoor
