/- The walks of slices.Sort, slices.Collect and slices.Sorted at lists of numbers. -/
/- The walks of slices.Clone and slices.Delete at lists of numbers, and of arranged. -/
/- The walk of arranged: the states of an input in another order, that of the centre in its place. -/
import Derived.Test.YtcgkkppidkkjiaaGreatDoorMax
import Derived.Test.YtcgkkppidkkjiaaGreatDoorMab
import Derived.Test.YtcgkkppidkkjiaaGreatDoorMaa
import Derived.Below
import Derived.BigQuiet
import Derived.Deep.AppendLies
import Derived.Deep.Draws
import Derived.Deep.QuietTactic
import Derived.IntWalk
import Derived.Laws.OwnMore
import Derived.Laws.Rows
import Derived.Lib.Hide
import Derived.LoopIn
import Derived.LoopN
import Derived.LoopNIn
import Derived.Maps.AppendAt
import Derived.OpenShut
import Derived.OwnWalk
import Derived.OwnWalkIn
import Derived.RangeFuncBound
import Derived.RangeFuncCalls
import Derived.RangeFuncLeaves
import Derived.RangeFuncNested
import Derived.Shelf.Abstract
import Derived.Shelf.RegionOpen
import Derived.Shelf.SlIterI.Sorted
import Derived.Shelf.Slices.Clone
import Derived.Shelf.Slices.Delete
import Derived.Shelf.Sort.Plain
import Derived.Shelf.Spec.SlicesInsert
import Derived.Sort.OwnSortedInts
import Derived.Sort.Statements
import Derived.StillTail
import Derived.StillTailTactics
import Derived.TacticsInMore
import Derived.Test.YtcgkkppidkkjiaaGreatDoorRows
import Derived.WalkKit
import Derived.Test.YtcgkkppidkkjiaaGreatDoorMaw
import Derived.Test.YtcgkkppidkkjiaaGreatDoorMac
namespace Go.Proofs.YtcgkkppidkkjiaaGreatDoor
open Go.RowKit Go.Shelf
def rS : Go.Shelf.Ren := ⟨fun | 0 => 0 | 1 => 1 | 2 => 2 | 107 => 68 | 108 => 94 | 112 => 137 | 122 => 91 | 125 => 104 | 128 => 125 | 129 => 126 | 189 => 78 | 215 => 109 | 216 => 122 | 257 => 103 | 294 => 116 | 295 => 117 | 296 => 118 | 297 => 119 | 298 => 120 | 299 => 121 | 300 => 123 | 301 => 124 | 328 => 132 | 329 => 133 | 330 => 134 | 331 => 135 | 332 => 136 | 343 => 139 | 347 => 152 | 348 => 153 | 349 => 154 | 350 => 155 | 351 => 156 | 352 => 157 | 353 => 158 | 354 => 159 | 355 => 160 | 356 => 161 | 357 => 162 | 358 => 163 | 359 => 164 | 360 => 165 | 361 => 166 | 366 => 168 | 367 => 172 | _ => 0, fun | 0 => 0 | 1 => 1 | 2 => 2 | 3 => 3 | 4 => 4 | 5 => 5 | 6 => 6 | 7 => 7 | 8 => 8 | 9 => 9 | 10 => 10 | 11 => 11 | 12 => 12 | 13 => 13 | 14 => 14 | 15 => 15 | 16 => 16 | 17 => 17 | 18 => 18 | 19 => 19 | 20 => 20 | 21 => 21 | 28 => 27 | 29 => 112 | 30 => 145 | 34 => 49 | 35 => 122 | 36 => 52 | 37 => 76 | 43 => 142 | 45 => 74 | 46 => 157 | 47 => 156 | 51 => 173 | 52 => 172 | 53 => 175 | 54 => 174 | 80 => 196 | 81 => 202 | 111 => 89 | 112 => 113 | 114 => 111 | 127 => 206 | 131 => 55 | 134 => 155 | 164 => 211 | 181 => 166 | 182 => 167 | 183 => 168 | 184 => 169 | 185 => 99 | 186 => 170 | 187 => 171 | 218 => 178 | 219 => 179 | 220 => 180 | 221 => 181 | 222 => 182 | 223 => 183 | 228 => 185 | 229 => 186 | 230 => 187 | 238 => 197 | 239 => 198 | 240 => 199 | 241 => 200 | 242 => 201 | 243 => 203 | 244 => 204 | 245 => 205 | 246 => 207 | 247 => 208 | 248 => 209 | 249 => 210 | _ => 0, fun n => n⟩
theorem laySortI : Lays.n189 Tryz.prog rS := {
  mixed := by kernel_rfl
  f125 := Tryz.func104.trans (congrArg some (by kernel_rfl))
  f128 := Tryz.func125.trans (congrArg some (by kernel_rfl))
  f129 := Tryz.func126.trans (congrArg some (by kernel_rfl))
  f189 := Tryz.func78.trans (congrArg some (by kernel_rfl))
  f215 := Tryz.func109.trans (congrArg some (by kernel_rfl))
  f216 := Tryz.func122.trans (congrArg some (by kernel_rfl))
  f257 := Tryz.func103.trans (congrArg some (by kernel_rfl))
  f294 := Tryz.func116.trans (congrArg some (by kernel_rfl))
  f295 := Tryz.func117.trans (congrArg some (by kernel_rfl))
  f296 := Tryz.func118.trans (congrArg some (by kernel_rfl))
  f297 := Tryz.func119.trans (congrArg some (by kernel_rfl))
  f298 := Tryz.func120.trans (congrArg some (by kernel_rfl))
  f299 := Tryz.func121.trans (congrArg some (by kernel_rfl))
  f300 := Tryz.func123.trans (congrArg some (by kernel_rfl))
  f301 := Tryz.func124.trans (congrArg some (by kernel_rfl))
  f328 := Tryz.func132.trans (congrArg some (by kernel_rfl))
  f329 := Tryz.func133.trans (congrArg some (by kernel_rfl))
  f330 := Tryz.func134.trans (congrArg some (by kernel_rfl))
  f331 := Tryz.func135.trans (congrArg some (by kernel_rfl))
  f332 := Tryz.func136.trans (congrArg some (by kernel_rfl))
  f343 := Tryz.func139.trans (congrArg some (by kernel_rfl))
  t0 := Tryz.underlying0
  a0 := Tryz.isAgg0
  z0 := Tryz.sizeOf0
  v0 := Tryz.zeroValue0
  t3 := Tryz.underlying3
  a3 := Tryz.isAgg3
  z3 := Tryz.sizeOf3
  v3 := Tryz.zeroValue3
  t4 := Tryz.underlying4
  a4 := Tryz.isAgg4
  z4 := Tryz.sizeOf4
  v4 := Tryz.zeroValue4
  t5 := Tryz.underlying5
  a5 := Tryz.isAgg5
  z5 := Tryz.sizeOf5
  v5 := Tryz.zeroValue5
  t9 := Tryz.underlying9
  a9 := Tryz.isAgg9
  z9 := Tryz.sizeOf9
  v9 := Tryz.zeroValue9
  t28 := Tryz.underlying27
  a28 := Tryz.isAgg27
  z28 := Tryz.sizeOf27
  v28 := Tryz.zeroValue27
  t46 := Tryz.underlying157
  a46 := Tryz.isAgg157
  z46 := Tryz.sizeOf157
  v46 := Tryz.zeroValue157
  t51 := Tryz.underlying173
  a51 := Tryz.isAgg173
  z51 := Tryz.sizeOf173
  v51 := Tryz.zeroValue173
  t53 := Tryz.underlying175
  a53 := Tryz.isAgg175
  z53 := Tryz.sizeOf175
  v53 := Tryz.zeroValue175
  t131 := Tryz.underlying55
  a131 := Tryz.isAgg55
  z131 := Tryz.sizeOf55
  v131 := Tryz.zeroValue55
  t182 := Tryz.underlying167
  a182 := Tryz.isAgg167
  z182 := Tryz.sizeOf167
  v182 := Tryz.zeroValue167
  t183 := Tryz.underlying168
  a183 := Tryz.isAgg168
  z183 := Tryz.sizeOf168
  v183 := Tryz.zeroValue168
  t218 := Tryz.underlying178
  a218 := Tryz.isAgg178
  z218 := Tryz.sizeOf178
  v218 := Tryz.zeroValue178
  t222 := Tryz.underlying182
  a222 := Tryz.isAgg182
  z222 := Tryz.sizeOf182
  v222 := Tryz.zeroValue182
  t228 := Tryz.underlying185
  a228 := Tryz.isAgg185
  z228 := Tryz.sizeOf185
  v228 := Tryz.zeroValue185
  t229 := Tryz.underlying186
  a229 := Tryz.isAgg186
  z229 := Tryz.sizeOf186
  v229 := Tryz.zeroValue186
}
def r2c : Go.Shelf.Ren := ⟨fun | 0 => 0 | 1 => 1 | 2 => 2 | 15 => 57 | 21 => 79 | 23 => 77 | 27 => 105 | 28 => 106 | 31 => 122 | 35 => 127 | 37 => 109 | 39 => 137 | 40 => 152 | 41 => 153 | 42 => 154 | 43 => 155 | 44 => 156 | 45 => 157 | 46 => 158 | 47 => 159 | 48 => 160 | 49 => 161 | 50 => 162 | 51 => 163 | 52 => 164 | 53 => 165 | 54 => 166 | 55 => 168 | _ => 0, fun | 0 => 0 | 1 => 1 | 2 => 2 | 3 => 3 | 4 => 4 | 5 => 5 | 6 => 6 | 7 => 7 | 8 => 8 | 9 => 9 | 10 => 10 | 11 => 11 | 12 => 12 | 13 => 13 | 14 => 14 | 15 => 15 | 16 => 16 | 17 => 17 | 18 => 18 | 19 => 19 | 20 => 20 | 21 => 21 | 22 => 27 | 23 => 100 | 28 => 123 | 29 => 121 | 33 => 55 | 36 => 49 | 37 => 98 | 40 => 157 | 41 => 113 | 42 => 89 | 45 => 122 | 46 => 196 | 47 => 197 | 48 => 198 | 49 => 199 | 50 => 200 | 51 => 201 | 52 => 202 | 53 => 173 | 54 => 203 | 55 => 204 | 56 => 205 | 57 => 206 | 58 => 207 | 59 => 208 | 60 => 209 | 61 => 210 | 62 => 211 | _ => 0, fun n => n⟩
theorem layCloneI : Lays2.n15 Tryz.prog r2c := {
  mixed := by kernel_rfl
  f15 := Tryz.func57.trans (congrArg some (by kernel_rfl))
  t3 := Tryz.underlying3
  a3 := Tryz.isAgg3
  z3 := Tryz.sizeOf3
  v3 := Tryz.zeroValue3
  t4 := Tryz.underlying4
  a4 := Tryz.isAgg4
  z4 := Tryz.sizeOf4
  v4 := Tryz.zeroValue4
  t22 := Tryz.underlying27
  a22 := Tryz.isAgg27
  z22 := Tryz.sizeOf27
  v22 := Tryz.zeroValue27
  i3 := by kernel_rfl
}
/-- the sort of a row of the call's own -/
theorem isort_own (g c n base : Nat) (l : List Int) (w : World) (h : w.ownsRow base 3 1 (.slice (some ⟨g, 0, none⟩) n c) n (il l)) (hn : n ≤ 1000000) (hb : base ≤ w.heap.size) :
    Calls Tryz.prog 78 #[.slice (some ⟨g, 0, none⟩) n c] w fun e w' => e = .returned (.tuple #[]) ∧ w'.ownsRow base 3 1 (.slice (some ⟨g, 0, none⟩) n c) n (il (l.mergeSort fun x y => decide (x ≤ y))) ∧ Below base w w' := by
  have hl : l.length = n := by have := h.1; simpa [il] using this
  subst hl
  rcases h.2 with ⟨hv, _⟩ | ⟨g', cap, cur, hv, hbg, hg, h1, h2, h3, ht⟩
  · cases hv
  injection hv with e1 e2 e3
  injection e1 with e1
  injection e1 with e4
  subst e4 e3
  rw [Nat.mul_one] at ht
  refine (Any.slices_Sort_int laySortI g 0 c l w (holds_of_blockI hg ht) (Array.getElem?_eq_some_iff.1 hg).1 (by omega)).mono ?_
  rintro e w' ⟨rfl, k, os, rfl⟩
  refine ⟨rfl, ownsRow_sortedI (by simp [List.length_mergeSort]) hbg hg h1 h2 h3, ?_⟩
  have hgr := grownBy_sortedI (w := w) (g := g) (n := k) (os := os) (l.mergeSort fun x y => decide (x ≤ y)).toArray
  exact (Below.refl base w).grown hgr hb (fun j e => by cases e; exact hbg)
theorem values_any (A : Option Addr) (n c : Nat) (w : World) :
    Calls Tryz.prog 76 #[.slice A n c] w fun e w' => e = .returned (.func (.func 102) #[] #[.pointer (some ⟨w.heap.size, 0, none⟩)]) ∧ w' = w.alloc (.cells #[.slice A n c] 27) := by
  go_enter Tryz.func76, Tryz.ntmps76
  go_wp2
  go_ret
  exact ⟨rfl, rfl⟩
theorem backward_any (A : Option Addr) (n c : Nat) (w : World) :
    Calls Tryz.prog 47 #[.slice A n c] w fun e w' => e = .returned (.func (.func 80) #[] #[.pointer (some ⟨w.heap.size, 0, none⟩)]) ∧ w' = w.alloc (.cells #[.slice A n c] 27) := by
  go_enter Tryz.func47, Tryz.ntmps47
  go_wp2
  go_ret
  exact ⟨rfl, rfl⟩
theorem collect_vals (l₀ : List Int) (A : Option Addr) (c Bn : Nat) (w : World) (hL : l₀.length ≤ 1000000) (hR0 : Reads w w.heap.size A l₀.length (il l₀)) (hB : Bn < w.heap.size) (hBn : w.cell? ⟨Bn, 0, none⟩ = some (.slice A l₀.length c)) :
    Calls Tryz.prog 101 #[.func (.func 102) #[] #[.pointer (some ⟨Bn, 0, none⟩)]] w fun e w' => ∃ v, e = .returned v ∧ w'.ownsRow w.heap.size 3 1 v l₀.length (il l₀) ∧ Below w.heap.size w w' := by
  have C := Lib.hid (appendSeq_vals l₀ A c Bn w hL hR0 hB hBn)
  clear hR0 hBn
  go_enter Tryz.func101, Tryz.ntmps101
  go_wp2_with (go_at_call 115; (with_reducible refine C.out.mono ?_); rintro e w1 ⟨v, rfl, hr, hb⟩; have HR1 := Lib.hid hr; have HB1 := Lib.hid hb; clear hr hb)
  go_ret
  exact ⟨v, rfl, HR1.out, HB1.out⟩
set_option maxRecDepth 100000 in
theorem sorted_vals (l₀ : List Int) (A : Option Addr) (c Bn : Nat) (w : World) (h0 : 0 < l₀.length) (hL : l₀.length ≤ 1000000) (hR0 : Reads w w.heap.size A l₀.length (il l₀)) (hB : Bn < w.heap.size) (hBn : w.cell? ⟨Bn, 0, none⟩ = some (.slice A l₀.length c)) :
    Calls Tryz.prog 75 #[.func (.func 102) #[] #[.pointer (some ⟨Bn, 0, none⟩)]] w fun e w' => ∃ g c', e = .returned (.slice (some ⟨g, 0, none⟩) l₀.length c') ∧ w'.ownsRow w.heap.size 3 1 (.slice (some ⟨g, 0, none⟩) l₀.length c') l₀.length (il (l₀.mergeSort fun x y => decide (x ≤ y))) ∧ Below w.heap.size w w' := by
  have C := Lib.hid (collect_vals l₀ A c Bn w hL hR0 hB hBn)
  have S := Lib.hid (fun g c' w' h hb => isort_own g c' l₀.length w.heap.size l₀ w' h hL hb)
  have HN := Lib.hid h0
  clear hR0 hBn h0
  go_enter Tryz.func75, Tryz.ntmps75
  go_wp2_with fail
  go_at_call 101
  refine C.out.mono ?_
  rintro e w1 ⟨v, rfl, hr, hb⟩
  have HB1 := Lib.hid hb
  have HS1 := hb.size
  rcases hr.2 with ⟨_, h0⟩ | ⟨g, cap, cur, rfl, _⟩
  · exact absurd h0 (by have := HN.out; omega)
  have HR1 := Lib.hid hr
  clear hr hb
  go_wp2_with (go_at_call 78; (with_reducible refine (S.out _ _ _ HR1.out HS1).mono ?_); rintro e w2 ⟨rfl, hr, hb⟩; have HR2 := Lib.hid hr; have HB2 := Lib.hid (HB1.out.trans hb); clear hr hb)
  go_ret
  exact ⟨g, cap, rfl, HR2.out, HB2.out⟩
end Go.Proofs.YtcgkkppidkkjiaaGreatDoor
namespace Go.Proofs.YtcgkkppidkkjiaaGreatDoor
open Go.RowKit Go.Shelf Go.Lib Go.Sort
theorem spot_of_cell' {w : World} {a : Addr} {u : Value} (h : w.cell? a = some u) : a = ⟨a.block, a.off, none⟩ := by
  obtain ⟨b, o, s⟩ := a
  cases s with
  | none => rfl
  | some s => unfold World.cell? at h; split at h <;> simp_all
theorem iclone_any (A : Option Addr) (c n : Nat) (l : List Int) (w : World) (h : Reads w w.heap.size A n (il l)) (hn : n ≤ 1000000) (h0 : 0 < n) :
    Calls Tryz.prog 57 #[.slice A n c] w fun e w' => ∃ g cap, e = .returned (.slice (some ⟨g, 0, none⟩) n cap) ∧ RowB w' w.heap.size g n cap l ∧ Below w.heap.size w w' := by
  have hl := reads_len h
  obtain ⟨ad, rfl, hb, hc⟩ := h.2 h0
  obtain ⟨b, o, s⟩ := ad
  have hc0 := hc 0 (.int .i64 (ig l 0)) (by simp [il, ig, show 0 < l.length by omega])
  have hs : s = none := by
    have := spot_of_cell' hc0
    simp [Addr.add] at this
    exact this
  subst hs
  have hcs : ∀ j, j < l.length → w.cell? ⟨b, o + j, none⟩ = some (.int .i64 (l.getD j 0)) := fun j hj => by
    have := hc j (.int .i64 (l.getD j 0)) (by simp [il, hj])
    rw [Addr.add_lit] at this
    exact this
  refine (Any.slices_Clone_int layCloneI b o n c l w (by omega) (by omega) hcs).mono ?_
  rintro e w' ⟨v', rfl, hr, hne, hbel⟩
  rw [List.take_of_length_le (by omega)] at hr
  rcases hr.2 with ⟨_, h1⟩ | ⟨g, cap, cur, rfl, _⟩
  · omega
  · exact ⟨g, cap, rfl, RowB.of hr, hbel⟩
theorem idelete (g cap base n i : Nat) (l : List Int) (w : World) (h : RowB w base g n cap l) (hi : i < n) :
    Calls Tryz.prog 77 #[.slice (some ⟨g, 0, none⟩) n cap, .int .i64 (i : Int), .int .i64 ((i + 1 : Nat) : Int)] w fun e w' => e = .returned (.slice (some ⟨g, 0, none⟩) (n - 1) cap) ∧ RowB w' base g (n - 1) cap (l.take i ++ l.drop (i + 1)) ∧ (base ≤ w.heap.size → Below base w w') := by
  obtain ⟨cur, hb, h1, h2, h3, h4, h5, h6⟩ := h
  subst h3
  have hmx : cap ≤ 9223372036854775807 := h5
  refine (Any.slices_Delete_int layDelete g 0 cap i (i + 1) l w (holds_of_blockI (e := 3) (cur := cur) hb h2) h4 hmx (by omega) (by omega)).mono ?_
  rintro e w' ⟨rfl, k, rfl⟩
  rw [show i + 1 - i = 1 by omega]
  have hlen : (l.take i ++ l.drop (i + 1) ++ List.replicate 1 (0 : Int)).length = l.length := by simp; omega
  have hh := heap_sortedI (w := w) (g := g) (n := k) (os := #[]) (cur := cur) (l.take i ++ l.drop (i + 1) ++ List.replicate 1 0).toArray hb
  have hg := grownBy_sortedI (w := w) (g := g) (n := k) (os := #[]) (l.take i ++ l.drop (i + 1) ++ List.replicate 1 0).toArray
  have ht := take_putCellsI cur (l.take i ++ l.drop (i + 1) ++ List.replicate 1 (0 : Int)) (by omega)
  have e0 : ∀ x : World, grow x #[] = x := fun x => by simp [grow]
  rw [e0] at hh hg
  refine ⟨rfl, ⟨_, hh, by simp [putCells, h1], ?_, by simp; omega, by omega, h5, h6⟩, fun hB => (Below.refl base w).grown hg hB (fun j e => by cases e; exact h6)⟩
  rw [hlen] at ht
  have := congrArg (List.take (l.length - 1)) ht
  rw [List.take_take, Nat.min_eq_left (by omega)] at this
  rw [this, ← List.map_take, List.take_append_of_le_length (by simp; omega), List.take_of_length_le (by simp; omega)]
  rfl
end Go.Proofs.YtcgkkppidkkjiaaGreatDoor
namespace Go.Proofs.YtcgkkppidkkjiaaGreatDoor
open Go.RowKit Go.Shelf Go.Lib
theorem perm_at {l s : List Int} {k : Nat} (hk : k < l.length) (hs : s.Perm (l.take k ++ l.drop (k + 1))) : (s.take k ++ ig l k :: s.drop k).Perm l := by
  have e : ig l k = l[k] := by simp [ig, hk]
  have h1 : (s.take k ++ ig l k :: s.drop k).Perm (ig l k :: s) := by
    have := @List.perm_middle Int (ig l k) (s.take k) (s.drop k)
    rwa [List.take_append_drop] at this
  have h2 : (ig l k :: (l.take k ++ l.drop (k + 1))).Perm (l.take k ++ ig l k :: l.drop (k + 1)) := (List.perm_middle).symm
  have h3 : l.take k ++ ig l k :: l.drop (k + 1) = l := by
    rw [e, List.getElem_cons_drop, List.take_append_drop]
  rw [h3] at h2
  exact h1.trans ((List.Perm.cons _ hs).trans h2)
theorem ig_mid {s : List Int} {k : Nat} {x : Int} (hk : k ≤ s.length) : ig (s.take k ++ x :: s.drop k) k = x := by
  have hl : (s.take k).length = k := by simp; omega
  unfold ig
  rw [List.getD_eq_getElem?_getD, List.getElem?_append_right (by omega), hl, Nat.sub_self]
  rfl
/-- what arranged promises -/
def ArrOut (w : World) (n : Nat) (l : List Int) (ok : List Int → Prop) (e : Ending) (w' : World) : Prop := ∃ g c m, e = .returned (.slice (some ⟨g, 0, none⟩) n c) ∧ Reads w' w'.heap.size (some ⟨g, 0, none⟩) n (il m) ∧ m.Perm l ∧ ok m ∧ Below w.heap.size w w'
set_option maxRecDepth 100000 in
theorem arranged_neg (A : Option Addr) (c n : Nat) (l : List Int) (ce : Int) (w : World) (h : Reads w w.heap.size A n (il l)) (hn : n ≤ 1000000) (h0 : 0 < n) (hce : ce < 0) :
    Calls Tryz.prog 45 #[.slice A n c, .int .i64 ce] w (ArrOut w n l fun _ => True) := by
  have hl := reads_len h
  subst hl
  have V := Lib.hid (values_any A l.length c w)
  have B0 := (Below.refl w.heap.size w).alloc (Nat.le_refl _) (.cells #[.slice A l.length c] 27)
  have S := Lib.hid (sorted_vals l A c w.heap.size (w.alloc (.cells #[.slice A l.length c] 27)) h0 hn ((h.below B0).more B0.size) (by simp) (by rw [(Blk.new w 27 #[.slice A l.length c]).cell]; rfl))
  have HB0 := Lib.hid B0
  have e1 : decide (ce < 0) = true := by rw [decide_eq_true_iff]; exact hce
  clear h B0
  go_enter Tryz.func45, Tryz.ntmps45
  go_wp2_with (first
    | (go_at_call 76; (with_reducible refine V.out.mono ?_); rintro e w1 ⟨rfl, rfl⟩)
    | (go_at_call 75; (with_reducible refine S.out.mono ?_); rintro e w2 ⟨g, c', rfl, hr, hb⟩; have HR := Lib.hid hr; have HB := Lib.hid hb; clear hr hb))
  go_ret
  exact ⟨g, c', _, rfl, (RowB.of HR.out).reads, List.mergeSort_perm _ _, trivial, HB0.out.trans (HB.out.mono HB0.out.size)⟩
set_option maxRecDepth 100000 in
set_option maxHeartbeats 1000000 in
theorem arranged_at (A : Option Addr) (c n k : Nat) (l : List Int) (w : World) (h : Reads w w.heap.size A n (il l)) (hn : n ≤ 1000000) (hk : k < n) :
    Calls Tryz.prog 45 #[.slice A n c, .int .i64 (k : Int)] w (ArrOut w n l fun m => ig m k = ig l k) := by
  have hl := reads_len h
  subst hl
  have C := Lib.hid (iclone_any A c l.length l w h hn (by omega))
  have D := Lib.hid (fun g cap w' (h : RowB w' w.heap.size g l.length cap l) => by
    have := idelete g cap w.heap.size l.length k l w' h hk
    rwa [show ((k + 1 : Nat) : Int) = (k : Int) + 1 by omega] at this)
  have S := Lib.hid (fun g cap w' (h : w'.ownsRow w.heap.size 3 1 (.slice (some ⟨g, 0, none⟩) (l.length - 1) cap) (l.length - 1) (il (l.take k ++ l.drop (k + 1)))) hb => isort_own g cap (l.length - 1) w.heap.size (l.take k ++ l.drop (k + 1)) w' h (by omega) hb)
  have I := Lib.hid (fun g cap vb (s : List Int) w' (h : RowB w' w.heap.size g (l.length - 1) cap s) hroom hv hne => by
    have := iinsert g cap w.heap.size (l.length - 1) k vb 1 s (ig l k) w' h (by omega) hroom hv hne
    rwa [show l.length - 1 + 1 = l.length by omega] at this)
  have HP := Lib.hid (fun (s : List Int) (h : s.Perm (l.take k ++ l.drop (k + 1))) => perm_at hk h)
  have HLS : ((l.take k ++ l.drop (k + 1)).mergeSort fun x y => decide (x ≤ y)).length = l.length - 1 := by simp [List.length_mergeSort]; omega
  obtain ⟨srt, hsrt⟩ : ∃ s, s = (l.take k ++ l.drop (k + 1)).mergeSort fun x y => decide (x ≤ y) := ⟨_, rfl⟩
  have HSP := Lib.hid (show srt.Perm (l.take k ++ l.drop (k + 1)) from hsrt ▸ List.mergeSort_perm _ _)
  rw [← hsrt] at S HLS
  have HLSH := Lib.hid HLS
  have HH := Lib.hid h
  obtain ⟨N, hN⟩ : ∃ N, l.length = N := ⟨_, rfl⟩
  rw [hN] at hn hk C D S I HH
  have HNN := Lib.hid hN
  have d1 : decide ((k : Int) < 0) = false := by rw [decide_eq_false_iff_not]; omega
  have w1e : IntKind.i64.wrap ((k : Int) + 1) = (k : Int) + 1 := IntWalk.i64_in _ ⟨by omega, by omega⟩
  rw [hN]
  clear h hN hsrt HLS
  go_enter Tryz.func45, Tryz.ntmps45
  go_wp2_with (first
    | (go_at_call 57; (with_reducible refine C.out.mono ?_); rintro e w1 ⟨g, cap, rfl, hr, hb⟩; have HR1 := Lib.hid hr; have HB1 := Lib.hid hb; have HS1 := hb.size; clear hr hb)
    | (go_at_call 77; (with_reducible refine (D.out _ _ _ HR1.out).mono ?_); rintro e w2 ⟨rfl, hr, hb⟩; have HR2 := Lib.hid hr; have HB2 := Lib.hid (HB1.out.trans (hb HS1)); have HS2 := HB2.out.size; clear hr hb)
    | (go_at_call 78; (with_reducible refine (S.out _ _ _ HR2.out.own HS2).mono ?_); rintro e w3 ⟨rfl, hr, hb⟩; have HR3 := Lib.hid (RowB.of hr); have HB3 := Lib.hid (HB2.out.trans hb); have HS3 := HB3.out.size; obtain ⟨ad, rfl, hbb, hc⟩ := il_at (HH.out.below HB3.out) hk; have HV := Lib.hid (Blk.new w3 3 #[.int .i64 (ig l k)]); have HR4 := Lib.hid (show RowB (w3.alloc (.cells #[.int .i64 (ig l k)] 3)) w.heap.size g (N - 1) cap srt from HR3.out.below ((Below.refl w3.heap.size w3).alloc (Nat.le_refl _) _) (by obtain ⟨cur, hbl, _⟩ := HR3.out; exact hbl.lt)); have HNE := Lib.hid (show w3.heap.size ≠ g from fun e => by obtain ⟨cur, hbl, _⟩ := HR3.out; have := hbl.lt; omega); have HCAP := Lib.hid (show N - 1 + 1 ≤ cap from by obtain ⟨cur, _, _, _, _, hh, _⟩ := HR1.out; omega); clear hr hb)
    | (go_at_call 79; (with_reducible refine (I.out _ _ _ _ _ HR4.out HCAP.out HV.out HNE.out).mono ?_); rintro e w4 ⟨rfl, hr, hb⟩; have HR5 := Lib.hid hr; have HB5 := Lib.hid ((HB3.out.alloc HS3 _).trans (hb (by simp; omega))); clear hr hb))
  go_ret
  exact ⟨g, cap, _, rfl, HR5.out.reads, HP.out srt HSP.out, ig_mid (by have := HLSH.out; have := HNN.out; omega), HB5.out⟩
end Go.Proofs.YtcgkkppidkkjiaaGreatDoor
