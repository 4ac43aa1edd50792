/- The walks of absolute, add and subtract. -/
import Derived.Test.YtckkbeknjipddaaDoorApp
import Derived.Deep.RegionHeld3
namespace Go.Proofs.YtckkbeknjipddaaDoor
open Go.RowKit

theorem absolute_pos (n : Nat) (w : World) (hn : n < 9223372036854775808) :
    Calls Tryd.prog 35 #[.int .i64 (n : Int)] w fun e w' => e = .returned (.int .u64 (n : Int)) ∧ w = w' := by
  go_enter Tryd.func35, Tryd.ntmps35
  go_wp2
  go_ret
  exact ⟨rfl, rfl⟩
theorem absolute_neg (m : Nat) (w : World) (hm : 0 < m) (hm2 : m ≤ 9223372036854775808) :
    Calls Tryd.prog 35 #[.int .i64 (-(m : Int))] w fun e w' => e = .returned (.int .u64 (m : Int)) ∧ w = w' := by
  go_enter Tryd.func35, Tryd.ntmps35
  go_wp2
  go_ret
  exact ⟨ret_int (by simp only [IntKind.wrap_u64]; omega), rfl⟩

/-- a row that is filled from its head on -/
def fillRow (f : Nat → Nat) (N i : Nat) : List Nat := (List.range i).map f ++ List.replicate (N - i) 0
theorem fill_zero (f : Nat → Nat) (N : Nat) : fillRow f N 0 = List.replicate N 0 := by simp [fillRow]
theorem fill_all (f : Nat → Nat) (N : Nat) : fillRow f N N = (List.range N).map f := by simp [fillRow]
theorem fill_len (f : Nat → Nat) (N i : Nat) (h : i ≤ N) : (fillRow f N i).length = N := by simp [fillRow]; omega
theorem fill_set (f : Nat → Nat) (N i : Nat) (h : i < N) : (fillRow f N i).set i (f i) = fillRow f N (i + 1) := by
  unfold fillRow
  rw [List.set_append_right _ _ (by simp), List.range_succ, List.map_append]
  simp only [List.length_map, List.length_range, Nat.sub_self, List.map_cons, List.map_nil, List.append_assoc, List.cons_append, List.nil_append]
  congr 1
  rw [show N - i = (N - (i + 1)) + 1 by omega, List.replicate_succ]
  rfl
theorem made_u32 (n : Nat) : (madeCells (Value.int .u32 0).cells (n * 1)).toList = u32s (List.replicate n 0) := by
  rw [u32s, List.map_replicate]
  apply List.ext_getElem
  · simp [madeCells, Value.cells]
  · intro i h1 h2
    simp [madeCells, Value.cells, Nat.mod_one]
theorem own_len {w : World} {base : Nat} {A : Option Addr} {n c : Nat} {xs : List Nat} (h : w.ownsRow base 42 1 (.slice A n c) n (u32s xs)) : xs.length = n := by
  have := h.1; simpa [u32s] using this
theorem own_cell {w : World} {base g n c : Nat} {xs : List Nat} (h : w.ownsRow base 42 1 (.slice (some ⟨g, 0, none⟩) n c) n (u32s xs)) {k : Nat} (hk : k < n) : w.cell? ⟨g, k, none⟩ = some (.int .u32 (xs.getD k 0 : Nat)) := by
  have hl := own_len h
  rw [h.cellAt k (by omega), u32s_at' xs k (d := xs.getD k 0)]
  simp [List.getD, List.getElem?_eq_getElem (show k < xs.length by omega)]

def addC (xs ys : List Nat) : Nat → Nat
  | 0 => 0
  | i + 1 => (xs.getD i 0 + ys.getD i 0 + addC xs ys i) / 4294967296
def addD (xs ys : List Nat) (i : Nat) : Nat := (xs.getD i 0 + ys.getD i 0 + addC xs ys i) % 4294967296
theorem getD_lt {xs : List Nat} {b : Nat} (hb : 0 < b) (h : ∀ d ∈ xs, d < b) (i : Nat) : xs.getD i 0 < b := by
  by_cases hl : i < xs.length
  · simp only [List.getD, List.getElem?_eq_getElem hl, Option.getD_some]
    exact h _ (List.getElem_mem hl)
  · rw [getD_out (by omega)]; exact hb
theorem addC_lt {xs ys : List Nat} (hx : ∀ d ∈ xs, d < 4294967296) (hy : ∀ d ∈ ys, d < 4294967296) (i : Nat) : addC xs ys i < 2 := by
  induction i with
  | zero => unfold addC; omega
  | succ i ih =>
    have h1 := getD_lt (by decide) hx i
    have h2 := getD_lt (by decide) hy i
    unfold addC
    omega

theorem three_reads (w : World) (a b c : Int) (x y z : Nat) (h1 : a = x) (h2 : b = y) (h3 : c = z) :
    Reads (w.alloc (.cells #[.int .u64 a, .int .u64 b, .int .u64 c] 53)) (w.heap.size + 1) (some ⟨w.heap.size, 0, none⟩) 3 (u64s [x, y, z]) := by
  subst h1 h2 h3
  exact reads_lit w #[.int .u64 (x : Int), .int .u64 (y : Int), .int .u64 (z : Int)] 53 3 (by decide) rfl

set_option maxRecDepth 100000 in
set_option maxHeartbeats 1000000 in
theorem add_any (A1 A2 : Option Addr) (n m c1 c2 B N : Nat) (xs ys : List Nat) (w : World) (h1 : Reads w B A1 n (u32s xs)) (h2 : Reads w B A2 m (u32s ys)) (hB : B ≤ w.heap.size) (hn : n ≤ 1000) (hm : m ≤ 1000) (hN : max n m = N)
    (hx : ∀ d ∈ xs, d < 4294967296) (hy : ∀ d ∈ ys, d < 4294967296) :
    Calls Tryd.prog 33 #[.slice A1 n c1, .slice A2 m c2] w fun e w' => ∃ g, e = .returned (.slice (some ⟨g, 0, none⟩) (N + 1) (N + 1)) ∧
      w'.ownsRow w.heap.size 42 1 (.slice (some ⟨g, 0, none⟩) (N + 1) (N + 1)) (N + 1) (u32s ((List.range (N + 1)).map (addD xs ys))) ∧ Below w.heap.size w w' := by
  obtain ⟨i0, hi, hz0, hz1, hz2⟩ := info_parts Tryd.info_u32
  have hN2 : N ≤ 1000 := by omega
  have hNi : max (n : Int) (m : Int) = (N : Int) := by omega
  go_enter Tryd.func33, Tryd.ntmps33
  go_wp2_with (at_make; refine wpList_make_full _ rfl _ _ 22 rfl w.heap.size 42 i0 (.int .u32 0) 1 Tryd.underlying22 hi hz0 hz1 .i64 .i64 _ _ (N + 1) rfl rfl (by omega) (by omega) (by rw [hz2]; omega) (by unfold maxLen; omega) (Nat.le_refl _) ?_; intro w1 hown1 hgrow1)
  all_goals
    go_loopw [6, 17] (fun cv iv wr => ∃ i : Nat, i ≤ N + 1 ∧ iv = .int .i64 i ∧ cv = .int .u64 (addC xs ys i : Nat) ∧ wr.ownsRow w.heap.size 42 1 (.slice (some ⟨w.heap.size, 0, none⟩) (N + 1) (N + 1)) (N + 1) (u32s (fillRow (addD xs ys) (N + 1) i)) ∧ Below w.heap.size w wr)
      (fun _ iv _ => N + 1 - (intOf iv).toNat)
    case atStart => exact ⟨0, Nat.zero_le _, rfl, rfl, by rw [fill_zero, ← made_u32]; exact hown1, (Below.refl _ _).grown hgrow1 (Nat.le_refl _) (fun k hk => by cases hk)⟩
    case round =>
      obtain ⟨i, hi2, rfl, rfl, hown, hbel⟩ := hrel
      by_cases hlt : i < N + 1
      · have d1 := digitAt_any A1 n c1 B i xs wr (h1.below (hbel.mono hB)) (by unfold maxLen; omega) (by unfold maxLen; omega)
        have d2 := digitAt_any A2 m c2 B i ys wr (h2.below (hbel.mono hB)) (by unfold maxLen; omega) (by unfold maxLen; omega)
        have b1 := getD_lt (by decide) hx i
        have b2 := getD_lt (by decide) hy i
        have b3 := addC_lt hx hy i
        have hfs := fill_set (addD xs ys) (N + 1) i hlt
        have hD : addD xs ys i = (xs.getD i 0 + ys.getD i 0 + addC xs ys i) % 4294967296 := rfl
        have hC : addC xs ys (i + 1) = (xs.getD i 0 + ys.getD i 0 + addC xs ys i) / 4294967296 := rfl
        obtain ⟨x, hxe⟩ : ∃ x, x = xs.getD i 0 := ⟨_, rfl⟩
        obtain ⟨y, hye⟩ : ∃ y, y = ys.getD i 0 := ⟨_, rfl⟩
        obtain ⟨q, hqe⟩ : ∃ q, q = addC xs ys i := ⟨_, rfl⟩
        rw [← hxe] at d1 b1 hD hC
        rw [← hye] at d2 b2 hD hC
        rw [← hqe] at b3 hD hC ⊢
        have D1 := Lib.hid d1
        have D2 := Lib.hid d2
        have HD := Lib.hid hD
        have HC := Lib.hid hC
        have HFS := Lib.hid hfs
        have hcell := own_cell hown hlt
        have hfr : wr.frozen? ⟨w.heap.size, i, none⟩ = false := hown.frozenAt i
        have hgs : w.heap.size < wr.heap.size := (hown.lt w.heap.size rfl).2
        have HR := Lib.hid (three_reads wr (x : Int) (y : Int) (q : Int) x y q rfl rfl rfl)
        clear d1 d2 hxe hye hqe hD hC hfs
        go_wp2_with (first | (go_at_call 38; (with_reducible refine D1.out.mono ?_); rintro e w' ⟨rfl, rfl⟩) | (go_at_call 38; (with_reducible refine D2.out.mono ?_); rintro e w' ⟨rfl, rfl⟩) | (go_at_call 41; refine (column_any _ _ _ _ [x, y, q] _ HR.out (by decide) (by simp; omega)).mono ?_; rintro e w' ⟨rfl, rfl⟩))
        go_roundw
        case rel =>
          have hs := ((hown.stored i (.int .u32 ((addD xs ys i : Nat) : Int))).1.alloc (.cells #[.int .u64 (x : Int), .int .u64 (y : Int), .int .u64 (q : Int)] 53))
          rw [u32s_set, HFS.out, HD.out] at hs
          refine ⟨i + 1, by omega, by go_num, ?_, ?_, ?_⟩
          · rw [HC.out]; exact congrArg (Value.int .u64) (by simp [Nat.add_assoc, Int.add_assoc])
          · simpa [Nat.add_assoc, Int.add_assoc] using hs
          · exact (Below.setCell hbel (p := ⟨w.heap.size, i, none⟩) (Nat.le_refl _) _).alloc (by have := hbel.size; simpa [World.setCell] using this) _
        case measure => simp [intOf]; omega
      · obtain rfl : i = N + 1 := by omega
        go_wp2
        go_ret
        exact ⟨w.heap.size, rfl, by rw [← fill_all]; exact hown, hbel⟩

end Go.Proofs.YtckkbeknjipddaaDoor
