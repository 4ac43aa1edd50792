/- The columns that examine lays. -/
import Derived.Test.YtjekpmkghpjamaaGreatDoorMab
import Derived.Test.YtjekpmkghpjamaaGreatDoorMaj
import Derived.Test.YtjekpmkghpjamaaGreatDoorMae
import Derived.Test.YtjekpmkghpjamaaGreatDoorMaa
import Derived.Test.YtjekpmkghpjamaaGreatDoorMaf
import Derived.Test.YtjekpmkghpjamaaGreatDoorMak
import Derived.Test.YtjekpmkghpjamaaGreatDoorMai
import Derived.Test.YtjekpmkghpjamaaGreatDoorMah
import Derived.Below
import Derived.BigQuiet
import Derived.Carry
import Derived.Deep.AppendLies
import Derived.Deep.CutRange
import Derived.Deep.Draws
import Derived.Deep.QuietTactic
import Derived.Deep.RegionHeldLaw
import Derived.Deep.RegionLaw
import Derived.DeepKeys4
import Derived.IntWalk
import Derived.Laws.MakeOwn
import Derived.Laws.OwnMore
import Derived.Laws.Rows
import Derived.Lib.Hide
import Derived.LoopN
import Derived.Maps.OwnOps
import Derived.OwnWalk
import Derived.Shelf.Abstract
import Derived.Sort.Statements
import Derived.StillTail
import Derived.StillTailTactics
import Derived.Test.YtjekpmkghpjamaaGreatDoorRows
import Derived.WalkKit
namespace Go.Proofs.YtjekpmkghpjamaaGreatDoor
open Go.RowKit
/-- oct nodes as cells: levels g, elements by rows -/
def woX (g : Nat → Int) (rows : List (List Int)) (x : Nat) : Value := if x % 9 = 0 then .int .i64 (g (x / 9)) else .int .i32 (ig (rows.getD (x % 9 - 1) []) (x / 9))
def woA (g : Nat → Int) (rows : List (List Int)) : Array Value := ((List.range 72).map (woX g rows)).toArray
theorem woA_get (g : Nat → Int) (rows : List (List Int)) {x : Nat} (h : x < 72) : (woA g rows)[x]? = some (woX g rows x) := by simp [woA, h]
theorem woA_congr {g g' : Nat → Int} {rows rows' : List (List Int)} (h : ∀ x, x < 72 → woX g rows x = woX g' rows' x) : woA g rows = woA g' rows' := by
  unfold woA
  congr 1
  exact List.map_congr_left (fun x hx => h x (List.mem_range.1 hx))
theorem woA_start (g : Nat → Int) (rows : List (List Int)) (R : List Int) : woA g (rows ++ [R.take 0]) = woA g rows := by
  refine woA_congr fun x hx => ?_
  unfold woX
  split
  · rfl
  · rcases Nat.lt_trichotomy (x % 9 - 1) rows.length with h | h | h
    · simp [List.getD, List.getElem?_append_left h]
    · simp [List.getD, h]
    · simp [List.getD, List.getElem?_append_right (Nat.le_of_lt h), List.getElem?_eq_none (Nat.le_of_lt h)]
      obtain ⟨y, hy⟩ : ∃ y, x % 9 - 1 - rows.length = y + 1 := ⟨x % 9 - 1 - rows.length - 1, by omega⟩
      simp [hy]
theorem woA_set {g : Nat → Int} {A : Array Value} {rows rows' : List (List Int)} {i : Nat} {v : Value} (hi : i < 72) (hv : woX g rows' i = v) (h : ∀ x, x < 72 → x ≠ i → woX g rows' x = woX g rows x) : (woA g rows).setIfInBounds i v = woA g rows' := by
  apply Array.ext
  · simp [woA]
  · intro x h1 h2
    have hx : x < 72 := by simpa [woA] using h2
    rw [Array.getElem_setIfInBounds]
    · split
      · next e => subst e; simp [woA, hv]
      · next e => simp [woA, h x hx (fun q => e q.symm)]
    · simpa [woA] using hx
theorem woA_step {g : Nat → Int} {rows : List (List Int)} {R : List Int} {q : Nat} (hr : rows.length < 8) (hq : q < 8) (hR : R.length = 8) :
    (woA g (rows ++ [R.take q])).setIfInBounds (q * 9 + 1 + rows.length) (.int .i32 (ig R q)) = woA g (rows ++ [R.take (q + 1)]) := by
  refine woA_set (A := #[]) (by omega) ?_ fun x hx hne => ?_
  · unfold woX
    rw [if_neg (by omega), show (q * 9 + 1 + rows.length) % 9 - 1 = rows.length by omega, show (q * 9 + 1 + rows.length) / 9 = q by omega]
    simp [List.getD, ig, List.getElem?_take]
  · unfold woX
    split
    · rfl
    · rcases Nat.lt_trichotomy (x % 9 - 1) rows.length with h | h | h
      · simp [List.getD, List.getElem?_append_left h]
      · have hxq : x / 9 ≠ q := by omega
        simp only [List.getD, h, List.getElem?_append_right (Nat.le_refl _), Nat.sub_self, List.getElem?_cons_zero, Option.getD_some, ig, List.getElem?_take]
        rcases Nat.lt_or_gt_of_ne hxq with hlt | hgt
        · rw [if_pos (by omega), if_pos hlt]
        · rw [if_neg (by omega), if_neg (by omega)]
      · simp [List.getD, List.getElem?_append_right (Nat.le_of_lt h)]
        obtain ⟨y, hy⟩ : ∃ y, x % 9 - 1 - rows.length = y + 1 := ⟨x % 9 - 1 - rows.length - 1, by omega⟩
        simp [hy]
theorem woA_full (g : Nat → Int) (rows : List (List Int)) {R : List Int} (hR : R.length = 8) : woA g (rows ++ [R.take 8]) = woA g (rows ++ [R]) := by rw [List.take_of_length_le (by omega)]
/-- the levels of the first q nodes -/
def lvQ (lv : Int) (q x : Nat) : Int := if x < q then lv else 0
theorem woA_level {lv : Int} {rows : List (List Int)} {q : Nat} (hq : q < 8) : (woA (lvQ lv q) rows).setIfInBounds (q * 9) (.int .i64 lv) = woA (lvQ lv (q + 1)) rows := by
  apply Array.ext
  · simp [woA]
  · intro x h1 h2
    have hx : x < 72 := by simpa [woA] using h2
    rw [Array.getElem_setIfInBounds]
    · split
      · next e =>
        subst e
        simp [woA, woX, lvQ]
      · next e =>
        simp only [woA, List.getElem_toArray, List.getElem_map, List.getElem_range, woX]
        split
        · next h9 =>
          have : x / 9 ≠ q := by omega
          unfold lvQ
          by_cases h3 : x / 9 < q
          · rw [if_pos h3, if_pos (by omega)]
          · rw [if_neg h3, if_neg (by omega)]
        · rfl
    · simpa [woA] using hx
/-- a column, read as a node -/
theorem woA_col {g : Nat → Int} {rows : List (List Int)} {q : Nat} {lv : Int} (hq : q < 8) (hg : g q = lv) (hr : rows.length ≤ 8) {i : Nat} (hi : i < 9) : (woA g rows)[q * 9 + i]? = (nodC (colN lv rows q))[i]? := by
  rw [woA_get _ _ (by omega)]
  cases i with
  | zero => simp [woX, nodC, colN, hg]
  | succ k =>
    unfold woX
    rw [if_neg (by omega), show (q * 9 + (k + 1)) % 9 - 1 = k by omega, show (q * 9 + (k + 1)) / 9 = q by omega]
    simp only [nodC, colN, List.getElem?_cons_succ, List.map_append, List.map_map, List.map_replicate]
    by_cases hk : k < rows.length
    · rw [List.getElem?_append_left (by simpa using hk)]
      simp [List.getD, hk]
    · rw [List.getElem?_append_right (by simpa using hk)]
      simp only [List.length_map, List.getD, List.getElem?_eq_none (Nat.le_of_not_lt hk), Option.getD_none]
      rw [List.getElem?_replicate, if_pos (by omega)]
      simp [ig]
theorem colN_len {lv : Int} {rows : List (List Int)} {q : Nat} (h : rows.length ≤ 8) : (colN lv rows q).r.length = 8 := by simp [colN]; omega
theorem rows_R8 {rows : List (List Int)} {lv : Int} {q : Nat} (h8 : rows.length ≤ 8) (hq : q < 8) (h : ∀ R ∈ rows, R8 R) : R8 (colN lv rows q).r := by
  refine ⟨colN_len h8, fun x hx => ?_⟩
  rcases List.mem_append.1 hx with hx | hx
  · obtain ⟨R, hR, rfl⟩ := List.mem_map.1 hx
    exact (h R hR).2 _ (ig_mem (by rw [(h R hR).1]; exact hq))
  · have := List.eq_of_mem_replicate hx
    omega
section
variable {sn fb kb : Nat} {w w' : World} {G : Nat → Prop} {s : List Ndv × Mem}
theorem Exs.forest (h : Exs sn fb kb w G s) : ∃ H, Fo w fb H (sn : Int) s.1 ∧ ∀ w' H' L', Fo w' fb H' (sn : Int) L' → Fr H w H' w' → Exs sn fb kb w' (fun k => G k ∨ H' k) (L', s.2) ∧ Fr G w (fun k => G k ∨ H' k) w' := by
  obtain ⟨H, hf, hHG, hm, hG1, hG2, hR⟩ := h
  refine ⟨H, hf, fun w' H' L' hf' hF => ⟨⟨H', hf', fun k hk => ⟨.inr hk, ?_⟩, hF.map hm (fun hk => (hHG _ hk).2 rfl), .inl hG1, fun k hk => ?_, hR⟩, hF.weak (fun k hk => (hHG k hk).1) (fun k hk => hk.elim .inl (fun hk => ?_))⟩⟩
  · rcases hF.new k hk with h | h
    · exact (hHG k h).2
    · have := hG2 _ hG1; omega
  · rcases hk with hk | hk
    · exact Nat.lt_of_lt_of_le (hG2 k hk) hF.size
    · exact hf'.st2.2.2.2.2.2.2.1 k hk
  · rcases hF.new k hk with h | h
    · exact .inl (hHG k h).1
    · exact .inr h
theorem Exs.memo {n : Int} {R : List Int} (h : Exs sn fb kb w G s) (hn : I32 n) (hR : R8 R) : ∃ w', (Instr.mapUpdate 147 (.map (some kb)) (.int .i32 n) (rowV R)).run Tryz.prog w = .ok () w' ∧ Exs sn fb kb w' G (s.1, (n, R) :: s.2) ∧ Fr G w G w' ∧ w'.heap.size = w.heap.size ∧ (∀ k, k ≠ kb → w'.heap[k]? = w.heap[k]?) := by
  obtain ⟨H, hf, hHG, hm, hG1, hG2, hRR⟩ := h
  obtain ⟨w', hr, hm', hs, hF⟩ := hm.store (t := 147) Tryz.keyI32 Tryz.underlying147 R (key_i32 hn.1 hn.2) (fun y _ _ e => i32V_inj e)
  refine ⟨w', hr, ⟨H, hf.keep hF (fun k hk e => (hHG k hk).2 e), hHG, ?_, hG1, fun k hk => by rw [hs]; exact hG2 k hk, ?_⟩, hF.weak (fun k e => e ▸ hG1) (fun k h => .inl h), hs, fun k hk => ?_⟩
  · have : (fun y => List.lookup y ((n, R) :: s.2)) = (fun y => if y = n then some R else s.2.lookup y) := by
      funext y
      by_cases e : y = n <;> simp [List.lookup, e]
      · have : (y == n) = false := by simp [e]
        rw [this]
    show MapOf _ _ _ _ _ _ (fun y => List.lookup y ((n, R) :: s.2))
    rw [this]
    exact hm'
  · intro y Q hy
    simp only [List.lookup] at hy
    split at hy
    · injection hy with hy; subst hy; exact hR
    · exact hRR y Q hy
  · rcases Nat.lt_or_ge k w.heap.size with h | h
    · exact hF.block k h hk
    · rw [Array.getElem?_eq_none (by omega), Array.getElem?_eq_none h]
end
/-- an element of a row by value -/
theorem run_row {R : List Int} (hR : R.length = 8) (w : World) (q : Nat) (h : q < 8) : (Instr.index 150 (rowV R) (.int .i64 (q : Int))).run Tryz.prog w = .ok (.int .i32 (ig R q)) w := by
  obtain ⟨i0, hi, hz0, hz1, hz2⟩ := info_parts Tryz.info_i32
  have ha := run_isAgg_plain (P := Tryz.prog) Tryz.underlying21 rfl
  have hc : Tryz.prog.cellsOf 21 = 1 := by simp [Program.cellsOf, hi, hz1]
  have hv : (R.map fun x => Value.int .i32 x).toArray[q]? = some (.int .i32 (ig R q)) := row_get (by omega)
  have h2 : (q : Int) < 8 := by omega
  simp [Instr.index, run_underlying Tryz.underlying150, asIntOf, go_sem, run_sizeOf w hi, hz1, part, ha, hc, h2, rowV]
  have hv2 : R[q]? = some (ig R q) := by simpa using hv
  simp [hv2, h, Result.andThen]
end Go.Proofs.YtjekpmkghpjamaaGreatDoor
