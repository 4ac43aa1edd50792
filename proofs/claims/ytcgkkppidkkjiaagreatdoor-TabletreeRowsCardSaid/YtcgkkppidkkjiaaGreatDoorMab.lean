/- Lists of numbers: what they read as; the searches in them and their comparison. -/
/- The bodies of the library's generic functions on lists of numbers lie in this program as the library's own contracts ask: facts that the kernel compares, and nothing else. -/
/- Rule tables as values: what a list of lists, a list of rows and a table read as; the first number that has a property. -/
import Derived.Test.YtcgkkppidkkjiaaGreatDoorMaa
import Derived.Below
import Derived.BigQuiet
import Derived.Deep.AppendLies
import Derived.Deep.Draws
import Derived.Deep.QuietTactic
import Derived.IntWalk
import Derived.Laws.OwnMore
import Derived.Laws.Rows
import Derived.Lib.Hide
import Derived.LoopN
import Derived.OwnWalk
import Derived.StillTail
import Derived.StillTailTactics
import Derived.Test.YtcgkkppidkkjiaaGreatDoorRows
import Derived.WalkKit
import Derived.Shelf.SlIterI.Sorted
import Derived.Shelf.Slices.Delete
import Derived.Shelf.Spec.SlicesInsert
import Derived.Sort.Statements
namespace Go.Proofs.YtcgkkppidkkjiaaGreatDoor
open Go.RowKit
/-- a list of numbers as cells -/
def il (l : List Int) : List Value := l.map fun x => .int .i64 x
theorem il_add (l : List Int) (x : Int) : il (l ++ [x]) = il l ++ [.int .i64 x] := by simp [il]
/-- number k of a list -/
def ig (l : List Int) (k : Nat) : Int := l.getD k 0
theorem Reads.later {w w' : World} {A : Option Addr} {n : Nat} {xs : List Value} (h : Reads w w.heap.size A n xs) (hb : Below w.heap.size w w') : Reads w' w'.heap.size A n xs := (h.below hb).more hb.size
theorem il_at {w : World} {B n : Nat} {A : Option Addr} {l : List Int} (h : Reads w B A n (il l)) {k : Nat} (hk : k < n) :
    ∃ ad, A = some ad ∧ ad.block < B ∧ w.cell? (ad.add k) = some (.int .i64 (ig l k)) := by
  obtain ⟨ad, u, e, hb, hx, hc⟩ := h.at_ hk
  refine ⟨ad, e, hb, ?_⟩
  rw [hc, ← hx]
  simp only [il, List.getElem?_map, ig, List.getD] at hx ⊢
  cases h' : l[k]? with
  | none => rw [h'] at hx; cases hx
  | some d => simp
theorem reads_len {w : World} {B n : Nat} {A : Option Addr} {l : List Int} (h : Reads w B A n (il l)) : l.length = n := by simpa [il] using h.1
theorem ig_mem {l : List Int} {j : Nat} (h : j < l.length) : ig l j ∈ l := by
  rw [ig, List.getD_eq_getElem?_getD, List.getElem?_eq_getElem h]; exact List.getElem_mem h
theorem mem_ig {l : List Int} {k : Int} (h : k ∈ l) : ∃ j, j < l.length ∧ ig l j = k := by
  obtain ⟨j, hj, rfl⟩ := List.getElem_of_mem h
  exact ⟨j, hj, by rw [ig, List.getD_eq_getElem?_getD, List.getElem?_eq_getElem hj]; rfl⟩

section
variable (A : Option Addr) (n c B : Nat) (l : List Int) (k : Int) (w : World)
theorem index_no (h : Reads w B A n (il l)) (hn : n ≤ 1000000) (hk : k ∉ l) :
    Calls Tryz.prog 94 #[.slice A n c, .int .i64 k] w fun e w' => e = .returned (.int .i64 (-1)) ∧ w = w' := by
  have HL := Lib.hid (reads_len h)
  have H := Lib.hid h
  clear h
  go_enter Tryz.func94, Tryz.ntmps94
  go_wp2
  go_loop [8] (fun iv => ∃ j : Nat, j ≤ n ∧ iv = .int .i64 (j : Int)) (fun iv => n - (intOf iv).toNat)
  case atStart => exact ⟨0, Nat.zero_le _, rfl⟩
  case round =>
    obtain ⟨j, hj, rfl⟩ := hrel
    by_cases hlt : j < n
    · obtain ⟨ad, rfl, hb, hc⟩ := il_at H.out hlt
      have hx : ig l j ≠ k := fun e => hk (by rw [← e]; exact ig_mem (by rw [HL.out]; exact hlt))
      generalize ig l j = x at hc hx
      have ht : (x == k) = false := by rw [beq_eq_false_iff_ne]; exact hx
      have ht2 : (k == x) = false := by rw [beq_eq_false_iff_ne]; exact hx.symm
      clear hx
      go_wp2
      go_round
      case rel => exact ⟨j + 1, by omega, by go_num⟩
      case measure => simp [intOf]; omega
    · obtain rfl : j = n := by omega
      go_wp2
      go_ret
      exact ⟨rfl, rfl⟩
theorem index_yes (h : Reads w B A n (il l)) (hn : n ≤ 1000000) (hk : k ∈ l) :
    Calls Tryz.prog 94 #[.slice A n c, .int .i64 k] w fun e w' => ∃ r : Nat, e = .returned (.int .i64 (r : Nat)) ∧ w = w' := by
  have HL := Lib.hid (reads_len h)
  have H := Lib.hid h
  clear h
  go_enter Tryz.func94, Tryz.ntmps94
  go_wp2
  go_loop [8] (fun iv => ∃ j : Nat, j ≤ n ∧ iv = .int .i64 (j : Int) ∧ ∀ i, i < j → ig l i ≠ k) (fun iv => n - (intOf iv).toNat)
  case atStart => exact ⟨0, Nat.zero_le _, rfl, fun i hi => absurd hi (by omega)⟩
  case round =>
    obtain ⟨j, hj, rfl, hno⟩ := hrel
    have HN := Lib.hid hno
    clear hno
    by_cases hlt : j < n
    · obtain ⟨ad, rfl, hb, hc⟩ := il_at H.out hlt
      obtain ⟨x, hx⟩ : ∃ x, x = ig l j := ⟨_, rfl⟩
      rw [← hx] at hc
      have HXX := Lib.hid hx
      clear hx
      by_cases hxk : x = k
      · subst hxk
        go_wp2
        go_ret
        exact ⟨⟨j, rfl⟩, rfl⟩
      · have ht : (x == k) = false := by rw [beq_eq_false_iff_ne]; exact hxk
        have ht2 : (k == x) = false := by rw [beq_eq_false_iff_ne]; exact fun e => hxk e.symm
        have HK := Lib.hid hxk
        clear hxk
        go_wp2
        go_round
        case rel =>
          exact ⟨j + 1, by omega, by go_num, fun i hi => by
            by_cases e : i = j
            · subst e; rw [← HXX.out]; exact HK.out
            · exact HN.out i (by omega)⟩
        case measure => simp [intOf]; omega
    · exfalso
      obtain ⟨i, hi, he⟩ := mem_ig hk
      exact HN.out i (by have := HL.out; omega) he
theorem contains_any (h : Reads w B A n (il l)) (hn : n ≤ 1000000) :
    Calls Tryz.prog 68 #[.slice A n c, .int .i64 k] w fun e w' => e = .returned (.bool (decide (k ∈ l))) ∧ w = w' := by
  by_cases hk : k ∈ l
  · have IX := Lib.hid (index_yes A n c B l k w h hn hk)
    rw [decide_eq_true hk]
    clear h hk
    go_enter Tryz.func68, Tryz.ntmps68
    go_wp2_with (go_at_call 94; (with_reducible refine IX.out.mono ?_); rintro e w' ⟨r, rfl, rfl⟩)
    go_ret
    exact ⟨rfl, rfl⟩
  · have IX := Lib.hid (index_no A n c B l k w h hn hk)
    rw [decide_eq_false hk]
    clear h hk
    go_enter Tryz.func68, Tryz.ntmps68
    go_wp2_with (go_at_call 94; (with_reducible refine IX.out.mono ?_); rintro e w' ⟨rfl, rfl⟩)
    go_ret
    exact ⟨rfl, rfl⟩
end
end Go.Proofs.YtcgkkppidkkjiaaGreatDoor
namespace Go.Proofs.YtcgkkppidkkjiaaGreatDoor
open Go.Shelf
def r2 : Go.Shelf.Ren := ⟨fun | 0 => 0 | 1 => 1 | 2 => 2 | 15 => 57 | 21 => 79 | 23 => 77 | 27 => 105 | 28 => 106 | 31 => 122 | 35 => 127 | 37 => 109 | 39 => 137 | 40 => 152 | 41 => 153 | 42 => 154 | 43 => 155 | 44 => 156 | 45 => 157 | 46 => 158 | 47 => 159 | 48 => 160 | 49 => 161 | 50 => 162 | 51 => 163 | 52 => 164 | 53 => 165 | 54 => 166 | 55 => 168 | _ => 0, fun | 0 => 0 | 1 => 1 | 2 => 2 | 3 => 3 | 4 => 4 | 5 => 5 | 6 => 6 | 7 => 7 | 8 => 8 | 9 => 9 | 10 => 10 | 11 => 11 | 12 => 12 | 13 => 13 | 14 => 14 | 15 => 15 | 16 => 16 | 17 => 17 | 18 => 18 | 19 => 19 | 20 => 20 | 21 => 21 | 22 => 27 | 23 => 100 | 28 => 123 | 29 => 121 | 33 => 55 | 36 => 49 | 37 => 98 | 40 => 157 | 41 => 113 | 42 => 89 | 45 => 122 | 46 => 196 | 47 => 197 | 48 => 198 | 49 => 199 | 50 => 200 | 51 => 201 | 52 => 202 | 53 => 173 | 54 => 203 | 55 => 204 | 56 => 205 | 57 => 206 | 58 => 207 | 59 => 208 | 60 => 209 | 61 => 210 | 62 => 211 | _ => 0, fun n => n⟩
theorem layDelete : Lays2.n23 Tryz.prog r2 := {
  mixed := by kernel_rfl
  f23 := Tryz.func77.trans (congrArg some (by kernel_rfl))
  t0 := Tryz.underlying0
  a0 := Tryz.isAgg0
  z0 := Tryz.sizeOf0
  v0 := Tryz.zeroValue0
  t3 := Tryz.underlying3
  a3 := Tryz.isAgg3
  z3 := Tryz.sizeOf3
  v3 := Tryz.zeroValue3
  t4 := Tryz.underlying4
  a4 := Tryz.isAgg4
  z4 := Tryz.sizeOf4
  v4 := Tryz.zeroValue4
  t22 := Tryz.underlying27
  a22 := Tryz.isAgg27
  z22 := Tryz.sizeOf27
  v22 := Tryz.zeroValue27
  i3 := by kernel_rfl
}
theorem layInsert : Lays2.n21 Tryz.prog r2 := {
  mixed := by kernel_rfl
  f21 := Tryz.func79.trans (congrArg some (by kernel_rfl))
  f27 := Tryz.func105.trans (congrArg some (by kernel_rfl))
  f28 := Tryz.func106.trans (congrArg some (by kernel_rfl))
  f35 := Tryz.func127.trans (congrArg some (by kernel_rfl))
  f39 := Tryz.func137.trans (congrArg some (by kernel_rfl))
  t0 := Tryz.underlying0
  a0 := Tryz.isAgg0
  z0 := Tryz.sizeOf0
  v0 := Tryz.zeroValue0
  t3 := Tryz.underlying3
  a3 := Tryz.isAgg3
  z3 := Tryz.sizeOf3
  v3 := Tryz.zeroValue3
  t4 := Tryz.underlying4
  a4 := Tryz.isAgg4
  z4 := Tryz.sizeOf4
  v4 := Tryz.zeroValue4
  t22 := Tryz.underlying27
  a22 := Tryz.isAgg27
  z22 := Tryz.sizeOf27
  v22 := Tryz.zeroValue27
  i3 := by kernel_rfl
}
end Go.Proofs.YtcgkkppidkkjiaaGreatDoor
namespace Go.Proofs.YtcgkkppidkkjiaaGreatDoor
open Go.RowKit
/-- the first number below n with a property; -1 if there is none -/
def fx (p : Nat → Bool) : Nat → Int
  | 0 => -1
  | n + 1 => if 0 ≤ fx p n then fx p n else if p n = true then (n : Int) else -1
theorem fx_none {p : Nat → Bool} {n : Nat} (h : ∀ i, i < n → p i = false) : fx p n = -1 := by
  induction n with
  | zero => rfl
  | succ n ih => rw [fx, ih (fun i hi => h i (by omega)), h n (by omega)]; simp
theorem fx_some {p : Nat → Bool} {n j : Nat} (hj : j < n) (h : ∀ i, i < j → p i = false) (hp : p j = true) : fx p n = (j : Int) := by
  induction n with
  | zero => omega
  | succ n ih =>
    rw [fx]
    by_cases e : j < n
    · rw [ih e, if_pos (by omega)]
    · obtain rfl : j = n := by omega
      rw [fx_none h, hp]
      simp
theorem fx_cases (p : Nat → Bool) (n : Nat) : (∃ j, j < n ∧ fx p n = (j : Int) ∧ p j = true ∧ ∀ i, i < j → p i = false) ∨ (fx p n = -1 ∧ ∀ i, i < n → p i = false) := by
  induction n with
  | zero => exact .inr ⟨rfl, fun i hi => absurd hi (by omega)⟩
  | succ n ih =>
    rcases ih with ⟨j, hj, e, h1, h2⟩ | ⟨e, h1⟩
    · exact .inl ⟨j, by omega, by rw [fx, e, if_pos (by omega)], h1, h2⟩
    · cases hp : p n with
      | true => exact .inl ⟨n, by omega, by rw [fx, e, hp]; simp, hp, h1⟩
      | false => exact .inr ⟨by rw [fx, e, hp]; simp, fun i hi => by
          by_cases e : i < n
          · exact h1 i e
          · obtain rfl : i = n := by omega
            exact hp⟩
/-- where a number stands first in a list -/
def ix (l : List Int) (k : Int) : Int := fx (fun i => decide (ig l i = k)) l.length
/-- where a position stands first in a list -/
def px (f : Nat → P2) (n : Nat) (a : P2) : Int := fx (fun i => decide (f i = a)) n

/-- a list of lists of numbers -/
def VR (w : World) (B : Nat) (A : Option Addr) (n : Nat) (v : Nat → List Int) : Prop :=
  0 < n → ∃ ad, A = some ad ∧ ad.block < B ∧ ∀ k, k < n → ∃ A' c', w.cell? (ad.add k) = some (.slice A' (v k).length c') ∧ Reads w B A' (v k).length (il (v k))
/-- a list of rows -/
def RR (w : World) (B : Nat) (A : Option Addr) (n : Nat) (ri : Nat → List Int) (ro : Nat → Int) : Prop :=
  0 < n → ∃ g o, A = some ⟨g, o, none⟩ ∧ g < B ∧ ∀ k, k < n → ∃ A' c', w.cell? ⟨g, o + k * 2, none⟩ = some (.slice A' (ri k).length c') ∧ Reads w B A' (ri k).length (il (ri k)) ∧ w.cell? ⟨g, o + k * 2 + 1, none⟩ = some (.int .i64 (ro k))
section
variable {w w' : World} {B B' n : Nat} {A : Option Addr} {v ri : Nat → List Int} {ro : Nat → Int}
theorem VR.below (h : VR w B A n v) (hb : Below B w w') : VR w' B A n v := fun hn => by
  obtain ⟨ad, e, hg, hc⟩ := h hn
  exact ⟨ad, e, hg, fun k hk => by
    obtain ⟨A', c', h1, h2⟩ := hc k hk
    exact ⟨A', c', (hb.cell (by rw [block_of_add]; exact hg)).trans h1, h2.below hb⟩⟩
theorem VR.more (h : VR w B A n v) (hB : B ≤ B') : VR w B' A n v := fun hn => by
  obtain ⟨ad, e, hg, hc⟩ := h hn
  exact ⟨ad, e, Nat.lt_of_lt_of_le hg hB, fun k hk => by
    obtain ⟨A', c', h1, h2⟩ := hc k hk
    exact ⟨A', c', h1, h2.more hB⟩⟩
theorem VR.later (h : VR w w.heap.size A n v) (hb : Below w.heap.size w w') : VR w' w'.heap.size A n v := (h.below hb).more hb.size
theorem RR.below (h : RR w B A n ri ro) (hb : Below B w w') : RR w' B A n ri ro := fun hn => by
  obtain ⟨g, o, e, hg, hc⟩ := h hn
  exact ⟨g, o, e, hg, fun k hk => by
    obtain ⟨A', c', h1, h2, h3⟩ := hc k hk
    exact ⟨A', c', (hb.cell (p := ⟨g, _, none⟩) hg).trans h1, h2.below hb, (hb.cell (p := ⟨g, _, none⟩) hg).trans h3⟩⟩
theorem RR.more (h : RR w B A n ri ro) (hB : B ≤ B') : RR w B' A n ri ro := fun hn => by
  obtain ⟨g, o, e, hg, hc⟩ := h hn
  exact ⟨g, o, e, Nat.lt_of_lt_of_le hg hB, fun k hk => by
    obtain ⟨A', c', h1, h2, h3⟩ := hc k hk
    exact ⟨A', c', h1, h2.more hB, h3⟩⟩
theorem RR.later (h : RR w w.heap.size A n ri ro) (hb : Below w.heap.size w w') : RR w' w'.heap.size A n ri ro := (h.below hb).more hb.size
end
/-- a rule table -/
structure Tab where
  st : Int
  sy : Int
  n : Nat
  f : Nat → P2
  nv : Nat
  v : Nat → List Int
  nr : Nat
  ri : Nat → List Int
  ro : Nat → Int
/-- what its lists read as -/
def TR (w : World) (AH AV AR : Option Addr) (T : Tab) : Prop := QReads w w.heap.size AH T.n T.f ∧ VR w w.heap.size AV T.nv T.v ∧ RR w w.heap.size AR T.nr T.ri T.ro
theorem TR.later {w w' : World} {AH AV AR : Option Addr} {T : Tab} (h : TR w AH AV AR T) (hb : Below w.heap.size w w') : TR w' AH AV AR T := ⟨h.1.later hb, h.2.1.later hb, h.2.2.later hb⟩
/-- no list is great -/
def Bd (T : Tab) : Prop := T.n ≤ 1000 ∧ T.nv ≤ 1000 ∧ T.nr ≤ 1000 ∧ (∀ k, k < T.nv → (T.v k).length < 9223372036854775808) ∧ ∀ k, k < T.nr → (T.ri k).length < 9223372036854775808

theorem Blk.five {w : World} {g : Nat} {t : TypeId} {a b c d e : Value} (h : Blk w g t #[a, b, c, d, e]) : w.cell? ⟨g, 0, none⟩ = some a ∧ w.cell? ⟨g, 1, none⟩ = some b ∧ w.cell? ⟨g, 2, none⟩ = some c ∧ w.cell? ⟨g, 3, none⟩ = some d ∧ w.cell? ⟨g, 4, none⟩ = some e ∧ g < w.heap.size :=
  ⟨by rw [h.cell]; rfl, by rw [h.cell]; rfl, by rw [h.cell]; rfl, by rw [h.cell]; rfl, by rw [h.cell]; rfl, h.lt⟩
theorem Blk.eight {w : World} {g : Nat} {t : TypeId} {a b c d e f i j : Value} (h : Blk w g t #[a, b, c, d, e, f, i, j]) : w.cell? ⟨g, 0, none⟩ = some a ∧ w.cell? ⟨g, 1, none⟩ = some b ∧ w.cell? ⟨g, 2, none⟩ = some c ∧ w.cell? ⟨g, 3, none⟩ = some d ∧ w.cell? ⟨g, 4, none⟩ = some e ∧ w.cell? ⟨g, 5, none⟩ = some f ∧ w.cell? ⟨g, 6, none⟩ = some i ∧ w.cell? ⟨g, 7, none⟩ = some j ∧ g < w.heap.size :=
  ⟨by rw [h.cell]; rfl, by rw [h.cell]; rfl, by rw [h.cell]; rfl, by rw [h.cell]; rfl, by rw [h.cell]; rfl, by rw [h.cell]; rfl, by rw [h.cell]; rfl, by rw [h.cell]; rfl, h.lt⟩
end Go.Proofs.YtcgkkppidkkjiaaGreatDoor
namespace Go.Proofs.YtcgkkppidkkjiaaGreatDoor
open Go.RowKit
theorem ret_int {k : IntKind} {a b : Int} (h : a = b) : Ending.returned (.int k a) = .returned (.int k b) := by rw [h]
/-- a state -/
def sta (s n : Int) : Bool := decide (0 ≤ n) && decide (n < s)
theorem sta_iff (s n : Int) : sta s n = true ↔ 0 ≤ n ∧ n < s := by simp [sta]
theorem isState_any (s n : Int) (w : World) : Calls Tryz.prog 69 #[.int .i64 s, .int .i64 n] w fun e w' => e = .returned (.bool (sta s n)) ∧ w = w' := by
  by_cases h : 0 ≤ n
  · rw [sta, decide_eq_true h]
    go_enter Tryz.func69, Tryz.ntmps69
    go_wp2
    go_ret
    exact ⟨ret_bool (by simp), rfl⟩
  · rw [sta, decide_eq_false h]
    go_enter Tryz.func69, Tryz.ntmps69
    go_wp2
    go_ret
    exact ⟨rfl, rfl⟩
/-- all are states -/
def als (s : Int) (l : List Int) : Bool := (List.range l.length).all fun i => sta s (ig l i)
theorem als_iff (s : Int) (l : List Int) : als s l = true ↔ ∀ i, i < l.length → 0 ≤ ig l i ∧ ig l i < s := by
  simp only [als, List.all_eq_true, List.mem_range, sta_iff]
theorem als_no {s : Int} {l : List Int} {i : Nat} (hi : i < l.length) (h : sta s (ig l i) = false) : als s l = false := by
  rw [← Bool.not_eq_true, als_iff]
  intro h'
  have := (sta_iff s (ig l i)).2 (h' i hi)
  rw [h] at this
  cases this
/-- strictly ascending -/
def ups (l : List Int) : Bool := (List.range l.length).all fun i => decide (i = 0) || decide (ig l (i - 1) < ig l i)
theorem ups_iff (l : List Int) : ups l = true ↔ ∀ i, i < l.length → 0 < i → ig l (i - 1) < ig l i := by
  simp only [ups, List.all_eq_true, List.mem_range, Bool.or_eq_true, decide_eq_true_eq]
  constructor
  · intro h i hi h0
    rcases h i hi with h1 | h1 <;> omega
  · intro h i hi
    exact (Nat.eq_zero_or_pos i).imp id (h i hi)
section
variable (A : Option Addr) (n c B : Nat) (l : List Int) (w : World)
theorem allStates_any (s : Int) (h : Reads w B A n (il l)) (hn : n < 9223372036854775808) :
    Calls Tryz.prog 39 #[.int .i64 s, .slice A n c] w fun e w' => e = .returned (.bool (als s l)) ∧ w = w' := by
  have hl := reads_len h
  have H := Lib.hid h
  have HL := Lib.hid hl
  have IS := Lib.hid (fun x w => isState_any s x w)
  clear h hl
  go_enter Tryz.func39, Tryz.ntmps39
  go_wp2
  go_loop [9] (fun iv => ∃ j : Nat, j ≤ n ∧ iv = .int .i64 (j : Int) ∧ ∀ i, i < j → 0 ≤ ig l i ∧ ig l i < s) (fun iv => n - (intOf iv).toNat)
  case atStart => exact ⟨0, Nat.zero_le _, rfl, fun i hi => absurd hi (by omega)⟩
  case round =>
    obtain ⟨j, hj, rfl, hno⟩ := hrel
    have HN := Lib.hid hno
    clear hno
    by_cases hlt : j < n
    · obtain ⟨ad, rfl, hb, hc⟩ := il_at H.out hlt
      have hno := Lib.hid (fun h => als_no (s := s) (l := l) (i := j) (by rw [HL.out]; exact hlt) h)
      have hyes := Lib.hid ((sta_iff s (ig l j)).1)
      have I := IS.out (ig l j)
      generalize hq : sta s (ig l j) = q at I hno hyes
      generalize ig l j = x at hc I hyes
      have I := Lib.hid I
      cases q with
      | false =>
        have HF := Lib.hid (hno.out rfl)
        go_wp2_with (go_at_call 69; (with_reducible refine (I.out _).mono ?_); rintro e w' ⟨rfl, rfl⟩)
        go_ret
        exact ⟨ret_bool HF.out.symm, rfl⟩
      | true =>
        have HQ := Lib.hid ((sta_iff s (ig l j)).1 hq)
        clear hq
        go_wp2_with (go_at_call 69; (with_reducible refine (I.out _).mono ?_); rintro e w' ⟨rfl, rfl⟩)
        go_round
        case rel =>
          exact ⟨j + 1, by omega, by go_num, fun i hi => by
            by_cases e : i = j
            · subst e; exact HQ.out
            · exact HN.out i (by omega)⟩
        case measure => simp [intOf]; omega
    · obtain rfl : j = n := by omega
      have HF := Lib.hid (show als s l = true by rw [als_iff, HL.out]; exact HN.out)
      go_wp2
      go_ret
      exact ⟨ret_bool HF.out.symm, rfl⟩
set_option maxRecDepth 100000 in
theorem ascends_any (h : Reads w w.heap.size A n (il l)) (hn : n < 9223372036854775808) :
    Calls Tryz.prog 40 #[.slice A n c] w fun e w' => e = .returned (.bool (ups l)) ∧ Below w.heap.size w w' := by
  have hl := reads_len h
  have H := Lib.hid h
  have HL := Lib.hid hl
  clear h hl
  go_enter Tryz.func40, Tryz.ntmps40
  go_wp2
  go_loopw [3] (fun iv wr => ∃ j : Nat, (j ≤ n ∨ j = 1) ∧ 1 ≤ j ∧ iv = .int .i64 (j : Int) ∧ (∀ i, i < j → 0 < i → ig l (i - 1) < ig l i) ∧ Below w.heap.size w wr) (fun iv _ => n - (intOf iv).toNat)
  case atStart => exact ⟨1, .inr rfl, Nat.le_refl _, rfl, fun i hi h0 => absurd hi (by omega), Below.refl _ _⟩
  case round =>
    obtain ⟨j, hj, hj1, rfl, hno, hbel⟩ := hrel
    have HN := Lib.hid hno
    have HB := Lib.hid hbel
    clear hno
    by_cases hlt : j < n
    · obtain ⟨ad, rfl, hb, hc⟩ := il_at (H.out.below hbel) hlt
      obtain ⟨i, hi⟩ : ∃ i, j = i + 1 := ⟨j - 1, by omega⟩
      obtain ⟨ad', he, hb', hc'⟩ := il_at (H.out.below hbel) (show i < n by omega)
      obtain rfl : ad = ad' := by injection he
      have hin : i < n := by omega
      have e1 : (j : Int) - 1 = (i : Int) := by omega
      have hw1 : IntKind.i64.wrap ((j : Int) - 1) = (i : Int) := by rw [e1]; exact IntWalk.i64_in _ (by omega)
      obtain ⟨x, hx⟩ : ∃ x, x = ig l j := ⟨_, rfl⟩
      obtain ⟨y, hy⟩ : ∃ y, y = ig l i := ⟨_, rfl⟩
      rw [← hx] at hc
      rw [← hy] at hc'
      have HX := Lib.hid hx
      have HY := Lib.hid hy
      have HI := Lib.hid hi
      clear hx hy he hi hbel e1
      by_cases h4 : x ≤ y
      · have HF := Lib.hid (show ups l = false by
          rw [← Bool.not_eq_true, ups_iff]
          intro h
          have h := h j (by rw [HL.out]; exact hlt) (by omega)
          rw [HI.out, show i + 1 - 1 = i by omega, ← HY.out, ← HI.out, ← HX.out] at h
          omega)
        go_wp2_with fail
        go_quiet (fail)
        go_wp2
        go_ret
        exact ⟨ret_bool HF.out.symm, below_drewN HB.out _⟩
      · have hs := Lib.hid (show ∀ i, i < j + 1 → 0 < i → ig l (i - 1) < ig l i from fun i' hi' h0 => by
          by_cases e : i' = j
          · subst e
            rw [← HX.out, HI.out, show i + 1 - 1 = i by omega, ← HY.out]
            omega
          · exact HN.out i' (by omega) h0)
        go_wp2_with fail
        go_quiet (fail)
        go_wp2
        go_roundw
        case rel => exact ⟨j + 1, .inl (by omega), by omega, by go_num, hs.out, below_drewN HB.out _⟩
        case measure => simp [intOf]; omega
    · have HF := Lib.hid (show ups l = true by
        rw [ups_iff, HL.out]
        intro i hi h0
        exact HN.out i (by omega) h0)
      clear hbel
      go_wp2
      go_ret
      exact ⟨ret_bool HF.out.symm, HB.out⟩
theorem index_int (k : Int) (h : Reads w B A n (il l)) (hn : n ≤ 1000000) :
    Calls Tryz.prog 94 #[.slice A n c, .int .i64 k] w fun e w' => e = .returned (.int .i64 (ix l k)) ∧ w = w' := by
  have HL := Lib.hid (reads_len h)
  have H := Lib.hid h
  clear h
  go_enter Tryz.func94, Tryz.ntmps94
  go_wp2
  go_loop [8] (fun iv => ∃ j : Nat, j ≤ n ∧ iv = .int .i64 (j : Int) ∧ ∀ i, i < j → ig l i ≠ k) (fun iv => n - (intOf iv).toNat)
  case atStart => exact ⟨0, Nat.zero_le _, rfl, fun i hi => absurd hi (by omega)⟩
  case round =>
    obtain ⟨j, hj, rfl, hno⟩ := hrel
    have HN := Lib.hid hno
    clear hno
    by_cases hlt : j < n
    · obtain ⟨ad, rfl, hb, hc⟩ := il_at H.out hlt
      obtain ⟨x, hx⟩ : ∃ x, x = ig l j := ⟨_, rfl⟩
      rw [← hx] at hc
      have HXX := Lib.hid hx
      clear hx
      by_cases hxk : x = k
      · subst hxk
        have HF := Lib.hid (show ix l x = (j : Int) from fx_some (by rw [HL.out]; exact hlt) (fun i hi => decide_eq_false (HN.out i hi)) (decide_eq_true HXX.out.symm))
        go_wp2
        go_ret
        exact ⟨ret_int HF.out.symm, rfl⟩
      · have ht : (x == k) = false := by rw [beq_eq_false_iff_ne]; exact hxk
        have ht2 : (k == x) = false := by rw [beq_eq_false_iff_ne]; exact fun e => hxk e.symm
        have HK := Lib.hid hxk
        clear hxk
        go_wp2
        go_round
        case rel =>
          exact ⟨j + 1, by omega, by go_num, fun i hi => by
            by_cases e : i = j
            · subst e; rw [← HXX.out]; exact HK.out
            · exact HN.out i (by omega)⟩
        case measure => simp [intOf]; omega
    · obtain rfl : j = n := by omega
      have HF := Lib.hid (show ix l k = -1 from fx_none fun i hi => decide_eq_false (HN.out i (by rw [HL.out] at hi; exact hi)))
      go_wp2
      go_ret
      exact ⟨ret_int HF.out.symm, rfl⟩
end
/-- how many symmetries turn the rows -/
def ns (sy : Int) : Nat := if sy = 1 then 4 else if sy = 2 then 8 else 1
theorem symmetries_any (sy : Int) (w : World) : Calls Tryz.prog 67 #[.int .i64 sy] w fun e w' => e = .returned (.int .i64 (ns sy : Nat)) ∧ w = w' := by
  by_cases h1 : sy = 1
  · subst h1
    go_enter Tryz.func67, Tryz.ntmps67
    go_wp2
    go_ret
    exact ⟨rfl, rfl⟩
  · by_cases h2 : sy = 2
    · subst h2
      go_enter Tryz.func67, Tryz.ntmps67
      go_wp2
      go_ret
      exact ⟨rfl, rfl⟩
    · rw [ns, if_neg h1, if_neg h2]
      have h1 : (sy == 1) = false := by rw [beq_eq_false_iff_ne]; exact h1
      have h2 : (sy == 2) = false := by rw [beq_eq_false_iff_ne]; exact h2
      go_enter Tryz.func67, Tryz.ntmps67
      go_wp2
      go_ret
      exact ⟨rfl, rfl⟩
end Go.Proofs.YtcgkkppidkkjiaaGreatDoor
