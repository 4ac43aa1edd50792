/- Plain mathematics: walks over different forests that mean the same give the same nodes. -/
/- The walks of newForest and plant. -/
import Derived.Test.YtcgkkppidkkjiaaGreatDoorMab
import Derived.Test.YtcgkkppidkkjiaaGreatDoorMan
import Derived.Test.YtcgkkppidkkjiaaGreatDoorMau
import Derived.Below
import Derived.BigQuiet
import Derived.Carry
import Derived.Deep.AppendLies
import Derived.Deep.CutRange
import Derived.Deep.Draws
import Derived.Deep.QuietTactic
import Derived.Deep.RegionHeldLaw
import Derived.Deep.RegionLaw
import Derived.DeepKeys4
import Derived.IntWalk
import Derived.Laws.MakeOwn
import Derived.Laws.OwnMore
import Derived.Laws.Rows
import Derived.Lib.Hide
import Derived.LoopN
import Derived.Maps.OwnOps
import Derived.OwnWalk
import Derived.Shelf.Abstract
import Derived.Sort.Statements
import Derived.StillTail
import Derived.StillTailTactics
import Derived.Test.YtcgkkppidkkjiaaGreatDoorRows
import Derived.WalkKit
import Derived.Test.YtcgkkppidkkjiaaGreatDoorMaa
import Derived.Test.YtcgkkppidkkjiaaGreatDoorMao
namespace Go.Proofs.YtcgkkppidkkjiaaGreatDoor
open Go.RowKit
/-- two lists, element by element -/
def All2 {α β : Type} (R : α → β → Prop) (xs : List α) (ys : List β) : Prop := xs.length = ys.length ∧ ∀ (k : Nat) (x : α) (y : β), xs[k]? = some x → ys[k]? = some y → R x y
section
variable {α β : Type} {R R' : α → β → Prop}
theorem All2.imp {xs : List α} {ys : List β} (h : All2 R xs ys) (i : ∀ x y, R x y → R' x y) : All2 R' xs ys := ⟨h.1, fun k x y hx hy => i _ _ (h.2 k x y hx hy)⟩
end
abbrev Env (sn : Nat) := Nat → Fin sn
/-- an element exchanged -/
def eup {sn : Nat} (e : Env sn) (l : Nat) (j : Fin sn) (x : Nat) : Fin sn := if x = l then j else e x
/-- a way to find elements, and what the numbers mean -/
structure Sys (sn lm cap : Nat) {σ : Type} (el : σ → Int → Nat → Option (List Int × σ)) where
  I : σ → Prop
  le : σ → σ → Prop
  D : σ → Nat → Int → (Env sn → Int) → Prop
  sz : σ → Nat
  cost : Nat → Nat
  refl : ∀ s, le s s
  trans : ∀ {a b c}, le a b → le b c → le a c
  mono : ∀ {s s' l n φ}, le s s' → D s l n φ → D s' l n φ
  inj : ∀ {s l n n' φ}, I s → D s l n φ → D s l n' φ → n = n'
  fn : ∀ {s l l' n φ φ'}, I s → D s l n φ → D s l' n φ' → l = l' ∧ φ = φ'
  zero : ∀ {s n φ}, D s 0 n φ → 0 ≤ n ∧ n < (sn : Int) ∧ ∀ e, φ e = n
  ok : ∀ {s l n φ}, I s → D s (l + 1) n φ → l + 1 ≤ lm → sz s + cost (l + 1) ≤ cap → ∃ r s', el s n (l + 1) = some (r, s') ∧ I s' ∧ le s s' ∧ sn ≤ r.length ∧ sz s' ≤ sz s + cost (l + 1) ∧ ∀ j : Fin sn, D s' l (ig r j) (fun e => φ (eup e (l + 1) j))
section
variable {sn lm cA cB : Nat} {σ τ : Type} {eA : σ → Int → Nat → Option (List Int × σ)} {eB : τ → Int → Nat → Option (List Int × τ)} (A : Sys sn lm cA eA) (B : Sys sn lm cB eB)
/-- the same places for the same meanings -/
def FinR (s : σ) (t : τ) : List (Int × Int) → List (Int × Int) → Prop := All2 fun p q => p.2 = q.2 ∧ ∃ l φ, A.D s l p.1 φ ∧ B.D t l q.1 φ
variable {A B}
theorem FinR.mono {s s' : σ} {t t' : τ} {f g : List (Int × Int)} (h : FinR A B s t f g) (h1 : A.le s s') (h2 : B.le t t') : FinR A B s' t' f g := h.imp fun _ _ ⟨e, l, φ, d1, d2⟩ => ⟨e, l, φ, A.mono h1 d1, B.mono h2 d2⟩
end
end Go.Proofs.YtcgkkppidkkjiaaGreatDoor
namespace Go.Proofs.YtcgkkppidkkjiaaGreatDoor
open Go.RowKit
theorem newForest_any {sn : Nat} {w : World} (h1 : 2 ≤ sn) (h2 : sn ≤ 8) : Calls Tryz.prog 60 #[.int .i64 (sn : Int)] w fun e w' => ∃ fb G, e = .returned (.pointer (some ⟨fb, 0, none⟩)) ∧ Fo w' fb G (sn : Int) [] ∧ (∀ k, G k → w.heap.size ≤ k) ∧ Below w.heap.size w w' := by
  have hmm := @run_makeMap Tryz.prog
  go_enter Tryz.func60, Tryz.ntmps60
  go_wp2
  go_ret
  have K2 := Blk.new (w.alloc (.map #[] 0)) 129 #[.int .i64 (sn : Int), .slice none 0 0, .map (some w.heap.size)]
  have K1 := MapOf.new Tryz.prog w 134 nodV (fun (x : Int) => .int .i32 x)
  simp only [World.size_alloc] at K2
  refine ⟨w.heap.size + 1, fun k => k = w.heap.size ∨ k = w.heap.size + 1, rfl, ⟨none, 0, w.heap.size, K2, World.ownsRow_nil _ _ _ _, ?_, .inr rfl, .inl rfl, ?_, ?_, by omega, by omega, by simp, by simp; omega⟩, ?_, ?_⟩
  · exact K1.of_block (Below.heap_alloc _ _ _ (by simp))
  · intro g hg; simp [Value.ownBlock] at hg
  · intro b hb; simp; omega
  · intro k hk; omega
  · exact ((Below.refl _ _).alloc (Nat.le_refl _) _).alloc (by simp) _

/-- numbers as cells -/
def r32 (l : List Int) : Array Value := (l.map fun x => .int .i32 x).toArray
theorem r32_get {l : List Int} {j : Nat} (h : j < l.length) : (r32 l)[j]? = some (.int .i32 (ig l j)) := row_get h
theorem made_i32 (n : Nat) : madeCells (Value.int .i32 0).cells (n * 1) = r32 (List.replicate n 0) := by
  apply Array.ext
  · simp [madeCells, r32]
  · intro i h1 h2
    simp [madeCells, Value.cells, Nat.mod_one, r32]
theorem Tryz.info_i32 : (Tryz.prog.info? 21).map (fun i => (i.zero, i.size, i.bytes)) = some (some (.int .i32 0), 1, 4) := by kernel_rfl
theorem mk_i32 {m : Nat} (hm : m ≤ 5000) (w : World) : (Instr.makeSlice 137 (.int .i64 (m : Int)) (.int .i64 (m : Int))).run Tryz.prog w = .ok (.slice (some ⟨w.heap.size, 0, none⟩) m m) (w.alloc (.cells (r32 (List.replicate m 0)) 21)) := by
  obtain ⟨i0, hi, hz0, hz1, hz2⟩ := info_parts Tryz.info_i32
  have := run_make (P := Tryz.prog) w 137 21 i0 (.int .i32 0) Tryz.underlying137 hi hz0 .i64 .i64 (m : Int) (m : Int) (by omega) (by omega) (by rw [hz2]; omega) (by omega)
  rw [this, hz1, Int.toNat_natCast, made_i32]
theorem r32_step {ys : List Int} {sn : Nat} (h : ys.length < sn) (y : Int) : (r32 (ys ++ List.replicate (sn - ys.length) 0)).setIfInBounds ys.length (.int .i32 y) = r32 ((ys ++ [y]) ++ List.replicate (sn - (ys ++ [y]).length) 0) := by
  obtain ⟨k, hk⟩ : ∃ k, sn - ys.length = k + 1 := ⟨sn - ys.length - 1, by omega⟩
  have hk2 : sn - (ys ++ [y]).length = k := by simp; omega
  rw [hk, hk2, List.replicate_succ]
  simp [r32]

/-- an element of a planted node -/
def pv (l : Int) (nums : List Int) (k : Int) : Int := if 1 < l then ig nums k.toNat else k
/-- a planted node, its first j elements laid -/
def pn (l : Int) (nums e : List Int) (j : Nat) : Ndv := ⟨l, (e.take j).map (pv l nums) ++ List.replicate (8 - j) 0⟩
def plantF (st : Int) (lv : Nat → Int) (nx : Nat → List Int) : Nat → List Ndv → Option (List Int × List Ndv)
  | 0, L => some ([], L)
  | i + 1, L => (plantF st lv nx i L).bind fun (nums, L1) => (addF st L1 (pn (lv i) nums (nx i) (nx i).length)).bind fun (r, L2) => some (nums ++ [r], L2)
theorem plantF_at {st : Int} {lv : Nat → Int} {nx : Nat → List Int} {L L' : List Ndv} {nums : List Int} : ∀ {m : Nat}, plantF st lv nx m L = some (nums, L') → nums.length = m ∧ ∀ i, i < m → ∃ n1 L1 r L2, plantF st lv nx i L = some (n1, L1) ∧ n1.length = i ∧ addF st L1 (pn (lv i) n1 (nx i) (nx i).length) = some (r, L2) ∧ plantF st lv nx (i + 1) L = some (n1 ++ [r], L2) ∧ n1 = nums.take i := by
  intro m
  induction m generalizing nums L' with
  | zero =>
    intro h
    simp only [plantF, Option.some.injEq, Prod.mk.injEq] at h
    obtain ⟨rfl, _⟩ := h
    exact ⟨rfl, fun i hi => absurd hi (by omega)⟩
  | succ m ih =>
    intro h
    have h0 := h
    simp only [plantF] at h
    cases h1 : plantF st lv nx m L with
    | none => rw [h1] at h; cases h
    | some p =>
      obtain ⟨n1, L1⟩ := p
      rw [h1] at h
      simp only [Option.bind_some] at h
      cases h2 : addF st L1 (pn (lv m) n1 (nx m) (nx m).length) with
      | none => rw [h2] at h; cases h
      | some q =>
        obtain ⟨r, L2⟩ := q
        rw [h2] at h
        simp only [Option.bind_some, Option.some.injEq, Prod.mk.injEq] at h
        obtain ⟨rfl, rfl⟩ := h
        obtain ⟨g1, g2⟩ := ih h1
        refine ⟨by simp [g1], fun i hi => ?_⟩
        by_cases e : i < m
        · obtain ⟨n1', L1', r', L2', a1, a2, a3, a4, a5⟩ := g2 i e
          exact ⟨n1', L1', r', L2', a1, a2, a3, a4, by rw [a5, List.take_append_of_le_length (by omega)]⟩
        · obtain rfl : i = m := by omega
          exact ⟨n1, L1, r, L2, h1, g1, h2, h0, by rw [List.take_append_of_le_length (by omega), List.take_of_length_le (by omega)]⟩
theorem addF_rng {st r : Int} {L L2 : List Ndv} {n : Ndv} (h : addF st L n = some (r, L2)) (h0 : 0 ≤ st) (h1 : st + (L.length : Int) ≤ 2147483647) : st ≤ r ∧ r < 2147483647 ∧ st + (L2.length : Int) ≤ 2147483647 := by
  unfold addF at h
  cases hx : L.idxOf? n with
  | some i =>
    rw [hx] at h
    simp only [Option.some.injEq, Prod.mk.injEq] at h
    obtain ⟨rfl, rfl⟩ := h
    have := (idxOf_lt hx).1
    omega
  | none =>
    rw [hx] at h
    simp only at h
    split at h
    · simp only [Option.some.injEq, Prod.mk.injEq] at h
      obtain ⟨rfl, rfl⟩ := h
      simp; omega
    · cases h
theorem plantF_rng {st : Int} {lv : Nat → Int} {nx : Nat → List Int} {L : List Ndv} (h0 : 0 ≤ st) (h1 : st + (L.length : Int) ≤ 2147483647) : ∀ {m : Nat} {L' : List Ndv} {nums : List Int}, plantF st lv nx m L = some (nums, L') → (∀ x ∈ nums, 0 ≤ x ∧ x < 2147483647) ∧ st + (L'.length : Int) ≤ 2147483647 := by
  intro m
  induction m with
  | zero =>
    intro L' nums h
    simp only [plantF, Option.some.injEq, Prod.mk.injEq] at h
    obtain ⟨rfl, rfl⟩ := h
    exact ⟨by simp, h1⟩
  | succ m ih =>
    intro L' nums h
    simp only [plantF] at h
    cases h2 : plantF st lv nx m L with
    | none => rw [h2] at h; cases h
    | some p =>
      obtain ⟨n1, L1⟩ := p
      rw [h2] at h
      simp only [Option.bind_some] at h
      cases h3 : addF st L1 (pn (lv m) n1 (nx m) (nx m).length) with
      | none => rw [h3] at h; cases h
      | some q =>
        obtain ⟨r, L2⟩ := q
        rw [h3] at h
        simp only [Option.bind_some, Option.some.injEq, Prod.mk.injEq] at h
        obtain ⟨rfl, rfl⟩ := h
        obtain ⟨g1, g2⟩ := ih h2
        obtain ⟨g3, g4, g5⟩ := addF_rng h3 h0 g2
        refine ⟨fun x hx => ?_, g5⟩
        rcases List.mem_append.1 hx with hx | hx
        · exact g1 x hx
        · simp at hx; subst hx; exact ⟨by omega, g4⟩
theorem pn_cells {l : Int} {nums e : List Int} {j : Nat} (hj : j < e.length) (he : e.length ≤ 8) : (nodC (pn l nums e j)).toArray.setIfInBounds (1 + j) (.int .i32 (pv l nums (ig e j))) = (nodC (pn l nums e (j + 1))).toArray := by
  have e1 : e.take (j + 1) = e.take j ++ [ig e j] := by
    rw [List.take_succ_eq_append_getElem hj]
    simp [ig, hj]
  obtain ⟨k, hk⟩ : ∃ k, 8 - j = k + 1 := ⟨8 - j - 1, by omega⟩
  have hk2 : 8 - (j + 1) = k := by omega
  have hl : ((e.take j).map (pv l nums)).length = j := by simp; omega
  generalize hA : (e.take j).map (pv l nums) = A at hl
  simp only [pn, nodC, e1, List.map_append, hA, hk, hk2, List.replicate_succ]
  subst hl
  rw [Nat.add_comm]
  simp [List.set_append]
theorem pn_len {l : Int} {nums e : List Int} {j : Nat} (hj : j ≤ e.length) (he : e.length ≤ 8) : (pn l nums e j).r.length = 8 := by simp [pn]; omega
end Go.Proofs.YtcgkkppidkkjiaaGreatDoor
