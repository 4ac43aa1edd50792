/- Lists of words and of truth values: what they read as; rows that a call makes. -/
import Derived.Test.YtfoheeijdaknnaaGate
import Derived.Deep.OwnRows
namespace Go.Proofs.Ytfoheeijdaknnaa
open Go.RowKit

theorem Try.info_intE : (Try.prog.info? 3).map (fun i => (i.zero, i.size, i.bytes)) = some (some (.int .i64 0), 1, 8) := by kernel_rfl
theorem Try.info_u64 : (Try.prog.info? 36).map (fun i => (i.zero, i.size, i.bytes)) = some (some (.int .u64 0), 1, 8) := by kernel_rfl
theorem Try.info_bool : (Try.prog.info? 4).map (fun i => (i.zero, i.size, i.bytes)) = some (some (.bool false), 1, 1) := by kernel_rfl
/-- a list of words as cells -/
def ul (l : List Int) : List Value := l.map fun x => .int .u64 x
/-- a list of truth values as cells -/
def bl (l : List Bool) : List Value := l.map fun x => .bool x
/-- truth value k of a list -/
def bg (l : List Bool) (k : Nat) : Bool := l.getD k false
theorem ul_len (l : List Int) : (ul l).length = l.length := by simp [ul]
theorem bl_len (l : List Bool) : (bl l).length = l.length := by simp [bl]
theorem ul_get {l : List Int} {k : Nat} (h : k < l.length) : (ul l).toArray[k]? = some (.int .u64 (ig l k)) := by
  simp [ul, ig, List.getElem?_eq_getElem h]
theorem bl_get {l : List Bool} {k : Nat} (h : k < l.length) : (bl l).toArray[k]? = some (.bool (bg l k)) := by
  simp [bl, bg, List.getElem?_eq_getElem h]
theorem il_get {l : List Int} {k : Nat} (h : k < l.length) : (il l).toArray[k]? = some (.int .i64 (ig l k)) := by
  simp [il, ig, List.getElem?_eq_getElem h]
theorem ul_set (l : List Int) (k : Nat) (v : Int) : (ul l).toArray.setIfInBounds k (.int .u64 v) = (ul (l.set k v)).toArray := by
  simp [ul, List.map_set]
theorem bl_set (l : List Bool) (k : Nat) (v : Bool) : (bl l).toArray.setIfInBounds k (.bool v) = (bl (l.set k v)).toArray := by
  simp [bl, List.map_set]
theorem ul_at {w : World} {B n : Nat} {A : Option Addr} {l : List Int} (h : Reads w B A n (ul l)) {k : Nat} (hk : k < n) :
    ∃ ad, A = some ad ∧ ad.block < B ∧ w.cell? (ad.add k) = some (.int .u64 (ig l k)) := by
  obtain ⟨ad, u, e, hb, hx, hc⟩ := h.at_ hk
  refine ⟨ad, e, hb, ?_⟩
  rw [hc, ← hx]
  simp only [ul, List.getElem?_map, ig, List.getD] at hx ⊢
  cases h' : l[k]? with
  | none => rw [h'] at hx; cases hx
  | some d => simp
theorem bl_at {w : World} {B n : Nat} {A : Option Addr} {l : List Bool} (h : Reads w B A n (bl l)) {k : Nat} (hk : k < n) :
    ∃ ad, A = some ad ∧ ad.block < B ∧ w.cell? (ad.add k) = some (.bool (bg l k)) := by
  obtain ⟨ad, u, e, hb, hx, hc⟩ := h.at_ hk
  refine ⟨ad, e, hb, ?_⟩
  rw [hc, ← hx]
  simp only [bl, List.getElem?_map, bg, List.getD] at hx ⊢
  cases h' : l[k]? with
  | none => rw [h'] at hx; cases hx
  | some d => simp
theorem ulen {w : World} {B n : Nat} {A : Option Addr} {l : List Int} (h : Reads w B A n (ul l)) : l.length = n := by simpa [ul] using h.1
theorem blen {w : World} {B n : Nat} {A : Option Addr} {l : List Bool} (h : Reads w B A n (bl l)) : l.length = n := by simpa [bl] using h.1
theorem Blk.far {w : World} {g : Nat} {t : TypeId} {cs : Array Value} (h : Blk w g t cs) {p : Addr} (hp : g ≠ p.block) (u : Value) : Blk (w.setCell p u) g t cs := (Below.heap_setCell w p u g hp).trans h
theorem Reads.far {w : World} {B n : Nat} {A : Option Addr} {xs : List Value} (h : Reads w B A n xs) {p : Addr} (hp : ∀ ad, 0 < n → A = some ad → ad.block ≠ p.block) (u : Value) : Reads (w.setCell p u) B A n xs :=
  ⟨h.1, fun hn => by
    obtain ⟨ad, e, hb, hc⟩ := h.2 hn
    exact ⟨ad, e, hb, fun j v hv => by
      rw [World.cell?_setCell_other w p _ u (fun e' => hp ad hn e (by rw [e', block_of_add]))]
      exact hc j v hv⟩⟩
theorem Reads.none_ {w : World} {B : Nat} : Reads w B none 0 [] := ⟨by simp, fun h => absurd h (by omega)⟩
/-- a whole block reads as its list -/
theorem Reads.of_blk {w : World} {g : Nat} {t : TypeId} {xs : List Value} (h : Blk w g t xs.toArray) : Reads w w.heap.size (some ⟨g, 0, none⟩) xs.length xs :=
  ⟨rfl, fun _ => ⟨_, rfl, h.lt, fun j u hu => by
    have e : (⟨g, 0, none⟩ : Addr).add j = ⟨g, j, none⟩ := by
      unfold Addr.add
      split
      · next e => subst e; rfl
      · simp
    rw [e, h.cell]
    simpa using hu⟩⟩
theorem made_ul (n : Nat) : madeCells #[Value.int .u64 0] n = (ul (List.replicate n 0)).toArray := by
  apply Array.ext
  · simp [madeCells, ul]
  · intro i h1 h2
    simp [madeCells, ul, Nat.mod_one]
theorem made_il (n : Nat) : madeCells #[Value.int .i64 0] n = (il (List.replicate n 0)).toArray := by
  apply Array.ext
  · simp [madeCells, il]
  · intro i h1 h2
    simp [madeCells, il, Nat.mod_one]
theorem made_bl (n : Nat) : madeCells #[Value.bool false] n = (bl (List.replicate n false)).toArray := by
  apply Array.ext
  · simp [madeCells, bl]
  · intro i h1 h2
    simp [madeCells, bl, Nat.mod_one]
theorem mk_u64 (n : Nat) (hn : n ≤ 1000000) (w : World) : (Instr.makeSlice 33 (.int .i64 (n : Int)) (.int .i64 (n : Int))).run Try.prog w = .ok (.slice (some ⟨w.heap.size, 0, none⟩) n n) (w.alloc (.cells (ul (List.replicate n 0)).toArray 36)) := by
  rw [run_make_row' 33 36 (.int .u64 0) 8 Try.underlying33 Try.info_u64 rfl .i64 .i64 n (by omega) (by omega) w, made_ul]
theorem mk_u64s (a b : Nat) (hn : a + b ≤ 1000000) (w : World) : (Instr.makeSlice 33 (.int .i64 ((a : Int) + (b : Int))) (.int .i64 ((a : Int) + (b : Int)))).run Try.prog w = .ok (.slice (some ⟨w.heap.size, 0, none⟩) (a + b) (a + b)) (w.alloc (.cells (ul (List.replicate (a + b) 0)).toArray 36)) := by
  rw [← Int.natCast_add]
  exact mk_u64 (a + b) hn w
theorem mk_bools (n : Nat) (hn : n ≤ 1000000) (w : World) : (Instr.makeSlice 29 (.int .i64 (n : Int)) (.int .i64 (n : Int))).run Try.prog w = .ok (.slice (some ⟨w.heap.size, 0, none⟩) n n) (w.alloc (.cells (bl (List.replicate n false)).toArray 4)) := by
  rw [run_make_row' 29 4 (.bool false) 1 Try.underlying29 Try.info_bool rfl .i64 .i64 n (by omega) (by omega) w, made_bl]
/-- a row of numbers with spare capacity -/
theorem mk_ints2 (a b : Nat) (hn : a + b ≤ 1000000) (w : World) : (Instr.makeSlice 23 (.int .i64 (a : Int)) (.int .i64 ((a : Int) + (b : Int)))).run Try.prog w = .ok (.slice (some ⟨w.heap.size, 0, none⟩) a (a + b)) (w.alloc (.cells (il (List.replicate (a + b) 0)).toArray 3)) := by
  obtain ⟨i, hi, hzz⟩ := Option.map_eq_some_iff.1 Try.info_intE
  simp only [Prod.mk.injEq] at hzz
  obtain ⟨hz, hs, hb⟩ := hzz
  have hr := run_make (P := Try.prog) w 23 3 i (.int .i64 0) Try.underlying23 hi hz .i64 .i64 (a : Int) ((a : Int) + (b : Int)) (by omega) (by omega) (by rw [hb]; omega) (by omega)
  rw [show ((a : Int) + (b : Int)).toNat = a + b by omega, Int.toNat_natCast, hs, Nat.mul_one] at hr
  rw [hr, show (Value.int .i64 0).cells = #[Value.int .i64 0] from rfl, made_il]
theorem own_of_blk {w : World} {base g a b : Nat} (h : Blk w g 3 (il (List.replicate (a + b) 0)).toArray) (hb : base ≤ g) (hn : a + b ≤ maxLen) : w.ownsRow base 3 1 (.slice (some ⟨g, 0, none⟩) a (a + b)) a (il (List.replicate a 0)) :=
  ⟨by simp [il], .inr ⟨g, a + b, _, rfl, hb, h, by omega, hn, by simp [il], by simp [il]⟩⟩
theorem run_max2 {P : Program} (w : World) (ts : Array TypeId) (t : TypeId) (k : IntKind) (x y : Int) : (Builtin.max_ ts t #[.int k x, .int k y]).run P w = .ok (.int k (max x y)) w := by
  have e : (if y > x then y else x) = max x y := by split <;> omega
  simp [Builtin.max_, Builtin.max2, e]
end Go.Proofs.Ytfoheeijdaknnaa
