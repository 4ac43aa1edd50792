/- The walk of Life, and parity. -/
/- The walk of the examples. -/
import Derived.Test.YtaicehkphokacaaMbf
import Derived.Test.YtaicehkphokacaaMbi
import Derived.Test.YtaicehkphokacaaMbj
namespace Go.Proofs.Ytaicehkphokacaa
open Go.RowKit

/-- the cells of some positions -/
def lfL (f : Nat → P2) (n : Nat) : List C3 := (List.range n).map fun k => ((f k).1, (f k).2, 1)
theorem lfL_succ (f : Nat → P2) (i : Nat) : cg (lfL f (i + 1)) = cg (lfL f i) ++ [.int .i64 (f i).1, .int .i64 (f i).2, .int .i64 1] := by
  unfold lfL
  rw [List.range_succ]
  simp [cg]
theorem lfL_len (f : Nat → P2) (n : Nat) : (lfL f n).length = n := by simp [lfL]
theorem own_drew {w : World} {base : Nat} {e : TypeId} {size : Nat} {v : Value} {n : Nat} {xs : List Value} (h : w.ownsRow base e size v n xs) : w.drew.ownsRow base e size v n xs := h
set_option maxRecDepth 100000 in
set_option maxHeartbeats 4000000 in
theorem life_any (A : Option Addr) (n c : Nat) (f : Nat → P2) (w : World) (h : QReads w w.heap.size A n f) (hn : n ≤ 1000) :
    Calls Try.prog 23 #[.slice A n c] w fun e w' => ∃ X d, e = .returned (.slice X n d) ∧ CReads w' w'.heap.size X n (fun k => (lfL f n).getD k (0, 0, 0)) ∧ Below w.heap.size w w' := by
  obtain ⟨ic, hic, hy0, hy1, hy2⟩ := info_parts info_cellC
  have H := Lib.hid (fun w' (hb : Below w.heap.size w w') => h.later hb)
  clear h
  go_enter Try.func23, Try.ntmps23
  go_upto_region 3 with (fail)
  go_loopw [3, 7] (fun av iv wr => ∃ (i : Nat) (X : Option Addr) (d : Nat), i ≤ n ∧ av = .slice X i d ∧ iv = .int .i64 (i : Int) ∧ Hid (wr.ownsRow w.heap.size 47 3 (.slice X i d) i (cg (lfL f i))) ∧ Hid (Below w.heap.size w wr)) (fun _ iv _ => n - (intOf iv).toNat)
  case atStart => exact ⟨0, none, 0, Nat.zero_le _, rfl, rfl, Lib.hid (World.ownsRow_nil _ _ _ _), Lib.hid (Below.refl _ _)⟩
  case round =>
    obtain ⟨i, X, d, hi, rfl, rfl, HO, HB⟩ := hrel
    by_cases hlt : i < n
    · have hiI : (i : Int) < (n : Int) := by omega
      obtain ⟨g, o, hA, hg, hcells⟩ := (H.out _ HB.out) (by omega)
      subst hA
      obtain ⟨y0, y1⟩ := hcells i hlt
      have HT := Lib.hid (lfL_succ f i)
      generalize hx : (f i).1 = x at *
      generalize hy : (f i).2 = y at *
      clear hcells hx hy
      have hsz := HB.out.size
      exact (by
        go_upto_region 5 with (fail)
        go_region_law (refine step_append_lies _ (by rfl) _ _ _ (by rfl) w.heap.size 47 ic (.agg #[.int .i64 0, .int .i64 0, .int .i64 0]) 3 24 Try.underlying27 hic hy0 hy1 hy2 rfl (by decide) (.slice X i d) i (cg (lfL f i)) (by rfl) (by first | exact HO.out.alloc _ | exact (own_drew (HO.out.alloc _)) | exact (HO.out.alloc _ : (World.drew _).ownsRow _ _ _ _ _ _)) ⟨wr.heap.size, 0, none⟩ 1 1 [.int .i64 x, .int .i64 y, .int .i64 1] (by rfl) (by rfl) (World.news_of_block (cs := #[.int .i64 x, .int .i64 y, .int .i64 1]) (t := 47) (fr := (0, 0)) (heap_alloc_new wr _)) (by simp [Value.oneCell']) (by omega) (by unfold maxLen; omega) (by omega) (by simp; omega) (wr.heap.size + 1) (by simp) ?_; intro gn c2 w5 hown hgrow hat hltg; have hfr := fr_app1 (grown_drew hgrow) hat; have P5 := Lib.hid hown; have B5 := Lib.hid (HB.out.trans (hfr.below (B := w.heap.size) (fun k hk => (ob_ge HO.out k hk).1) hsz)); clear hown hgrow hat hfr)
        all_goals
          go_wp2_with fail
          go_roundw
          case rel => exact ⟨i + 1, some ⟨gn, 0, none⟩, c2, by omega, rfl, by go_num, Lib.hid (by rw [HT.out]; exact P5.out), B5⟩
          case measure => simp [intOf]; omega)
    · obtain rfl : i = n := by omega
      go_wp2
      go_ret
      have := creads_cg (gs := lfL f i) (w := wr) (A := X) (c := d) (base := w.heap.size) (e := 47) (by rw [lfL_len]; exact HO.out)
      rw [lfL_len] at this
      exact ⟨X, d, rfl, this, HB.out⟩
end Go.Proofs.Ytaicehkphokacaa
namespace Go.Proofs.Ytaicehkphokacaa
open Go.RowKit

/-- a made list of positions -/
def pv (l : List P2) : List Value := l.flatMap fun x => [.int .i64 x.1, .int .i64 x.2]
theorem q_blk {w : World} {g : Nat} {l : List P2} (h : Blk w g 52 (pv l).toArray) : QReads w w.heap.size (some ⟨g, 0, none⟩) l.length (fun k => l.getD k (0, 0)) := by
  refine fun _ => ⟨g, 0, rfl, h.lt, fun k hk => ?_⟩
  have key : ∀ (l : List P2) (k : Nat), k < l.length → (pv l)[k * 2]? = some (.int .i64 (l.getD k (0, 0)).1) ∧ (pv l)[k * 2 + 1]? = some (.int .i64 (l.getD k (0, 0)).2) := by
    intro l
    induction l with
    | nil => intro k hk; exact absurd hk (Nat.not_lt_zero _)
    | cons x r ih =>
      intro k hk
      have e : pv (x :: r) = .int .i64 x.1 :: .int .i64 x.2 :: pv r := rfl
      rw [e]
      match k, hk with
      | 0, _ => exact ⟨rfl, rfl⟩
      | k + 1, hk =>
        have := ih k (by simpa using hk)
        rw [show (k + 1) * 2 = k * 2 + 1 + 1 by omega]
        simpa using this
  have hc : ∀ j, w.cell? ⟨g, j, none⟩ = (pv l)[j]? := fun j => by
    rw [h.cell j]
    simp
  obtain ⟨k1, k2⟩ := key l k hk
  rw [Nat.zero_add, hc, hc]
  exact ⟨k1, k2⟩
theorem life_1 (g : Nat) (x y : Int) (w : World) (h : Blk w g 52 #[.int .i64 x, .int .i64 y]) :
    Calls Try.prog 23 #[.slice (some ⟨g, 0, none⟩) 1 1] w fun e w' => ∃ X d, e = .returned (.slice X 1 d) ∧ CReads w' w'.heap.size X 1 (fun k => ([(x, y, 1)] : List C3).getD k (0, 0, 0)) ∧ Below w.heap.size w w' :=
  life_any (some ⟨g, 0, none⟩) 1 1 (fun k => [(x, y)].getD k (0, 0)) w (q_blk (l := [(x, y)]) h) (by decide)
theorem life_2 (g : Nat) (x y u v : Int) (w : World) (h : Blk w g 52 #[.int .i64 x, .int .i64 y, .int .i64 u, .int .i64 v]) :
    Calls Try.prog 23 #[.slice (some ⟨g, 0, none⟩) 2 2] w fun e w' => ∃ X d, e = .returned (.slice X 2 d) ∧ CReads w' w'.heap.size X 2 (fun k => ([(x, y, 1), (u, v, 1)] : List C3).getD k (0, 0, 0)) ∧ Below w.heap.size w w' :=
  life_any (some ⟨g, 0, none⟩) 2 2 (fun k => [(x, y), (u, v)].getD k (0, 0)) w (q_blk (l := [(x, y), (u, v)]) h) (by decide)
/-- the generations -/
def gens : Nat → List C3
  | 0 => [(3, 0, 1)]
  | 1 => [(2, 0, 1), (3, 0, 1)]
  | _ => [(1, 0, 1), (3, 0, 1)]
section
variable (AH AN A : Option Addr) (cH cN c : Nat) (w : World)
theorem x_step (h : TS w AH AN parT) (hp : CReads w w.heap.size A 1 (fun k => ([(3, 0, 1)] : List C3).getD k (0, 0, 0))) :
    Calls Try.prog 11 #[.agg #[.int .i64 2, .slice AH 2 cH, .slice AN 3 cN], .slice A 1 c] w fun e w' => ∃ X d, e = .returned (.tuple #[.slice X 2 d, .int .i64 0]) ∧ CReads w' w'.heap.size X 2 (fun k => ([(2, 0, 1), (3, 0, 1)] : List C3).getD k (0, 0, 0)) ∧ Below w.heap.size w w' := by
  have q := step_any AH AN A cH cN c 1 parT [(3, 0, 1)] w h par_rt par_q hp rfl (by decide) ok_p1
  refine Calls.mono q fun e w' hh => ?_
  rcases hh with ⟨h1, _⟩ | ⟨_, h2⟩
  · exact absurd (by decide) h1
  · rw [nxt_p1] at h2
    exact adv_known vld_p1 (by decide) cls_p1 h2
theorem x_run (h : TS w AH AN parT) (hp : CReads w w.heap.size A 1 (fun k => ([(3, 0, 1)] : List C3).getD k (0, 0, 0))) :
    Calls Try.prog 24 #[.agg #[.int .i64 2, .slice AH 2 cH, .slice AN 3 cN], .slice A 1 c, .int .i64 2] w fun e w' => ∃ X d, e = .returned (.tuple #[.slice X 2 d, .int .i64 0]) ∧ CReads w' w'.heap.size X 2 (fun k => ([(1, 0, 1), (3, 0, 1)] : List C3).getD k (0, 0, 0)) ∧ Below w.heap.size w w' :=
  run_any AH AN A cH cN c 2 parT gens w (by decide) h par_rt par_q hp (fun k hk => by
    match k, hk with
    | 0, _ => exact ⟨ok_p1, by decide, by decide⟩
    | 1, _ => exact ⟨ok_p2, by decide, by decide⟩
    | 2, _ => exact ⟨ok_p3, by decide, by decide⟩) (fun k hk => by
    match k, hk with
    | 0, _ =>
      show Vld (nxt _ _ [(3, 0, 1)]) ∧ (nxt _ _ [(3, 0, 1)]).length ≤ 5000 ∧ cls (nxt _ _ [(3, 0, 1)]) = [(2, 0, 1), (3, 0, 1)]
      rw [nxt_p1]; exact ⟨vld_p1, by decide, cls_p1⟩
    | 1, _ =>
      show Vld (nxt _ _ [(2, 0, 1), (3, 0, 1)]) ∧ (nxt _ _ [(2, 0, 1), (3, 0, 1)]).length ≤ 5000 ∧ cls (nxt _ _ [(2, 0, 1), (3, 0, 1)]) = [(1, 0, 1), (3, 0, 1)]
      rw [nxt_p2]; exact ⟨vld_p2, by decide, cls_p2⟩)
theorem x_hist (h : TS w AH AN parT) :
    Calls Try.prog 25 #[.agg #[.int .i64 2, .slice AH 2 cH, .slice AN 3 cN], .slice none 0 0, .int .i64 3] w fun e w' => ∃ X d, e = .returned (.tuple #[.slice X 4 d, .int .i64 0]) ∧ Below w.heap.size w w' :=
  history_nil AH AN cH cN 3 parT w (by decide) h par_rt par_q nxt_p0
theorem x_neg (h : TS w AH AN parT) :
    Calls Try.prog 24 #[.agg #[.int .i64 2, .slice AH 2 cH, .slice AN 3 cN], .slice none 0 0, .int .i64 (-1)] w fun e w' => e = .returned (.tuple #[.slice none 0 0, .int .i64 2]) ∧ Below w.heap.size w w' :=
  run_neg AH AN cH cN parT w h par_rt par_q
end
end Go.Proofs.Ytaicehkphokacaa
