/- The examples of the law: the pure half. -/
/- The walk of slices.Clone on patterns. -/
import Derived.Test.YtaicehkphokacaaMbe
namespace Go.Proofs.Ytaicehkphokacaa
open Go.RowKit

/-- the rule of parity -/
def pf2 (l : List P2) (k : Nat) : P2 := l.getD k (0, 0)
def parT : Tr := ⟨2, 2, pf2 [(0, 0), (1, 0)], 3, fun k => if k = 2 then 2 else 1, fun k => if k = 1 then [1, 0] else [0, 1]⟩
instance decEl2 (st : Int) (lv : Nat → Int) (i : Nat) (l k : Int) : Decidable (El st lv i l k) := by unfold El; exact inferInstance
instance decNd2 (st : Int) (n : Nat) (lv : Nat → Int) (i : Nat) (l : Int) (e : List Int) : Decidable (Nd st n lv i l e) := by unfold Nd; exact inferInstance
theorem par_rt : Rt parT := ⟨by decide, by decide, by decide +kernel, by decide, by decide, by decide +kernel, by decide⟩
theorem par_q : gT parT (List.replicate parT.n 0) = 0 := by decide +kernel
theorem par_off : offL parT = [0, 1] := by decide +kernel
/-- the next generation is known by its cells -/
theorem nxt_of {g : List Int → Int} {os : List Int} {p : List C3} (out : List (Nat × Int)) (ha : out.Pairwise fun a b => a.1 < b.1) (h1 : ∀ e ∈ out, e.1 < PS ∧ FT g os p e.1 = e.2 ∧ e.2 ≠ 0) (h2 : ∀ z, z < PS → FT g os p z ≠ 0 → ∃ e ∈ out, e.1 = z) : nxt g os p = out := by
  refine asc_ext (fun a b => a.1 < b.1) (fun a => Nat.lt_irrefl _) (fun a b h => by omega) _ _ (res_asc _ _) ha fun x => ?_
  unfold nxt
  rw [mem_res]
  constructor
  · rintro ⟨q1, q2, q3⟩
    obtain ⟨e, he, hz⟩ := h2 x.1 q1 (by rw [q2]; exact q3)
    have h3 := (h1 e he).2.1
    have h4 : e = x := Prod.ext hz (by rw [← h3, hz]; exact q2)
    exact h4 ▸ he
  · intro hx
    exact h1 x hx
theorem FT_par (p : List C3) (z : Nat) : FT (gT parT) (offL parT) p z = gT parT [stA (nums p) (sts p) ((z : Int) + 0), stA (nums p) (sts p) ((z : Int) + 1)] := by
  unfold FT
  rw [par_off]
  rfl
/-- it sees a cell or its left neighbour -/
theorem par_near {p : List C3} (hp : PatOK p) {z : Nat} (hz : z < PS) (h : FT (gT parT) (offL parT) p z ≠ 0) : ∃ c ∈ p, nmb c.1 c.2.1 = (z : Int) ∨ nmb c.1 c.2.1 = (z : Int) + 1 := by
  by_cases h1 : stA (nums p) (sts p) ((z : Int) + 0) = 0
  · by_cases h2 : stA (nums p) (sts p) ((z : Int) + 1) = 0
    · rw [FT_par, h1, h2] at h
      exact absurd (by decide +kernel) h
    · obtain ⟨c, hc, h3, _⟩ := stA_ne hp (by unfold BY PS at *; omega) h2
      exact ⟨c, hc, .inr h3⟩
  · obtain ⟨c, hc, h3, _⟩ := stA_ne hp (by unfold BY PS at *; omega) h1
    exact ⟨c, hc, .inl (by rw [h3]; omega)⟩
theorem ok_p0 : PatOK ([] : List C3) := ⟨by decide, by decide⟩
theorem nxt_p0 : nxt (gT parT) (offL parT) ([] : List C3) = ([] : List (Nat × Int)) := by
  refine nxt_of _ (by decide) (by decide +kernel) fun z hz h => ?_
  obtain ⟨c, hc, h1⟩ := par_near ok_p0 hz h
  exact absurd hc (by simp)
theorem ok_p1 : PatOK ([(3, 0, 1)] : List C3) := ⟨by decide, by decide⟩
theorem nxt_p1 : nxt (gT parT) (offL parT) ([(3, 0, 1)] : List C3) = ([(2199033741326, 1), (2199033741327, 1)] : List (Nat × Int)) := by
  refine nxt_of _ (by decide) (by decide +kernel) fun z hz h => ?_
  obtain ⟨c, hc, h1⟩ := par_near ok_p1 hz h
  simp only [List.mem_cons, List.not_mem_nil, or_false] at hc
  have hk : z = 2199033741326 ∨ z = 2199033741327 := by
    subst hc
    unfold nmb at h1
    dsimp only at h1
    omega
  rcases hk with rfl | rfl
  · exact ⟨(2199033741326, 1), by decide, rfl⟩
  · exact ⟨(2199033741327, 1), by decide, rfl⟩
theorem ok_p2 : PatOK ([(2, 0, 1), (3, 0, 1)] : List C3) := ⟨by decide, by decide⟩
theorem nxt_p2 : nxt (gT parT) (offL parT) ([(2, 0, 1), (3, 0, 1)] : List C3) = ([(2199033741325, 1), (2199033741327, 1)] : List (Nat × Int)) := by
  refine nxt_of _ (by decide) (by decide +kernel) fun z hz h => ?_
  obtain ⟨c, hc, h1⟩ := par_near ok_p2 hz h
  simp only [List.mem_cons, List.not_mem_nil, or_false] at hc
  have hk : z = 2199033741325 ∨ z = 2199033741326 ∨ z = 2199033741327 := by
    rcases hc with rfl | rfl <;> unfold nmb at h1 <;> dsimp only at h1 <;> omega
  rcases hk with rfl | rfl | rfl
  · exact ⟨(2199033741325, 1), by decide, rfl⟩
  · exact absurd (by decide +kernel) h
  · exact ⟨(2199033741327, 1), by decide, rfl⟩
theorem ok_p3 : PatOK ([(1, 0, 1), (3, 0, 1)] : List C3) := ⟨by decide, by decide⟩
theorem cls_p1 : cls ([(2199033741326, 1), (2199033741327, 1)] : List (Nat × Int)) = ([(2, 0, 1), (3, 0, 1)] : List C3) := by decide +kernel
theorem vld_p1 : Vld ([(2199033741326, 1), (2199033741327, 1)] : List (Nat × Int)) := by decide +kernel
theorem cls_p2 : cls ([(2199033741325, 1), (2199033741327, 1)] : List (Nat × Int)) = ([(1, 0, 1), (3, 0, 1)] : List C3) := by decide +kernel
theorem vld_p2 : Vld ([(2199033741325, 1), (2199033741327, 1)] : List (Nat × Int)) := by decide +kernel
theorem cls_p0 : cls ([] : List (Nat × Int)) = ([] : List C3) := by decide +kernel
theorem vld_p0 : Vld ([] : List (Nat × Int)) := by decide +kernel
/-- what advance answers, said at once -/
theorem adv_known {l : List (Nat × Int)} {p : List C3} {w : World} {e : Ending} {w' : World} (hv : Vld l) (hl : l.length ≤ 5000) (hc : cls l = p) (h : AdvOut l w e w') : ∃ A c, e = .returned (.tuple #[.slice A p.length c, .int .i64 0]) ∧ CReads w' w'.heap.size A p.length (fun k => p.getD k (0, 0, 0)) ∧ Below w.heap.size w w' := by
  have hlen : p.length = l.length := by rw [← hc]; simp [cls]
  rcases h with ⟨h1, _⟩ | ⟨_, h2, _⟩ | ⟨_, _, A, c, h3, h4, h5⟩
  · exact absurd hv h1
  · omega
  · exact ⟨A, c, by rw [hlen]; exact h3, by rw [hlen, ← hc]; exact h4, h5⟩
end Go.Proofs.Ytaicehkphokacaa
namespace Go.Proofs.Ytaicehkphokacaa
open Go.RowKit

theorem addo2 (g o k : Nat) : ((⟨g, o, none⟩ : Addr).add k) = ⟨g, o + k, none⟩ := by
  unfold Addr.add
  split
  · next e => subst e; rfl
  · simp
set_option maxRecDepth 100000 in
set_option maxHeartbeats 1000000 in
theorem pclone_some (ad : Addr) (c : Nat) (gs : List C3) (w : World) (h : CReads w w.heap.size (some ad) gs.length (fun k => gs.getD k (0, 0, 0))) (hn : gs.length ≤ 20000) :
    Calls Try.prog 63 #[.slice (some ad) gs.length c] w fun e w' => ∃ A' c', e = .returned (.slice A' gs.length c') ∧ w'.ownsRow w.heap.size 47 3 (.slice A' gs.length c') gs.length (cg gs) ∧ Below w.heap.size w w' := by
  obtain ⟨i0, hi, hz0, hz1, hz2⟩ := info_parts info_cellC
  have L0 := cg_len gs
  have hnews : ∀ (j : Nat) (u : Value), (cg gs)[j]? = some u → (w.alloc (.cells #[] 47)).cell? (ad.add j) = some u := by
    intro j u hj
    have hlt : j < gs.length * 3 := by
      rcases Nat.lt_or_ge j (gs.length * 3) with h' | h'
      · exact h'
      · rw [List.getElem?_eq_none (by rw [L0]; exact h')] at hj; cases hj
    obtain ⟨g, o, ha, hg, hc⟩ := h (by omega)
    injection ha with ha
    subst ha
    refine (World.cell?_alloc_lt w _ _ (by rw [block_of_add]; exact hg)).trans ?_
    rw [addo2]
    obtain ⟨k, r, rfl, hr⟩ : ∃ k r, j = k * 3 + r ∧ r < 3 := ⟨j / 3, j % 3, by omega, by omega⟩
    obtain ⟨q1, q2, q3⟩ := hc k (by omega)
    obtain ⟨p1, p2, p3⟩ := cg_at gs k (by omega)
    rcases (by omega : r = 0 ∨ r = 1 ∨ r = 2) with rfl | rfl | rfl
    · rw [Nat.add_zero] at hj ⊢
      rw [q1, ← p1, hj]
    · rw [← Nat.add_assoc, q2, ← p2, hj]
    · rw [← Nat.add_assoc, q3, ← p3, hj]
  have HN := Lib.hid hnews
  have B1 := Lib.hid ((Below.refl w.heap.size w).alloc (Nat.le_refl _) (.cells #[] 47))
  have HO := Lib.hid (World.ownsRow_made (base := w.heap.size) (e := 47) (size := 3) w #[] 0 (Nat.le_refl _) (by unfold maxLen; omega) (by rfl))
  have s1 := B1.out.size
  have O : ∀ u ∈ cg gs, u.oneCell' = true := fun u hu => by
    simp only [cg, List.mem_flatMap] at hu
    obtain ⟨x, _, hu⟩ := hu
    simp at hu
    rcases hu with rfl | rfl | rfl <;> rfl
  generalize cg gs = xs at HN L0 O ⊢
  generalize gs.length = n at *
  clear h hnews
  have q22 : ∀ (w : World) (a : Option Addr) (n c n' c' : Nat), (binOp .eql 27 (.slice a n c) (.slice none n' c')).run Try.prog w = .ok (.bool a.isNone) w := fun w a n c n' c' => Lib.run_eql_slice_nil w _ _ a n c n' c' Try.underlying27
  go_enter Try.func63, Try.ntmps63
  go_wp2_with (at_builtin; refine wpList_append_own _ rfl _ _ 27 rfl w.heap.size 47 i0 (.agg #[.int .i64 0, .int .i64 0, .int .i64 0]) 3 24 Try.underlying27 hi hz0 hz1 hz2 rfl (by decide) _ 0 [] rfl HO.out ad n c xs rfl L0 HN.out O (by unfold maxLen; omega) (by omega) s1 ?_; intro v' w2 hown2 hg2 hiff; have B2 := Lib.hid (B1.out.grown hg2 s1 (fun k hk => (HO.out.lt k hk).1)); have HO2 := Lib.hid hown2; clear hown2 hg2 hiff)
  have e : ∃ A' c', v' = .slice A' n c' := by
    have h := HO2.out
    rw [Nat.zero_add] at h
    rcases h.2 with ⟨h1, h2⟩ | ⟨g, cap, cur, h1, _⟩
    · subst h2; exact ⟨_, _, h1⟩
    · exact ⟨_, _, h1⟩
  obtain ⟨A', c', rfl⟩ := e
  go_ret
  have h := HO2.out
  rw [Nat.zero_add, List.nil_append] at h
  exact ⟨A', c', rfl, h, B2.out⟩
set_option maxRecDepth 100000 in
theorem pclone_none (c : Nat) (w : World) :
    Calls Try.prog 63 #[.slice none 0 c] w fun e w' => e = .returned (.slice none 0 0) ∧ w = w' := by
  have q22 : ∀ (w : World) (a : Option Addr) (n c n' c' : Nat), (binOp .eql 27 (.slice a n c) (.slice none n' c')).run Try.prog w = .ok (.bool a.isNone) w := fun w a n c n' c' => Lib.run_eql_slice_nil w _ _ a n c n' c' Try.underlying27
  go_enter Try.func63, Try.ntmps63
  go_wp2
  go_ret
  exact ⟨rfl, rfl⟩
theorem pclone_any (A : Option Addr) (c : Nat) (gs : List C3) (w : World) (h : CReads w w.heap.size A gs.length (fun k => gs.getD k (0, 0, 0))) (hn : gs.length ≤ 20000) :
    Calls Try.prog 63 #[.slice A gs.length c] w fun e w' => ∃ A' c', e = .returned (.slice A' gs.length c') ∧ w'.ownsRow w.heap.size 47 3 (.slice A' gs.length c') gs.length (cg gs) ∧ Below w.heap.size w w' := by
  cases A with
  | some ad => exact pclone_some ad c gs w h hn
  | none =>
    cases gs with
    | nil => exact (pclone_none c w).mono fun e w' ⟨he, hw⟩ => ⟨none, 0, he, hw ▸ World.ownsRow_nil _ _ _ _, hw ▸ Below.refl _ _⟩
    | cons x r => obtain ⟨g, o, ha, _⟩ := h (by simp); cases ha
end Go.Proofs.Ytaicehkphokacaa
