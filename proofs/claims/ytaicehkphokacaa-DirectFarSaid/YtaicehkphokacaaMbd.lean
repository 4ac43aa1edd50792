/- Patterns far from each other: what the law wants, without memory. -/
/- Append of a list of a named type; two lists joined. -/
import Derived.Test.YtaicehkphokacaaMbc
namespace Go.Proofs.Ytaicehkphokacaa
open Go.RowKit

theorem fo_rng {T : Tr} (ht : Rt T) : ∀ (l : List Int) (k : Nat), k < T.m → T.lv k = (l.length : Int) → 0 < l.length → (∀ x ∈ l, 0 ≤ x ∧ x < T.st) → 0 ≤ fo T.nx (k : Int) l ∧ fo T.nx (k : Int) l < T.st
  | [], _, _, _, h, _ => absurd h (Nat.lt_irrefl _)
  | x :: r, k, hk, hl, _, hs => by
    obtain ⟨q1, q2, q3, q4⟩ := ht.nd k hk
    have hx := hs x (by simp)
    obtain ⟨xn, hxn⟩ : ∃ xn : Nat, x = (xn : Int) := ⟨x.toNat, by omega⟩
    subst hxn
    obtain ⟨e1, e2, e3⟩ := q4 xn (by omega)
    rw [fo, Int.toNat_natCast, Int.toNat_natCast]
    cases r with
    | nil =>
      rw [fo]
      exact ⟨e1, e2 (by simpa using hl)⟩
    | cons y r =>
      obtain ⟨p1, p2⟩ := e3 (by rw [hl]; simp; omega)
      obtain ⟨v, hv⟩ : ∃ v : Nat, ig (T.nx k) xn = (v : Int) := ⟨(ig (T.nx k) xn).toNat, by omega⟩
      rw [hv] at p1 p2 ⊢
      rw [Int.toNat_natCast] at p2
      exact fo_rng ht (y :: r) v (by omega) (by rw [p2, hl]; first | (simp; done) | (simp; omega)) (by simp) (fun z hz => hs z (List.mem_cons_of_mem _ hz))
theorem FT_rng {T : Tr} (ht : Rt T) {p : List C3} (hP : PatOK p) (hs : ∀ c ∈ p, c.2.2 < T.st) (ho : ∀ o ∈ offL T, OffOk o) {z : Nat} (hz : z < PS) : 0 ≤ FT (gT T) (offL T) p z ∧ FT (gT T) (offL T) p z < T.st := by
  have m1 := ht.m1
  have n1 := ht.hd.1.1
  have s1 := ht.s1
  unfold FT gT
  refine fo_rng ht _ _ (by omega) (by rw [ht.top, List.length_map, offL_len]) (by rw [List.length_map, offL_len]; omega) fun x hx => ?_
  rw [List.mem_map] at hx
  obtain ⟨o, h1, rfl⟩ := hx
  by_cases h0 : stA (nums p) (sts p) ((z : Int) + o) = 0
  · rw [h0]; omega
  · obtain ⟨c, hc, _, e⟩ := stA_ne hP (by have := off_bd (ho o h1); unfold BY PS at *; omega) h0
    rw [e]
    have := (hP.ok c hc).2.2.1
    have := hs c hc
    omega
theorem sp_near {x y : C3} (h : sp x y) : Near x y := by unfold sp at h; unfold Near; omega
theorem cls_sp {l k : List (Nat × Int)} (h : ∀ e ∈ l, ∀ f ∈ k, e.1 ≠ f.1) : ∀ x ∈ cls l, ∀ y ∈ cls k, ¬ sp x y := fun x hx y hy hs => by
  unfold cls at hx hy
  rw [List.mem_map] at hx hy
  obtain ⟨e, he, rfl⟩ := hx
  obtain ⟨f, hf, rfl⟩ := hy
  obtain ⟨h1, h2⟩ := hs
  simp only at h1 h2
  refine h e he f hf ?_
  have e1 := nmb_place (e.1 : Int)
  have e2 := nmb_place (f.1 : Int)
  rw [h1, h2, e2] at e1
  omega
/-- what the law wants -/
structure FarOk (T : Tr) (a b : List C3) : Prop where
  ok : ∀ c ∈ a ++ b, okc c.1 ∧ okc c.2.1 ∧ 1 ≤ c.2.2 ∧ c.2.2 < 8
  dis : (a ++ b).Pairwise fun x y => ¬ sp x y
  pat : PatOK (frm (a ++ b))
  len : (frm (a ++ b)).length = a.length + b.length
  top : tpS (frm (a ++ b)) < T.st ↔ tpS a < T.st ∧ tpS b < T.st
  vld : Vld (nxt (gT T) (offL T) (frm (a ++ b))) ↔ Vld (nxt (gT T) (offL T) a) ∧ Vld (nxt (gT T) (offL T) b)
  la : (nxt (gT T) (offL T) a).length ≤ 1500
  lb : (nxt (gT T) (offL T) b).length ≤ 1500
  lc : (nxt (gT T) (offL T) (frm (a ++ b))).length = (nxt (gT T) (offL T) a).length + (nxt (gT T) (offL T) b).length
  fin : tpS a < T.st → tpS b < T.st → Vld (nxt (gT T) (offL T) a) → Vld (nxt (gT T) (offL T) b) → (∀ c ∈ cls (nxt (gT T) (offL T) a) ++ cls (nxt (gT T) (offL T) b), okc c.1 ∧ okc c.2.1 ∧ 1 ≤ c.2.2 ∧ c.2.2 < 8) ∧ (cls (nxt (gT T) (offL T) a) ++ cls (nxt (gT T) (offL T) b)).Pairwise (fun x y => ¬ sp x y)
  eq : frm (cls (nxt (gT T) (offL T) a) ++ cls (nxt (gT T) (offL T) b)) = cls (nxt (gT T) (offL T) (frm (a ++ b)))
theorem far_ok {T : Tr} {a b : List C3} (ht : Rt T) (hqt : gT T (List.replicate T.n 0) = 0) (ha : PatOK a) (hb : PatOK b) (la : a.length ≤ 60) (lb : b.length ≤ 60) (hf : ∀ x ∈ a, ∀ y ∈ b, ¬ Near x y) : FarOk T a b := by
  have ho := offs_ok ht.hd.2.1
  have hq : gT T (List.replicate (offL T).length 0) = 0 := by rw [offL_len]; exact hqt
  have s1 := ht.s1
  have s2 := ht.s2
  have ok : ∀ c ∈ a ++ b, okc c.1 ∧ okc c.2.1 ∧ 1 ≤ c.2.2 ∧ c.2.2 < 8 := fun c hc => by
    rcases List.mem_append.1 hc with h | h
    · exact ha.ok c h
    · exact hb.ok c h
  have dis := app_sp ha.asc hb.asc fun x hx y hy h => hf x hx y hy (sp_near h)
  obtain ⟨f1, f2, f3⟩ := frm_ok dis
  have pat : PatOK (frm (a ++ b)) := ⟨fun c hc => ok c ((f2 c).1 hc), f1⟩
  have hm : ∀ x, x ∈ frm (a ++ b) ↔ x ∈ a ∨ x ∈ b := fun x => by rw [f2, List.mem_append]
  have hfar : ∀ x ∈ a, ∀ y ∈ b, ¬ (-4 ≤ x.1 - y.1 ∧ x.1 - y.1 ≤ 4 ∧ -4 ≤ x.2.1 - y.2.1 ∧ x.2.1 - y.2.1 ≤ 4) := hf
  have hn := nxt_far hq ho ha hb pat hm hfar
  have hap := nxt_apart hq ho ha hb pat hm hfar
  have n25 := ht.hd.1.2
  have bnd : ∀ p : List C3, PatOK p → p.length ≤ 60 → (nxt (gT T) (offL T) p).length ≤ 1500 := fun p hp hl => by
    have h1 := nxt_len hq ho hp
    rw [offL_len] at h1
    have h2 := Nat.mul_le_mul hl n25
    omega
  have dis2 : (cls (nxt (gT T) (offL T) a) ++ cls (nxt (gT T) (offL T) b)).Pairwise (fun x y => ¬ sp x y) := app_sp (cls_asc _ (res_asc (FT (gT T) (offL T) a) PS)) (cls_asc _ (res_asc (FT (gT T) (offL T) b) PS)) (cls_sp fun e he f hf => hap e f he hf)
  obtain ⟨g1, g2, g3⟩ := frm_ok dis2
  have heq : frm (cls (nxt (gT T) (offL T) a) ++ cls (nxt (gT T) (offL T) b)) = cls (nxt (gT T) (offL T) (frm (a ++ b))) := by
    refine asc_ext bef bef_irr bef_as _ _ g1 (cls_asc _ (res_asc _ PS)) fun x => ?_
    rw [g2 x, List.mem_append]
    unfold cls
    rw [List.mem_map, List.mem_map, List.mem_map]
    constructor
    · rintro (⟨e, he, rfl⟩ | ⟨e, he, rfl⟩)
      · exact ⟨e, (hn e).2 (.inl he), rfl⟩
      · exact ⟨e, (hn e).2 (.inr he), rfl⟩
    · rintro ⟨e, he, rfl⟩
      rcases (hn e).1 he with h | h
      · exact .inl ⟨e, h, rfl⟩
      · exact .inr ⟨e, h, rfl⟩
  refine ⟨ok, dis, pat, by rw [f3, List.length_append], ?_, ?_, bnd a ha la, bnd b hb lb, ?_, fun ta tb va vb => ⟨fun c hc => ?_, dis2⟩, heq⟩
  · unfold tpS
    rw [tpS_lt (by omega), tpS_lt (by omega), tpS_lt (by omega)]
    constructor
    · rintro ⟨h1, h2⟩
      exact ⟨⟨h1, fun c hc => h2 c ((hm c).2 (.inl hc))⟩, h1, fun c hc => h2 c ((hm c).2 (.inr hc))⟩
    · rintro ⟨⟨h1, h2⟩, _, h3⟩
      exact ⟨h1, fun c hc => by
        rcases (hm c).1 hc with h | h
        · exact h2 c h
        · exact h3 c h⟩
  · constructor
    · intro h
      exact ⟨fun e he => h e ((hn e).2 (.inl he)), fun e he => h e ((hn e).2 (.inr he))⟩
    · rintro ⟨h1, h2⟩ e he
      rcases (hn e).1 he with h | h
      · exact h1 e h
      · exact h2 e h
  · have := congrArg List.length heq
    rw [g3, List.length_append, cls_len, cls_len, cls_len] at this
    exact this.symm
  · have one : ∀ p : List C3, PatOK p → tpS p < T.st → Vld (nxt (gT T) (offL T) p) → ∀ c ∈ cls (nxt (gT T) (offL T) p), okc c.1 ∧ okc c.2.1 ∧ 1 ≤ c.2.2 ∧ c.2.2 < 8 := fun p hp tp vp c hc => by
      unfold cls at hc
      rw [List.mem_map] at hc
      obtain ⟨e, he, rfl⟩ := hc
      obtain ⟨v1, v2⟩ := vp e he
      unfold nxt at he
      rw [mem_res] at he
      obtain ⟨h1, h2, h3⟩ := he
      have hst := ((tpS_lt (by omega) p 0).1 tp).2
      obtain ⟨r1, r2⟩ := FT_rng ht hp hst ho h1
      rw [h2] at r1 r2
      exact ⟨v1, v2, by simp only; omega, by simp only; omega⟩
    rcases List.mem_append.1 hc with h | h
    · exact one a ha ta va c h
    · exact one b hb tb vb c h
end Go.Proofs.Ytaicehkphokacaa
namespace Go.Proofs.Ytaicehkphokacaa
open Go.RowKit

theorem append_tu {P : Program} (t u ty e e' : TypeId) (ht : P.underlying t = some (.slice e)) (hu : P.underlying u = some (.slice e')) (s x : Value) (w : World) : (Builtin.append_ #[t, u] ty #[s, x]).run P w = (Builtin.append_ #[t, t] ty #[s, x]).run P w := by
  unfold Builtin.append_
  cases s <;> simp [run_underlying ht, run_underlying hu, Result.andThen]
theorem addo' (g o k : Nat) : ((⟨g, o, none⟩ : Addr).add k) = ⟨g, o + k, none⟩ := by
  unfold Addr.add
  split
  · next e => subst e; rfl
  · simp
theorem append_nothing {P : Program} {w : World} {base size : Nat} (t ty e : TypeId) (i : TypeInfo) (ht : P.underlying t = some (.slice e)) (hi : P.info? e = some i) (v : Value) (n c : Nat) (xs : List Value) (hown : w.ownsRow base e size v n xs) :
    (Builtin.append_ #[t, t] ty #[v, .slice none 0 c]).run P w = .ok v w := by
  rcases hown.2 with ⟨rfl, rfl⟩ | ⟨g, cap, cur, rfl, _, _, hnc, _⟩
  · simp [Builtin.append_, run_underlying ht, sizeOf, typeInfo, hi, Builtin.lenOf, Builtin.firstCells]
  · simp [Builtin.append_, run_underlying ht, sizeOf, typeInfo, hi, Builtin.lenOf, Builtin.firstCells, hnc, storeCells]
/-- a list of cells as news -/
theorem cells_news {w : World} {B : Nat} {ad : Addr} {m : Nat} {l : List C3} (h : CReads w B (some ad) m (fun k => l.getD k (0, 0, 0))) (hl : l.length = m) : ∀ (j : Nat) (u : Value), (cg l)[j]? = some u → w.cell? (ad.add j) = some u := by
  intro j u hj
  have L0 := cg_len l
  have hlt : j < l.length * 3 := by
    rcases Nat.lt_or_ge j (l.length * 3) with h' | h'
    · exact h'
    · rw [List.getElem?_eq_none (by rw [L0]; exact h')] at hj; cases hj
  obtain ⟨g, o, ha, hg, hc⟩ := h (by omega)
  injection ha with ha
  subst ha
  rw [addo']
  obtain ⟨k, r, rfl, hr⟩ : ∃ k r, j = k * 3 + r ∧ r < 3 := ⟨j / 3, j % 3, by omega, by omega⟩
  obtain ⟨q1, q2, q3⟩ := hc k (by omega)
  obtain ⟨p1, p2, p3⟩ := cg_at l k (by omega)
  rcases (by omega : r = 0 ∨ r = 1 ∨ r = 2) with rfl | rfl | rfl
  · rw [Nat.add_zero] at hj ⊢
    rw [q1, ← p1, hj]
  · rw [← Nat.add_assoc, q2, ← p2, hj]
  · rw [← Nat.add_assoc, q3, ← p3, hj]
theorem cg_one (l : List C3) : ∀ u ∈ cg l, u.oneCell' = true := fun u hu => by
  simp only [cg, List.mem_flatMap] at hu
  obtain ⟨x, _, hu⟩ := hu
  simp at hu
  rcases hu with rfl | rfl | rfl <;> rfl
/-- append of a list of cells, nil or not, onto a row of the call's own -/
theorem wpList_appT {w : World} {ops : Array Oper} {rest : List Oper} {o : Oper} {a : Act} {Q : Exit → Act → World → Prop} (hgd : o.guard = none) (s x : Operand)
    (ho : o.op = .call { callee := .builtin .append, args := #[s, x], argTypes := #[26, 27] })
    (base : Nat) (v : Value) (n : Nat) (xs : List Value) (hs : a.eval s = v) (hown : w.ownsRow base 47 3 v n xs) (X : Option Addr) (m c B : Nat) (l : List C3) (hx : a.eval x = .slice X m c) (hr : CReads w B X m (fun k => l.getD k (0, 0, 0))) (hl : l.length = m) (N : Nat) (hN : n + m = N)
    (hn : n + m ≤ 1000000) (hbase : base ≤ w.heap.size)
    (h : ∀ A' c' w', w'.ownsRow base 47 3 (.slice A' N c') N (xs ++ cg l) → w.grownBy w' v.ownBlock → wpList Try.prog ops Q rest (a.put o.dst (.slice A' N c')) w') : wpList Try.prog ops Q (o :: rest) a w := by
  obtain ⟨ic, hic, hy0, hy1, hy2⟩ := info_parts info_cellC
  have key : ∃ A' c' w', (Builtin.append_ #[26, 27] o.type #[v, .slice X m c]).run Try.prog w = .ok (.slice A' (n + m) c') w' ∧ w'.ownsRow base 47 3 (.slice A' (n + m) c') (n + m) (xs ++ cg l) ∧ w.grownBy w' v.ownBlock := by
    rw [append_tu _ _ _ _ _ Try.underlying26 Try.underlying27]
    cases X with
    | some ad =>
      obtain ⟨v', w', h1, h2, h3, _⟩ := run_append_own (P := Try.prog) w base 26 o.type 47 ic (.agg #[.int .i64 0, .int .i64 0, .int .i64 0]) 3 24 Try.underlying26 hic hy0 hy1 hy2 rfl (by decide) v n xs hown ad m c (cg l) (by rw [cg_len, hl]) (cells_news hr hl) (cg_one l) (by unfold maxLen; omega) (by omega) hbase
      rcases h2.2 with ⟨e1, e2⟩ | ⟨g, cap, cur, e1, _⟩
      · subst e1
        exact ⟨none, 0, w', by rw [h1, e2], by rw [e2] at h2 ⊢; exact h2, h3⟩
      · subst e1
        exact ⟨_, _, w', h1, h2, h3⟩
    | none =>
      have hm : m = 0 := by
        rcases Nat.eq_zero_or_pos m with e | e
        · exact e
        · obtain ⟨g, o, ha, _⟩ := hr e; cases ha
      subst hm
      have hl0 : l = [] := List.eq_nil_of_length_eq_zero hl
      subst hl0
      have h1 := append_nothing (P := Try.prog) 26 o.type 47 ic Try.underlying26 hic v n c xs hown
      have e0 : xs ++ cg [] = xs := by simp [cg]
      rw [e0]
      rcases hown.2 with ⟨e1, e2⟩ | ⟨g, cap, cur, e1, _⟩
      · subst e1
        exact ⟨none, 0, w, by rw [h1, e2], by rw [e2] at hown ⊢; exact hown, ⟨rfl, rfl, rfl, Nat.le_refl _, fun _ _ _ => rfl⟩⟩
      · subst e1
        exact ⟨_, _, w, h1, hown, ⟨rfl, rfl, rfl, Nat.le_refl _, fun _ _ _ => rfl⟩⟩
  obtain ⟨A', c', w', k1, k2, k3⟩ := key
  rw [hN] at k1 k2
  refine wpList_plain hgd fun K hK => ?_
  unfold Oper.wp execOp
  simp only [ho, resolve, invoke, builtin, Sem.run_bind, Sem.run_pure, Result.andThen_ok, List.map_toArray, List.map_cons, List.map_nil, hs, hx, k1]
  exact hK _ _ (h A' c' w' k2 k3)
end Go.Proofs.Ytaicehkphokacaa
