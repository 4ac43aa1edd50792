/- The walk of examine, its easy ways. -/
/- The columns that examine lays. -/
/- The walk of examine: a node that isn't known. -/
import Derived.Test.YthgnjjpkmikokaaDoorBaj
namespace Go.Proofs.YthgnjjpkmikokaaDoor
open Go.RowKit

abbrev Mem := List (Int × List Int)
/-- a node of the columns -/
def colN (lv : Int) (rows : List (List Int)) (j : Nat) : Ndv := ⟨lv, (rows.map fun r => ig r j) ++ List.replicate (8 - rows.length) 0⟩
/-- the numbers for each state of a position -/
def examF (sn : Nat) (p : Int) : Nat → Int → List Ndv × Mem → Option (List Int × (List Ndv × Mem))
  | 0, _, _ => none
  | f + 1, n, s => (nodeF (sn : Int) s.1 n).bind fun nd => if nd.lv = p then some (nd.r, s) else
    match s.2.lookup n with
    | some R => some (R, s)
    | none => (rowF (examF sn p f) (nd.r.take sn) s).bind fun (rows, s1) => (rowF (fun (j : Nat) L => addF (sn : Int) L (colN nd.lv rows j)) (List.range sn) s1.1).bind fun (res, L2) =>
      some (res ++ List.replicate (8 - sn) 0, (L2, (n, res ++ List.replicate (8 - sn) 0) :: s1.2))
/-- the forest and what is known already -/
def Exs (sn : Nat) (fb kb : Nat) (w : World) (G : Nat → Prop) (s : List Ndv × Mem) : Prop :=
  ∃ H, Fo w fb H (sn : Int) s.1 ∧ (∀ k, H k → G k ∧ k ≠ kb) ∧ MapOf Tryd.prog w 21 kb (fun x => .int .i32 x) rowV (fun n => s.2.lookup n) ∧ G kb ∧ (∀ k, G k → k < w.heap.size) ∧ ∀ n R, s.2.lookup n = some R → R8 R
section
variable {sn fb kb : Nat} {w w' : World} {G H H' : Nat → Prop} {s : List Ndv × Mem}
theorem Exs.keep (h : Exs sn fb kb w G s) (hf : Fr H w H' w') (hd : ∀ k, G k → ¬ H k) : Exs sn fb kb w' G s := by
  obtain ⟨H1, h1, h2, h3, h4, h5, h6⟩ := h
  exact ⟨H1, h1.keep hf (fun k hk => hd k (h2 k hk).1), h2, hf.map h3 (hd _ h4), h4, fun k hk => Nat.lt_of_lt_of_le (h5 k hk) hf.size, h6⟩
theorem Exs.below (h : Exs sn fb kb w G s) (hb : Below w.heap.size w w') : Exs sn fb kb w' G s := h.keep (Fr.of_below (G := fun _ => False) hb) (fun _ _ h => h)
theorem Exs.lt (h : Exs sn fb kb w G s) : ∀ k, G k → k < w.heap.size := by
  obtain ⟨H1, h1, h2, h3, h4, h5, h6⟩ := h
  exact h5
/-- what an examination promises -/
def ExOut (sn fb kb : Nat) (w : World) (G : Nat → Prop) (r : List Int) (s' : List Ndv × Mem) (e : Ending) (w' : World) : Prop :=
  ∃ G', e = .returned (rowV r) ∧ R8 r ∧ Exs sn fb kb w' G' s' ∧ Fr G w G' w'
theorem zero_row (w : World) : (zeroValue 85).run Tryd.prog w = .ok (rowV [0, 0, 0, 0, 0, 0, 0, 0]) w := by kernel_rfl
theorem mem_look {mm : Mem} (hm : MapOf Tryd.prog w 21 kb (fun x => .int .i32 x) rowV (fun n => mm.lookup n)) {n : Int} (hn : I32 n) :
    (Instr.lookup 82 (.map (some kb)) (.int .i32 n) true).run Tryd.prog w = .ok (match mm.lookup n with | some v => .tuple #[rowV v, .bool true] | none => .tuple #[rowV [0, 0, 0, 0, 0, 0, 0, 0], .bool false]) w := by
  rw [hm.look true Tryd.keyI32 Tryd.underlying82 (zero_row w) (key_i32 hn.1 hn.2) (fun y _ _ e => i32V_inj e)]
  cases mm.lookup n <;> rfl
set_option maxRecDepth 100000 in
set_option maxHeartbeats 4000000 in
theorem exam_hit {n p : Int} {nd : Ndv} (h : Exs sn fb kb w G s) (hk : nodeF (sn : Int) s.1 n = some nd) (hp : nd.lv = p) :
    Calls Tryd.prog 58 #[.pointer (some ⟨fb, 0, none⟩), .int .i32 n, .int .i64 p, .map (some kb)] w fun e w' => ExOut sn fb kb w G nd.r s e w' := by
  obtain ⟨H, hf, hHG, hm, hG1, hG2, hR⟩ := id h
  have hR8 := (hf.st2.2.2.2.2.1 nd (nodeF_mem hk)).2.2
  have C := Lib.hid (node_any (hf.below ((Below.refl w.heap.size w).alloc (Nat.le_refl _) (.cells #[.int .i32 0, .int .i32 0, .int .i32 0, .int .i32 0, .int .i32 0, .int .i32 0, .int .i32 0, .int .i32 0] 85))) hk)
  have B1 := Lib.hid ((Below.refl w.heap.size w).alloc (Nat.le_refl _) (.cells #[.int .i32 0, .int .i32 0, .int .i32 0, .int .i32 0, .int .i32 0, .int .i32 0, .int .i32 0, .int .i32 0] 85))
  have K1 := Lib.hid (Blk.new w 85 #[.int .i32 0, .int .i32 0, .int .i32 0, .int .i32 0, .int .i32 0, .int .i32 0, .int .i32 0, .int .i32 0])
  have HH := Lib.hid h
  obtain ⟨lv, rr⟩ := nd
  have HR8 := Lib.hid hR8
  obtain ⟨x1, x2, x3, x4, x5, x6, x7, x8, rfl⟩ := oct hR8.1
  simp only at hp
  subst hp
  rw [nodV_eight] at C
  simp only
  clear h hf hm hk hR8 hHG hR
  go_enter Tryd.func58, Tryd.ntmps58
  go_wp2_with (go_at_call 65; (with_reducible refine (C.out).mono ?_); rintro e w2 ⟨rfl, hb2⟩; have B2 := Lib.hid (B1.out.trans (hb2.mono B1.out.size)); have K2 := (K1.out.below hb2 K1.out.lt).alloc (.cells #[.int .i64 lv, .int .i32 x1, .int .i32 x2, .int .i32 x3, .int .i32 x4, .int .i32 x5, .int .i32 x6, .int .i32 x7, .int .i32 x8] 90); have z0 := K2.cell 0; have z1 := K2.cell 1; have z2 := K2.cell 2; have z3 := K2.cell 3; have z4 := K2.cell 4; have z5 := K2.cell 5; have z6 := K2.cell 6; have z7 := K2.cell 7; have q0 := K2.frozen 0; have q1 := K2.frozen 1; have q2 := K2.frozen 2; have q3 := K2.frozen 3; have q4 := K2.frozen 4; have q5 := K2.frozen 5; have q6 := K2.frozen 6; have q7 := K2.frozen 7; have KK := Lib.hid K2; have BB := Lib.hid (B2.out.alloc B2.out.size (.cells #[.int .i64 lv, .int .i32 x1, .int .i32 x2, .int .i32 x3, .int .i32 x4, .int .i32 x5, .int .i32 x6, .int .i32 x7, .int .i32 x8] 90)); clear K2)
  obtain ⟨KF, BF⟩ := KK.out.set8 (b0 := .int .i32 x1) (b1 := .int .i32 x2) (b2 := .int .i32 x3) (b3 := .int .i32 x4) (b4 := .int .i32 x5) (b5 := .int .i32 x6) (b6 := .int .i32 x7) (b7 := .int .i32 x8)
  obtain ⟨y0, y1, y2, y3, y4, y5, y6, y7⟩ := KF.eight8
  have BZ := BB.out.trans (BF _ (Nat.le_refl _))
  exact bodyPost_ret (v := .agg #[.int .i32 x1, .int .i32 x2, .int .i32 x3, .int .i32 x4, .int .i32 x5, .int .i32 x6, .int .i32 x7, .int .i32 x8]) (by simp [results, Tryd.results58, go_sem, y0, y1, y2, y3, y4, y5, y6, y7]) rfl ⟨G, rfl, HR8.out, HH.out.below BZ, Fr.of_below BZ⟩
set_option maxRecDepth 100000 in
set_option maxHeartbeats 4000000 in
theorem exam_memo {n p : Int} {nd : Ndv} {R : List Int} (hn : I32 n) (h : Exs sn fb kb w G s) (hk : nodeF (sn : Int) s.1 n = some nd) (hp : nd.lv ≠ p) (hR : s.2.lookup n = some R) :
    Calls Tryd.prog 58 #[.pointer (some ⟨fb, 0, none⟩), .int .i32 n, .int .i64 p, .map (some kb)] w fun e w' => ExOut sn fb kb w G R s e w' := by
  obtain ⟨H, hf, hHG, hm, hG1, hG2, hRR⟩ := id h
  have hR8 := hRR n R hR
  have hnR := (hf.st2.2.2.2.2.1 nd (nodeF_mem hk)).2.2
  have C := Lib.hid (node_any (hf.below ((Below.refl w.heap.size w).alloc (Nat.le_refl _) (.cells #[.int .i32 0, .int .i32 0, .int .i32 0, .int .i32 0, .int .i32 0, .int .i32 0, .int .i32 0, .int .i32 0] 85))) hk)
  have B1 := Lib.hid ((Below.refl w.heap.size w).alloc (Nat.le_refl _) (.cells #[.int .i32 0, .int .i32 0, .int .i32 0, .int .i32 0, .int .i32 0, .int .i32 0, .int .i32 0, .int .i32 0] 85))
  have K1 := Lib.hid (Blk.new w 85 #[.int .i32 0, .int .i32 0, .int .i32 0, .int .i32 0, .int .i32 0, .int .i32 0, .int .i32 0, .int .i32 0])
  have HH := Lib.hid h
  have HM := Lib.hid hm
  have HN := Lib.hid hn
  have HRR := Lib.hid hR
  obtain ⟨lv, rr⟩ := nd
  have HR8 := Lib.hid hR8
  obtain ⟨v1, v2, v3, v4, v5, v6, v7, v8, rfl⟩ := oct hnR.1
  obtain ⟨x1, x2, x3, x4, x5, x6, x7, x8, rfl⟩ := oct hR8.1
  simp only at hp
  have hd : (lv == p) = false := by simpa using hp
  have hd2 : decide (lv = p) = false := by simpa using hp
  rw [nodV_eight] at C
  clear h hf hm hk hR8 hHG hR hRR hnR hn
  go_enter Tryd.func58, Tryd.ntmps58
  go_wp2_with (go_at_call 65; (with_reducible refine (C.out).mono ?_); rintro e w2 ⟨rfl, hb2⟩; have B2 := Lib.hid (B1.out.trans (hb2.mono B1.out.size)); have K2 := ((K1.out.below hb2 K1.out.lt).alloc (.cells #[.int .i64 lv, .int .i32 v1, .int .i32 v2, .int .i32 v3, .int .i32 v4, .int .i32 v5, .int .i32 v6, .int .i32 v7, .int .i32 v8] 90)).alloc (.cells #[.int .i32 x1, .int .i32 x2, .int .i32 x3, .int .i32 x4, .int .i32 x5, .int .i32 x6, .int .i32 x7, .int .i32 x8] 85); have z0 := K2.cell 0; have z1 := K2.cell 1; have z2 := K2.cell 2; have z3 := K2.cell 3; have z4 := K2.cell 4; have z5 := K2.cell 5; have z6 := K2.cell 6; have z7 := K2.cell 7; have q0 := K2.frozen 0; have q1 := K2.frozen 1; have q2 := K2.frozen 2; have q3 := K2.frozen 3; have q4 := K2.frozen 4; have q5 := K2.frozen 5; have q6 := K2.frozen 6; have q7 := K2.frozen 7; have KK := Lib.hid K2; have BA := B2.out.alloc B2.out.size (.cells #[.int .i64 lv, .int .i32 v1, .int .i32 v2, .int .i32 v3, .int .i32 v4, .int .i32 v5, .int .i32 v6, .int .i32 v7, .int .i32 v8] 90); have BB := Lib.hid (BA.alloc BA.size (.cells #[.int .i32 x1, .int .i32 x2, .int .i32 x3, .int .i32 x4, .int .i32 x5, .int .i32 x6, .int .i32 x7, .int .i32 x8] 85)); have lk := mem_look (HM.out.of_block (BA.block _ HM.out.lt)) HN.out; rw [HRR.out] at lk; simp only [rowV_eight] at lk; clear K2 BA)
  obtain ⟨KF, BF⟩ := KK.out.set8 (b0 := .int .i32 x1) (b1 := .int .i32 x2) (b2 := .int .i32 x3) (b3 := .int .i32 x4) (b4 := .int .i32 x5) (b5 := .int .i32 x6) (b6 := .int .i32 x7) (b7 := .int .i32 x8)
  obtain ⟨y0, y1, y2, y3, y4, y5, y6, y7⟩ := KF.eight8
  have BZ := BB.out.trans (BF _ (Nat.le_refl _))
  exact bodyPost_ret (v := .agg #[.int .i32 x1, .int .i32 x2, .int .i32 x3, .int .i32 x4, .int .i32 x5, .int .i32 x6, .int .i32 x7, .int .i32 x8]) (by simp [results, Tryd.results58, go_sem, y0, y1, y2, y3, y4, y5, y6, y7]) rfl ⟨G, rfl, HR8.out, HH.out.below BZ, Fr.of_below BZ⟩
end
end Go.Proofs.YthgnjjpkmikokaaDoor
namespace Go.Proofs.YthgnjjpkmikokaaDoor
open Go.RowKit

/-- oct nodes as cells: levels g, elements by rows -/
def woX (g : Nat → Int) (rows : List (List Int)) (x : Nat) : Value := if x % 9 = 0 then .int .i64 (g (x / 9)) else .int .i32 (ig (rows.getD (x % 9 - 1) []) (x / 9))
def woA (g : Nat → Int) (rows : List (List Int)) : Array Value := ((List.range 72).map (woX g rows)).toArray
theorem woA_size (g : Nat → Int) (rows : List (List Int)) : (woA g rows).size = 72 := by simp [woA]
theorem woA_get (g : Nat → Int) (rows : List (List Int)) {x : Nat} (h : x < 72) : (woA g rows)[x]? = some (woX g rows x) := by simp [woA, h]
theorem woA_zero : woA (fun _ => 0) [] = ((List.range 72).map fun x => if x % 9 = 0 then Value.int .i64 0 else .int .i32 0).toArray := by
  unfold woA
  congr 1
theorem woA_congr {g g' : Nat → Int} {rows rows' : List (List Int)} (h : ∀ x, x < 72 → woX g rows x = woX g' rows' x) : woA g rows = woA g' rows' := by
  unfold woA
  congr 1
  exact List.map_congr_left (fun x hx => h x (List.mem_range.1 hx))
theorem woA_start (g : Nat → Int) (rows : List (List Int)) (R : List Int) : woA g (rows ++ [R.take 0]) = woA g rows := by
  refine woA_congr fun x hx => ?_
  unfold woX
  split
  · rfl
  · rcases Nat.lt_trichotomy (x % 9 - 1) rows.length with h | h | h
    · simp [List.getD, List.getElem?_append_left h]
    · simp [List.getD, h]
    · simp [List.getD, List.getElem?_append_right (Nat.le_of_lt h), List.getElem?_eq_none (Nat.le_of_lt h)]
      obtain ⟨y, hy⟩ : ∃ y, x % 9 - 1 - rows.length = y + 1 := ⟨x % 9 - 1 - rows.length - 1, by omega⟩
      simp [hy]
theorem woA_set {g : Nat → Int} {A : Array Value} {rows rows' : List (List Int)} {i : Nat} {v : Value} (hi : i < 72) (hv : woX g rows' i = v) (h : ∀ x, x < 72 → x ≠ i → woX g rows' x = woX g rows x) : (woA g rows).setIfInBounds i v = woA g rows' := by
  apply Array.ext
  · simp [woA]
  · intro x h1 h2
    have hx : x < 72 := by simpa [woA] using h2
    rw [Array.getElem_setIfInBounds]
    · split
      · next e => subst e; simp [woA, hv]
      · next e => simp [woA, h x hx (fun q => e q.symm)]
    · simpa [woA] using hx
theorem woA_step {g : Nat → Int} {rows : List (List Int)} {R : List Int} {q : Nat} (hr : rows.length < 8) (hq : q < 8) (hR : R.length = 8) :
    (woA g (rows ++ [R.take q])).setIfInBounds (q * 9 + 1 + rows.length) (.int .i32 (ig R q)) = woA g (rows ++ [R.take (q + 1)]) := by
  refine woA_set (A := #[]) (by omega) ?_ fun x hx hne => ?_
  · unfold woX
    rw [if_neg (by omega), show (q * 9 + 1 + rows.length) % 9 - 1 = rows.length by omega, show (q * 9 + 1 + rows.length) / 9 = q by omega]
    simp [List.getD, ig, List.getElem?_take]
  · unfold woX
    split
    · rfl
    · rcases Nat.lt_trichotomy (x % 9 - 1) rows.length with h | h | h
      · simp [List.getD, List.getElem?_append_left h]
      · have hxq : x / 9 ≠ q := by omega
        simp only [List.getD, h, List.getElem?_append_right (Nat.le_refl _), Nat.sub_self, List.getElem?_cons_zero, Option.getD_some, ig, List.getElem?_take]
        rcases Nat.lt_or_gt_of_ne hxq with hlt | hgt
        · rw [if_pos (by omega), if_pos hlt]
        · rw [if_neg (by omega), if_neg (by omega)]
      · simp [List.getD, List.getElem?_append_right (Nat.le_of_lt h)]
        obtain ⟨y, hy⟩ : ∃ y, x % 9 - 1 - rows.length = y + 1 := ⟨x % 9 - 1 - rows.length - 1, by omega⟩
        simp [hy]
theorem woA_full (g : Nat → Int) (rows : List (List Int)) {R : List Int} (hR : R.length = 8) : woA g (rows ++ [R.take 8]) = woA g (rows ++ [R]) := by rw [List.take_of_length_le (by omega)]
/-- the levels of the first q nodes -/
def lvQ (lv : Int) (q x : Nat) : Int := if x < q then lv else 0
theorem woA_level {lv : Int} {rows : List (List Int)} {q : Nat} (hq : q < 8) : (woA (lvQ lv q) rows).setIfInBounds (q * 9) (.int .i64 lv) = woA (lvQ lv (q + 1)) rows := by
  apply Array.ext
  · simp [woA]
  · intro x h1 h2
    have hx : x < 72 := by simpa [woA] using h2
    rw [Array.getElem_setIfInBounds]
    · split
      · next e =>
        subst e
        simp [woA, woX, lvQ]
      · next e =>
        simp only [woA, List.getElem_toArray, List.getElem_map, List.getElem_range, woX]
        split
        · next h9 =>
          have : x / 9 ≠ q := by omega
          unfold lvQ
          by_cases h3 : x / 9 < q
          · rw [if_pos h3, if_pos (by omega)]
          · rw [if_neg h3, if_neg (by omega)]
        · rfl
    · simpa [woA] using hx
/-- a column, read as a node -/
theorem woA_col {g : Nat → Int} {rows : List (List Int)} {q : Nat} {lv : Int} (hq : q < 8) (hg : g q = lv) (hr : rows.length ≤ 8) {i : Nat} (hi : i < 9) : (woA g rows)[q * 9 + i]? = (nodC (colN lv rows q))[i]? := by
  rw [woA_get _ _ (by omega)]
  cases i with
  | zero => simp [woX, nodC, colN, hg]
  | succ k =>
    unfold woX
    rw [if_neg (by omega), show (q * 9 + (k + 1)) % 9 - 1 = k by omega, show (q * 9 + (k + 1)) / 9 = q by omega]
    simp only [nodC, colN, List.getElem?_cons_succ, List.map_append, List.map_map, List.map_replicate]
    by_cases hk : k < rows.length
    · rw [List.getElem?_append_left (by simpa using hk)]
      simp [List.getD, hk]
    · rw [List.getElem?_append_right (by simpa using hk)]
      simp only [List.length_map, List.getD, List.getElem?_eq_none (Nat.le_of_not_lt hk), Option.getD_none]
      rw [List.getElem?_replicate, if_pos (by omega)]
      simp [ig]
theorem colN_len {lv : Int} {rows : List (List Int)} {q : Nat} (h : rows.length ≤ 8) : (colN lv rows q).r.length = 8 := by simp [colN]; omega
theorem rows_R8 {rows : List (List Int)} {lv : Int} {q : Nat} (h8 : rows.length ≤ 8) (hq : q < 8) (h : ∀ R ∈ rows, R8 R) : R8 (colN lv rows q).r := by
  refine ⟨colN_len h8, fun x hx => ?_⟩
  rcases List.mem_append.1 hx with hx | hx
  · obtain ⟨R, hR, rfl⟩ := List.mem_map.1 hx
    exact (h R hR).2 _ (ig_mem (by rw [(h R hR).1]; exact hq))
  · have := List.eq_of_mem_replicate hx
    omega
section
variable {sn fb kb : Nat} {w w' : World} {G : Nat → Prop} {s : List Ndv × Mem}
theorem Exs.forest (h : Exs sn fb kb w G s) : ∃ H, Fo w fb H (sn : Int) s.1 ∧ ∀ w' H' L', Fo w' fb H' (sn : Int) L' → Fr H w H' w' → Exs sn fb kb w' (fun k => G k ∨ H' k) (L', s.2) ∧ Fr G w (fun k => G k ∨ H' k) w' := by
  obtain ⟨H, hf, hHG, hm, hG1, hG2, hR⟩ := h
  refine ⟨H, hf, fun w' H' L' hf' hF => ⟨⟨H', hf', fun k hk => ⟨.inr hk, ?_⟩, hF.map hm (fun hk => (hHG _ hk).2 rfl), .inl hG1, fun k hk => ?_, hR⟩, hF.weak (fun k hk => (hHG k hk).1) (fun k hk => hk.elim .inl (fun hk => ?_))⟩⟩
  · rcases hF.new k hk with h | h
    · exact (hHG k h).2
    · have := hG2 _ hG1; omega
  · rcases hk with hk | hk
    · exact Nat.lt_of_lt_of_le (hG2 k hk) hF.size
    · exact hf'.st2.2.2.2.2.2.2.1 k hk
  · rcases hF.new k hk with h | h
    · exact .inl (hHG k h).1
    · exact .inr h
theorem Exs.memo {n : Int} {R : List Int} (h : Exs sn fb kb w G s) (hn : I32 n) (hR : R8 R) : ∃ w', (Instr.mapUpdate 82 (.map (some kb)) (.int .i32 n) (rowV R)).run Tryd.prog w = .ok () w' ∧ Exs sn fb kb w' G (s.1, (n, R) :: s.2) ∧ Fr G w G w' ∧ w'.heap.size = w.heap.size ∧ (∀ k, k ≠ kb → w'.heap[k]? = w.heap[k]?) := by
  obtain ⟨H, hf, hHG, hm, hG1, hG2, hRR⟩ := h
  obtain ⟨w', hr, hm', hs, hF⟩ := hm.store (t := 82) Tryd.keyI32 Tryd.underlying82 R (key_i32 hn.1 hn.2) (fun y _ _ e => i32V_inj e)
  refine ⟨w', hr, ⟨H, hf.keep hF (fun k hk e => (hHG k hk).2 e), hHG, ?_, hG1, fun k hk => by rw [hs]; exact hG2 k hk, ?_⟩, hF.weak (fun k e => e ▸ hG1) (fun k h => .inl h), hs, fun k hk => ?_⟩
  · have : (fun y => List.lookup y ((n, R) :: s.2)) = (fun y => if y = n then some R else s.2.lookup y) := by
      funext y
      by_cases e : y = n <;> simp [List.lookup, e]
      · have : (y == n) = false := by simp [e]
        rw [this]
    show MapOf _ _ _ _ _ _ (fun y => List.lookup y ((n, R) :: s.2))
    rw [this]
    exact hm'
  · intro y Q hy
    simp only [List.lookup] at hy
    split at hy
    · injection hy with hy; subst hy; exact hR
    · exact hRR y Q hy
  · rcases Nat.lt_or_ge k w.heap.size with h | h
    · exact hF.block k h hk
    · rw [Array.getElem?_eq_none (by omega), Array.getElem?_eq_none h]
end
/-- an element of a row by value -/
theorem run_row {R : List Int} (hR : R.length = 8) (w : World) (q : Nat) (h : q < 8) : (Instr.index 85 (rowV R) (.int .i64 (q : Int))).run Tryd.prog w = .ok (.int .i32 (ig R q)) w := by
  obtain ⟨i0, hi, hz0, hz1, hz2⟩ := info_parts Tryd.info_i32
  have ha := run_isAgg_plain (P := Tryd.prog) Tryd.underlying21 rfl
  have hc : Tryd.prog.cellsOf 21 = 1 := by simp [Program.cellsOf, hi, hz1]
  have hv : (R.map fun x => Value.int .i32 x).toArray[q]? = some (.int .i32 (ig R q)) := row_get (by omega)
  have h2 : (q : Int) < 8 := by omega
  simp [Instr.index, run_underlying Tryd.underlying85, asIntOf, go_sem, run_sizeOf w hi, hz1, part, ha, hc, h2, rowV]
  have hv2 : R[q]? = some (ig R q) := by simpa using hv
  simp [hv2, h, Result.andThen]
end Go.Proofs.YthgnjjpkmikokaaDoor
namespace Go.Proofs.YthgnjjpkmikokaaDoor
open Go.RowKit

theorem Fr.new_block {G G' X X' : Nat → Prop} {w w' w'' : World} (h : Fr G w G' w') (k : Fr X w' X' w'') (hX : ∀ i, X i → w.heap.size ≤ i) : Fr G w G' w'' :=
  ⟨k.os.trans h.os, k.tape.trans h.tape, k.output.trans h.output, Nat.le_trans h.size k.size, fun i hi hG => (k.block i (Nat.lt_of_lt_of_le hi h.size) (fun hx => by have := hX i hx; omega)).trans (h.block i hi hG), h.new⟩
theorem set8_fr (w : World) (g : Nat) (b0 b1 b2 b3 b4 b5 b6 b7 : Value) : Fr (fun k => k = g) w (fun k => k = g) ((((((((w.setCell ⟨g, 0, none⟩ b0).setCell ⟨g, 1, none⟩ b1).setCell ⟨g, 2, none⟩ b2).setCell ⟨g, 3, none⟩ b3).setCell ⟨g, 4, none⟩ b4).setCell ⟨g, 5, none⟩ b5).setCell ⟨g, 6, none⟩ b6).setCell ⟨g, 7, none⟩ b7) :=
  (((((((Fr.set_ w (p := ⟨g, 0, none⟩) b0 (by rfl)).trans (Fr.set_ _ (p := ⟨g, 1, none⟩) b1 (by rfl))).trans (Fr.set_ _ (p := ⟨g, 2, none⟩) b2 (by rfl))).trans (Fr.set_ _ (p := ⟨g, 3, none⟩) b3 (by rfl))).trans (Fr.set_ _ (p := ⟨g, 4, none⟩) b4 (by rfl))).trans (Fr.set_ _ (p := ⟨g, 5, none⟩) b5 (by rfl))).trans (Fr.set_ _ (p := ⟨g, 6, none⟩) b6 (by rfl))).trans (Fr.set_ _ (p := ⟨g, 7, none⟩) b7 (by rfl))
theorem HKQ9lv {w : World} {g : Nat} {t : TypeId} {a b c d e f x y z : Value} (h : Blk w g t #[a, b, c, d, e, f, x, y, z]) : w.cell? ⟨g, 0, none⟩ = some a := by rw [h.cell]; rfl
theorem zero_wo : Tryd.zeroCells119 = woA (fun _ => 0) [] := by kernel_rfl
set_option maxRecDepth 100000 in
set_option maxHeartbeats 8000000 in
theorem exam_new {sn fb kb f : Nat} {w : World} {G : Nat → Prop} {s s1 : List Ndv × Mem} {n p : Int} {nd : Ndv} {rows : List (List Int)} {res : List Int} {L2 : List Ndv} (hs1 : 2 ≤ sn) (hs2 : sn ≤ 8)
    (IH : ∀ (n : Int) (s s' : List Ndv × Mem) (r : List Int) (w : World) (G : Nat → Prop), I32 n → examF sn p f n s = some (r, s') → Exs sn fb kb w G s →
      Calls Tryd.prog 58 #[.pointer (some ⟨fb, 0, none⟩), .int .i32 n, .int .i64 p, .map (some kb)] w fun e w' => ExOut sn fb kb w G r s' e w')
    (hn : I32 n) (h : Exs sn fb kb w G s) (hk : nodeF (sn : Int) s.1 n = some nd) (hp : nd.lv ≠ p) (hR : s.2.lookup n = none) (hr : rowF (examF sn p f) (nd.r.take sn) s = some (rows, s1))
    (ha : rowF (fun (j : Nat) L => addF (sn : Int) L (colN nd.lv rows j)) (List.range sn) s1.1 = some (res, L2)) :
    Calls Tryd.prog 58 #[.pointer (some ⟨fb, 0, none⟩), .int .i32 n, .int .i64 p, .map (some kb)] w fun e w' => ExOut sn fb kb w G (res ++ List.replicate (8 - sn) 0) (L2, (n, res ++ List.replicate (8 - sn) 0) :: s1.2) e w' := by
  obtain ⟨H, hf, hHG, hm, hG1, hG2, hRR⟩ := id h
  have hN8 := hf.st2.2.2.2.2.1 nd (nodeF_mem hk)
  have hfb := hf.st2.2.2.2.2.2.1
  have C := Lib.hid (node_any (hf.below ((Below.refl w.heap.size w).alloc (Nat.le_refl _) (.cells #[.int .i32 0, .int .i32 0, .int .i32 0, .int .i32 0, .int .i32 0, .int .i32 0, .int .i32 0, .int .i32 0] 85))) hk)
  have B1 := Lib.hid ((Below.refl w.heap.size w).alloc (Nat.le_refl _) (.cells #[.int .i32 0, .int .i32 0, .int .i32 0, .int .i32 0, .int .i32 0, .int .i32 0, .int .i32 0, .int .i32 0] 85))
  have K1 := Lib.hid (Blk.new w 85 #[.int .i32 0, .int .i32 0, .int .i32 0, .int .i32 0, .int .i32 0, .int .i32 0, .int .i32 0, .int .i32 0])
  have HH := Lib.hid h
  have HM := Lib.hid hm
  have HN := Lib.hid hn
  have HRR := Lib.hid hR
  have HF := Lib.hid hf
  have HR := Lib.hid hr
  have HA := Lib.hid ha
  have IHH := Lib.hid IH
  have HG2 := Lib.hid hG2
  obtain ⟨lv, rr⟩ := nd
  have HN8 := Lib.hid hN8
  have hnR := hN8.2.2
  simp only at hnR
  obtain ⟨v1, v2, v3, v4, v5, v6, v7, v8, rfl⟩ := oct hnR.1
  simp only at hp
  have hd : (lv == p) = false := by simpa using hp
  rw [nodV_eight] at C
  have hfl : fb < w.heap.size := hf.st2.2.1
  clear h hf hm hk hHG hR hRR hnR hn hN8 hr ha IH hG1 hfb hG2
  go_enter Tryd.func58, Tryd.ntmps58
  go_wp2_with (go_at_call 65; (with_reducible refine (C.out).mono ?_); rintro e w2 ⟨rfl, hb2⟩; have B2 := Lib.hid (B1.out.trans (hb2.mono B1.out.size)); have K2 := Lib.hid (K1.out.below hb2 K1.out.lt); have BA := B2.out.alloc B2.out.size (.cells #[.int .i64 lv, .int .i32 v1, .int .i32 v2, .int .i32 v3, .int .i32 v4, .int .i32 v5, .int .i32 v6, .int .i32 v7, .int .i32 v8] 90); have lk := mem_look (HM.out.of_block (BA.block _ HM.out.lt)) HN.out; rw [HRR.out] at lk; simp only [rowV_eight] at lk; have F3 := HF.out.below (BA.alloc BA.size (.cells #[.int .i32 0, .int .i32 0, .int .i32 0, .int .i32 0, .int .i32 0, .int .i32 0, .int .i32 0, .int .i32 0] 85)); have BB := (BA.alloc BA.size (.cells #[.int .i32 0, .int .i32 0, .int .i32 0, .int .i32 0, .int .i32 0, .int .i32 0, .int .i32 0, .int .i32 0] 85)); have f30 := (F3.below ((Below.refl _ _).alloc (Nat.le_refl _) (.cells Tryd.zeroCells119 119))).st2.1; have F3H := Lib.hid F3; clear BA F3 BB)
  have sz2 : w.heap.size < w2.heap.size := by have := B2.out.size; have := K2.out.lt; omega
  have EX3 := Lib.hid (HH.out.below (((B2.out.alloc B2.out.size (.cells #[.int .i64 lv, .int .i32 v1, .int .i32 v2, .int .i32 v3, .int .i32 v4, .int .i32 v5, .int .i32 v6, .int .i32 v7, .int .i32 v8] 90)).alloc (by simp; omega) (.cells #[.int .i32 0, .int .i32 0, .int .i32 0, .int .i32 0, .int .i32 0, .int .i32 0, .int .i32 0, .int .i32 0] 85)).alloc (by simp; omega) (.cells Tryd.zeroCells119 119)))
  have FR3 := Lib.hid (Fr.of_below (G := G) (((B2.out.alloc B2.out.size (.cells #[.int .i64 lv, .int .i32 v1, .int .i32 v2, .int .i32 v3, .int .i32 v4, .int .i32 v5, .int .i32 v6, .int .i32 v7, .int .i32 v8] 90)).alloc (by simp; omega) (.cells #[.int .i32 0, .int .i32 0, .int .i32 0, .int .i32 0, .int .i32 0, .int .i32 0, .int .i32 0, .int .i32 0] 85)).alloc (by simp; omega) (.cells Tryd.zeroCells119 119)))
  have KR3 := Lib.hid (((K2.out.alloc (.cells #[.int .i64 lv, .int .i32 v1, .int .i32 v2, .int .i32 v3, .int .i32 v4, .int .i32 v5, .int .i32 v6, .int .i32 v7, .int .i32 v8] 90)).alloc (.cells #[.int .i32 0, .int .i32 0, .int .i32 0, .int .i32 0, .int .i32 0, .int .i32 0, .int .i32 0, .int .i32 0] 85)).alloc (.cells Tryd.zeroCells119 119))
  have K93 := Lib.hid (((Blk.new w2 90 #[.int .i64 lv, .int .i32 v1, .int .i32 v2, .int .i32 v3, .int .i32 v4, .int .i32 v5, .int .i32 v6, .int .i32 v7, .int .i32 v8]).alloc (.cells #[.int .i32 0, .int .i32 0, .int .i32 0, .int .i32 0, .int .i32 0, .int .i32 0, .int .i32 0, .int .i32 0] 85)).alloc (.cells Tryd.zeroCells119 119))
  have K123 := Blk.new ((w2.alloc (.cells #[.int .i64 lv, .int .i32 v1, .int .i32 v2, .int .i32 v3, .int .i32 v4, .int .i32 v5, .int .i32 v6, .int .i32 v7, .int .i32 v8] 90)).alloc (.cells #[.int .i32 0, .int .i32 0, .int .i32 0, .int .i32 0, .int .i32 0, .int .i32 0, .int .i32 0, .int .i32 0] 85)) 119 Tryd.zeroCells119
  simp only [World.size_alloc] at K123
  rw [zero_wo] at K123
  have K123 := Lib.hid K123
  rw [← zero_wo] at K123
  clear f30
  obtain ⟨w3, hw3⟩ : ∃ w3, w3 = ((w2.alloc (.cells #[.int .i64 lv, .int .i32 v1, .int .i32 v2, .int .i32 v3, .int .i32 v4, .int .i32 v5, .int .i32 v6, .int .i32 v7, .int .i32 v8] 90)).alloc (.cells #[.int .i32 0, .int .i32 0, .int .i32 0, .int .i32 0, .int .i32 0, .int .i32 0, .int .i32 0, .int .i32 0] 85)).alloc (.cells Tryd.zeroCells119 119) := ⟨_, rfl⟩
  rw [← hw3] at EX3 FR3 KR3 K93 K123 ⊢
  clear hw3 lk F3H K2
  rw [zero_wo] at K123
  generalize hb12 : w2.heap.size + 1 + 1 = b12 at K123 ⊢
  generalize hb9 : w2.heap.size = b9 at K93 sz2 hb12 ⊢
  have hb12' : b9 < b12 := by omega
  clear hb12 hb9
  go_loopw [39] (fun jv wr => ∃ (j : Nat) (rj : List (List Int)) (sj : List Ndv × Mem) (Gj : Nat → Prop), j ≤ sn ∧ jv = .int .i64 (j : Int) ∧ rj.length = j ∧ (∀ R ∈ rj, R8 R) ∧ rowF (examF sn p f) ((([v1, v2, v3, v4, v5, v6, v7, v8] : List Int).take sn).take j) s = some (rj, sj) ∧
    Exs sn fb kb wr Gj sj ∧ Fr G w Gj wr ∧ ¬ Gj w.heap.size ∧ ¬ Gj b9 ∧ ¬ Gj b12 ∧ Blk wr w.heap.size 85 #[.int .i32 0, .int .i32 0, .int .i32 0, .int .i32 0, .int .i32 0, .int .i32 0, .int .i32 0, .int .i32 0] ∧ Blk wr b9 90 #[.int .i64 lv, .int .i32 v1, .int .i32 v2, .int .i32 v3, .int .i32 v4, .int .i32 v5, .int .i32 v6, .int .i32 v7, .int .i32 v8] ∧ Blk wr b12 119 (woA (fun _ => 0) rj)) (fun jv _ => sn - (intOf jv).toNat)
  case atStart =>
    have hno : ∀ k, w.heap.size ≤ k → ¬ G k := fun k hk hG => by have := HG2.out k hG; omega
    exact ⟨0, [], s, G, Nat.zero_le _, rfl, rfl, by simp, rfl, EX3.out, FR3.out, hno _ (Nat.le_refl _), hno _ (by omega), hno _ (by omega), KR3.out, K93.out, K123.out⟩
  case round =>
    obtain ⟨j, rj, sj, Gj, hj, rfl, hrl, hr8, hrow, hex, hfr, hn0, hn9, hn12, hkr, hk9, hk12⟩ := hrel
    obtain ⟨wo, rfl⟩ : ∃ wo, wo = wr := ⟨wr, rfl⟩
    have HROW := Lib.hid hrow
    have HEX := Lib.hid hex
    have HFR := Lib.hid hfr
    have HN0 := Lib.hid hn0
    have HN9 := Lib.hid hn9
    have HN12 := Lib.hid hn12
    have HKR := Lib.hid hkr
    have HK9 := Lib.hid hk9
    have HK12 := Lib.hid hk12
    have HRL := Lib.hid hrl
    have HR8J := Lib.hid hr8
    have l0 : w.heap.size < wo.heap.size := hkr.lt
    have l9 : b9 < wo.heap.size := hk9.lt
    have l12 : b12 < wo.heap.size := hk12.lt
    clear hrow hex hfr hn0 hn9 hn12 hkr hk9 hk12 hrl hr8
    by_cases hjn : j < sn
    · have d1 : decide ((j : Int) < (sn : Int)) = true := by rw [decide_eq_true_iff]; omega
      have j0 : (0 : Int) ≤ (j : Int) := by omega
      have j1 : (j : Int) < 8 := by omega
      have hj8 : j < 8 := by omega
      obtain ⟨R, zs', t1, t2, q1, q2, q3⟩ := rowF_take HR.out (j := j) (by simp; omega)
      have hqq := HROW.out.symm.trans q1
      simp only [Option.some.injEq, Prod.mk.injEq] at hqq
      obtain ⟨rfl, rfl⟩ := hqq
      rw [ig_take hjn] at q2
      have hx : I32 (ig ([v1, v2, v3, v4, v5, v6, v7, v8] : List Int) j) := HN8.out.2.2.2 _ (ig_mem (by simpa using hj8))
      have ko : wo.cell? ⟨b9, 1 + j, none⟩ = some (.int .i32 (ig ([v1, v2, v3, v4, v5, v6, v7, v8] : List Int) j)) := by
        have h1 := HK9.out.cell (1 + j)
        rw [h1]
        have := row_get (l := [v1, v2, v3, v4, v5, v6, v7, v8]) (j := j) (by simpa using hj8)
        rw [← this, Nat.add_comm]
        simp
      have CC := Lib.hid (IHH.out _ _ _ _ _ _ hx q2 HEX.out)
      have Q3 := Lib.hid q3
      generalize ig ([v1, v2, v3, v4, v5, v6, v7, v8] : List Int) j = x at CC ko
      clear q1 q2 q3 hx
      go_wp2_with (go_at_call 58; (with_reducible refine (CC.out).mono ?_); rintro e w4 ⟨G4, rfl, hR8, hE4, hF4⟩; have HR4 := Lib.hid hR8; have E4 := Lib.hid hE4; have F4 := Lib.hid hF4; have KR4 := Lib.hid (hF4.blk HKR.out HN0.out); have K94 := Lib.hid (hF4.blk HK9.out HN9.out); have K124 := Lib.hid (hF4.blk HK12.out HN12.out); clear hR8 hE4 hF4)
      have RR := fun w q h => run_row HR4.out.1 w q h
      have hz9 : b12 < w4.heap.size := K124.out.lt
      go_loopw [50] (fun qv wr => ∃ (q : Nat), q ≤ 8 ∧ qv = .int .i64 (q : Int) ∧ Blk wr b12 119 (woA (fun _ => 0) (rj ++ [R.take q])) ∧ Fr (fun k => k = b12) w4 (fun k => k = b12) wr) (fun qv _ => 8 - (intOf qv).toNat)
      case atStart => exact ⟨0, by omega, rfl, by rw [woA_start]; exact K124.out, Fr.refl _ _⟩
      case round =>
        obtain ⟨q, hq, rfl, hkb, hfb⟩ := hrel
        have HKB := Lib.hid hkb
        have HFB := Lib.hid hfb
        clear hkb hfb
        by_cases hq8 : q < 8
        · have d2 : decide ((q : Int) < 8) = true := by rw [decide_eq_true_iff]; omega
          have q0 : (0 : Int) ≤ (q : Int) := by omega
          have q1 : (q : Int) < 8 := by omega
          have rq := RR wr q hq8
          have hz := (HKB.out.cell (q * 9 + 1 + j)).trans (woA_get _ _ (by omega))
          have hzf := HKB.out.frozen (q * 9 + 1 + j)
          generalize woX (fun _ => 0) (rj ++ [R.take q]) (q * 9 + 1 + j) = zz at hz
          go_wp2
          have Z1 := HKB.out.set_ (q * 9 + 1 + j) (.int .i32 (ig R q))
          have hl := HRL.out
          rw [← hl, woA_step (by omega) hq8 HR4.out.1] at Z1
          rw [hl] at Z1
          exact ⟨⟨q + 1, by omega, by go_num, Z1, HFB.out.trans (Fr.set_ (G := fun k => k = b12) wr (p := ⟨b12, q * 9 + 1 + j, none⟩) _ rfl)⟩, by simp [intOf]; omega⟩
        · obtain rfl : q = 8 := by omega
          have hkb := HKB.out
          rw [woA_full _ _ HR4.out.1] at hkb
          have HKB2 := Lib.hid hkb
          clear hkb RR
          go_wp2
          have n40 : ¬ G4 w.heap.size := fun h => (F4.out.new _ h).elim HN0.out (fun h => by omega)
          have n49 : ¬ G4 b9 := fun h => (F4.out.new _ h).elim HN9.out (fun h => by omega)
          have n412 : ¬ G4 b12 := fun h => (F4.out.new _ h).elim HN12.out (fun h => by omega)
          have hl := HRL.out
          exact ⟨⟨j + 1, rj ++ [R], t2, G4, by omega, by go_num, by simp [hl], fun Q hQ => by
            rcases List.mem_append.1 hQ with h | h
            · exact HR8J.out Q h
            · simp at h; subst h; exact HR4.out, Q3.out, E4.out.keep HFB.out (fun k hk e => n412 (e ▸ hk)), (HFR.out.trans F4.out).new_block HFB.out (fun k e => by omega), n40, n49, n412, HFB.out.blk KR4.out (by omega), HFB.out.blk K94.out (by omega), HKB2.out⟩, by simp [intOf]; omega⟩
    · obtain rfl : j = sn := by omega
      have d1 : decide ((j : Int) < (j : Int)) = false := by rw [decide_eq_false_iff_not]; omega
      have hl8 : (([v1, v2, v3, v4, v5, v6, v7, v8] : List Int).take j).length = j := by simp; omega
      have hrow := HROW.out
      rw [List.take_of_length_le (by omega)] at hrow
      have hqq := HR.out.symm.trans hrow
      simp only [Option.some.injEq, Prod.mk.injEq] at hqq
      obtain ⟨rfl, rfl⟩ := hqq
      clear hrow hl8
      obtain ⟨HX, hfx, _⟩ := HEX.out.forest
      have fst := (hfx.below ((Below.refl wo.heap.size wo).alloc (Nat.le_refl _) (.cells #[.int .i32 0, .int .i32 0, .int .i32 0, .int .i32 0, .int .i32 0, .int .i32 0, .int .i32 0, .int .i32 0] 85))).st2.1
      have K16 := Lib.hid (Blk.new wo 85 #[.int .i32 0, .int .i32 0, .int .i32 0, .int .i32 0, .int .i32 0, .int .i32 0, .int .i32 0, .int .i32 0])
      have EXA := Lib.hid (HEX.out.below ((Below.refl wo.heap.size wo).alloc (Nat.le_refl _) (.cells #[.int .i32 0, .int .i32 0, .int .i32 0, .int .i32 0, .int .i32 0, .int .i32 0, .int .i32 0, .int .i32 0] 85)))
      have FRA := Lib.hid (HFR.out.trans (Fr.alloc Gj wo (.cells #[.int .i32 0, .int .i32 0, .int .i32 0, .int .i32 0, .int .i32 0, .int .i32 0, .int .i32 0, .int .i32 0] 85)))
      have KRA := Lib.hid (HKR.out.alloc (.cells #[.int .i32 0, .int .i32 0, .int .i32 0, .int .i32 0, .int .i32 0, .int .i32 0, .int .i32 0, .int .i32 0] 85))
      have K9A := Lib.hid (HK9.out.alloc (.cells #[.int .i32 0, .int .i32 0, .int .i32 0, .int .i32 0, .int .i32 0, .int .i32 0, .int .i32 0, .int .i32 0] 85))
      have K12A := Lib.hid (HK12.out.alloc (.cells #[.int .i32 0, .int .i32 0, .int .i32 0, .int .i32 0, .int .i32 0, .int .i32 0, .int .i32 0, .int .i32 0] 85))
      have hGl : ¬ Gj wo.heap.size := fun h => by have := HEX.out.lt _ h; omega
      clear hfx
      go_wp2
      obtain ⟨wa, hwa⟩ : ∃ wa, wa = wo.alloc (.cells #[.int .i32 0, .int .i32 0, .int .i32 0, .int .i32 0, .int .i32 0, .int .i32 0, .int .i32 0, .int .i32 0] 85) := ⟨_, rfl⟩
      rw [← hwa] at K16 EXA FRA KRA K9A K12A ⊢
      generalize hb16 : wo.heap.size = b16 at K16 l0 l9 l12 hGl ⊢
      clear fst hb16
      go_loopw [66] (fun qv wr => ∃ (q : Nat) (rq : List Int) (Lq : List Ndv) (Gq : Nat → Prop), q ≤ j ∧ qv = .int .i64 (q : Int) ∧ rq.length = q ∧ (∀ x ∈ rq, I32 x) ∧ rowF (fun (i : Nat) L => addF (j : Int) L (colN lv rows i)) ((List.range j).take q) s1.1 = some (rq, Lq) ∧
        Exs j fb kb wr Gq (Lq, s1.2) ∧ Fr G w Gq wr ∧ ¬ Gq w.heap.size ∧ ¬ Gq b9 ∧ ¬ Gq b12 ∧ ¬ Gq b16 ∧ Blk wr w.heap.size 85 #[.int .i32 0, .int .i32 0, .int .i32 0, .int .i32 0, .int .i32 0, .int .i32 0, .int .i32 0, .int .i32 0] ∧ Blk wr b9 90 #[.int .i64 lv, .int .i32 v1, .int .i32 v2, .int .i32 v3, .int .i32 v4, .int .i32 v5, .int .i32 v6, .int .i32 v7, .int .i32 v8] ∧ Blk wr b12 119 (woA (lvQ lv q) rows) ∧ Blk wr b16 85 (r32 (rq ++ List.replicate (8 - rq.length) 0))) (fun qv _ => j - (intOf qv).toNat)
      case atStart =>
        refine ⟨0, [], s1.1, Gj, Nat.zero_le _, rfl, rfl, by simp, rfl, EXA.out, FRA.out, HN0.out, HN9.out, HN12.out, hGl, KRA.out, K9A.out, ?_, K16.out⟩
        have : woA (lvQ lv 0) rows = woA (fun _ => 0) rows := woA_congr fun x _ => by simp [woX, lvQ]
        rw [this]
        exact K12A.out
      case round =>
        obtain ⟨q, rq, Lq, Gq, hq, rfl, hql, hqI, hqr, hqe, hqf, m0, m9, m12, m16, kq0, kq9, kq12, kq16⟩ := hrel
        obtain ⟨wb, rfl⟩ : ∃ wb, wb = wr := ⟨wr, rfl⟩
        have HQR := Lib.hid hqr
        have HQE := Lib.hid hqe
        have HQF := Lib.hid hqf
        have M0 := Lib.hid m0
        have M9 := Lib.hid m9
        have M12 := Lib.hid m12
        have M16 := Lib.hid m16
        have KQ0 := Lib.hid kq0
        have KQ9 := Lib.hid kq9
        have KQ12 := Lib.hid kq12
        have KQ16 := Lib.hid kq16
        have HQI := Lib.hid hqI
        have HQL := Lib.hid hql
        have e0 : w.heap.size < wb.heap.size := kq0.lt
        have e9 : b9 < wb.heap.size := kq9.lt
        have e12 : b12 < wb.heap.size := kq12.lt
        have e16 : b16 < wb.heap.size := kq16.lt
        clear hqr hqe hqf m0 m9 m12 m16 kq0 kq9 kq12 kq16 hqI hql
        by_cases hqj : q < j
        · have d2 : decide ((q : Int) < (j : Int)) = true := by rw [decide_eq_true_iff]; omega
          have q0 : (0 : Int) ≤ (q : Int) := by omega
          have q1 : (q : Int) < 8 := by omega
          have hq8 : q < 8 := by omega
          obtain ⟨r, zs', L1', L2', p1, p2, p3⟩ := rowF_at HA.out (j := q) (x := q) (by simp [hqj])
          have hqq := HQR.out.symm.trans p1
          simp only [Option.some.injEq, Prod.mk.injEq] at hqq
          obtain ⟨rfl, rfl⟩ := hqq
          have g9 := HKQ9lv KQ9.out
          have h12 := (KQ12.out.cell (q * 9)).trans (woA_get _ _ (by omega))
          have h12f := KQ12.out.frozen (q * 9)
          generalize woX (lvQ lv q) rows (q * 9) = zz at h12
          have KA := KQ12.out.set_ (q * 9) (.int .i64 lv)
          rw [woA_level hq8] at KA
          have EA := HQE.out.keep (Fr.set_ (G := fun k => k = b12) wb (p := ⟨b12, q * 9, none⟩) (.int .i64 lv) rfl) (fun k hk e => M12.out (e ▸ hk))
          have hrl8 : rows.length ≤ 8 := by have := HRL.out; omega
          have hcr : R8 (colN lv rows q).r := rows_R8 hrl8 hq8 HR8J.out
          obtain ⟨y0, y1, y2, y3, y4, y5, y6, y7, hcn⟩ := oct hcr.1
          have hcol : colN lv rows q = ⟨lv, [y0, y1, y2, y3, y4, y5, y6, y7]⟩ := by rw [← hcn]; rfl
          have hnd : Nd8 (colN lv rows q) := ⟨HN8.out.1, HN8.out.2.1, hcr⟩
          have hcel : ∀ i, i < 9 → (wb.setCell ⟨b12, q * 9, none⟩ (.int .i64 lv)).cell? ⟨b12, q * 9 + i, none⟩ = (nodC (colN lv rows q))[i]? := fun i hi => (KA.cell _).trans (woA_col hq8 (by simp [lvQ]) hrl8 hi)
          rw [hcol] at hcel
          have c0 := hcel 0 (by omega)
          have c1 := hcel 1 (by omega)
          have c2 := hcel 2 (by omega)
          have c3 := hcel 3 (by omega)
          have c4 := hcel 4 (by omega)
          have c5 := hcel 5 (by omega)
          have c6 := hcel 6 (by omega)
          have c7 := hcel 7 (by omega)
          have c8 := hcel 8 (by omega)
          rw [Nat.add_zero] at c0
          simp only [nodC, List.map_cons, List.map_nil, List.getElem?_cons_zero, List.getElem?_cons_succ] at c0 c1 c2 c3 c4 c5 c6 c7 c8
          obtain ⟨HX2, hfx2, hXX⟩ := EA.forest
          have CA := add_any hfx2 hnd p2
          rw [hcol, nodV_eight] at CA
          have CAH := Lib.hid CA
          have HXX := Lib.hid hXX
          have rI : I32 r := by
            have := addF_rng p2 (by omega) hfx2.st2.2.2.2.2.2.2.2
            exact ⟨by omega, by omega⟩
          have KQ16b := Lib.hid (KQ16.out.far (p := ⟨b12, q * 9, none⟩) (by show b16 ≠ b12; omega) (.int .i64 lv))
          have KQ0b := Lib.hid (KQ0.out.far (p := ⟨b12, q * 9, none⟩) (by show w.heap.size ≠ b12; omega) (.int .i64 lv))
          have KQ9b := Lib.hid (KQ9.out.far (p := ⟨b12, q * 9, none⟩) (by show b9 ≠ b12; omega) (.int .i64 lv))
          have KAH := Lib.hid KA
          have szA : (wb.setCell ⟨b12, q * 9, none⟩ (.int .i64 lv)).heap.size = wb.heap.size := by simp [World.setCell]
          have FA := Lib.hid (HQF.out.set_new (p := ⟨b12, q * 9, none⟩) (by show w.heap.size ≤ b12; omega) (.int .i64 lv))
          have P3 := Lib.hid p3
          have hG2n : ∀ k, k < wb.heap.size → ¬ Gq k → ∀ G5 : Nat → Prop, (∀ i, (Gq i ∨ G5 i) → Gq i ∨ (wb.setCell ⟨b12, q * 9, none⟩ (.int .i64 lv)).heap.size ≤ i) → ¬ (Gq k ∨ G5 k) := fun k hk hn G5 h5 h => by
            rcases h5 k h with h' | h'
            · exact hn h'
            · rw [szA] at h'; omega
          have NG := Lib.hid hG2n
          clear hcel hfx2 CA p1 p2 p3 hcn hcol hnd hcr KA EA hXX hG2n
          go_wp2_with (go_at_call 59; (with_reducible refine (CAH.out).mono ?_); rintro e w5 ⟨G5, rfl, hf5, hr5⟩; obtain ⟨E5, F5⟩ := HXX.out _ _ _ hf5 hr5; have EH5 := Lib.hid E5; have FH5 := Lib.hid F5; have K165 := Lib.hid (F5.blk KQ16b.out M16.out); have z0 := K165.out.cell q; rw [r32_get (by have := HQL.out; simp; omega)] at z0; have z1 := K165.out.frozen q; clear E5 F5 hf5 hr5)
          have NB := FH5.out.new
          have n50 := NG.out _ e0 M0.out G5 NB
          have n59 := NG.out _ e9 M9.out G5 NB
          have n512 := NG.out _ e12 M12.out G5 NB
          have n516 := NG.out _ e16 M16.out G5 NB
          have hl := HQL.out
          have ZK := K165.out.set_ q (.int .i32 r)
          rw [← hl, r32_step (by omega), hl] at ZK
          exact ⟨⟨q + 1, rq ++ [r], L2', fun k => Gq k ∨ G5 k, by omega, by go_num, by simp [hl], fun x hx => by
            rcases List.mem_append.1 hx with h | h
            · exact HQI.out x h
            · simp at h; subst h; exact rI, P3.out, EH5.out.keep (Fr.set_ (G := fun k => k = b16) w5 (p := ⟨b16, q, none⟩) (.int .i32 r) rfl) (fun k hk e => n516 (e ▸ hk)), (FA.out.trans FH5.out).set_new (p := ⟨b16, q, none⟩) (by show w.heap.size ≤ b16; omega) _, n50, n59, n512, n516,
            (FH5.out.blk KQ0b.out M0.out).far (p := ⟨b16, q, none⟩) (by show w.heap.size ≠ b16; omega) _, (FH5.out.blk KQ9b.out M9.out).far (p := ⟨b16, q, none⟩) (by show b9 ≠ b16; omega) _, (FH5.out.blk KAH.out M12.out).far (p := ⟨b16, q, none⟩) (by show b12 ≠ b16; omega) _, ZK⟩, by simp [intOf]; omega⟩
        · obtain rfl : q = j := by omega
          have d2 : decide ((q : Int) < (q : Int)) = false := by rw [decide_eq_false_iff_not]; omega
          have hqr := HQR.out
          rw [List.take_of_length_le (by simp)] at hqr
          have hqq := HA.out.symm.trans hqr
          simp only [Option.some.injEq, Prod.mk.injEq] at hqq
          obtain ⟨rfl, rfl⟩ := hqq
          have k16 := KQ16.out
          rw [HQL.out] at k16
          have hR8 : R8 (res ++ List.replicate (8 - q) 0) := by
            refine ⟨by have := HQL.out; simp; omega, fun x hx => ?_⟩
            rcases List.mem_append.1 hx with h | h
            · exact HQI.out x h
            · have := List.eq_of_mem_replicate h; omega
          obtain ⟨w6, hr6, E6, F6, s6, b6⟩ := HQE.out.memo HN.out hR8
          obtain ⟨HZ, _, _, _, hkbG, _, _⟩ := id HQE.out
          have ne0 : w.heap.size ≠ kb := fun e => M0.out (e ▸ hkbG)
          have ne16 : b16 ≠ kb := fun e => M16.out (e ▸ hkbG)
          have HE6 := Lib.hid E6
          have HF6 := Lib.hid (HQF.out.trans F6)
          have HRX := Lib.hid hR8
          obtain ⟨R, hRe⟩ : ∃ R, R = res ++ List.replicate (8 - q) 0 := ⟨_, rfl⟩
          rw [← hRe] at hr6 hR8 k16 HE6 HRX
          obtain ⟨z1, z2, z3, z4, z5, z6, z7, z8, rfl⟩ := oct hR8.1
          have HRE := Lib.hid hRe
          clear hRe
          rw [rowV_eight] at hr6
          have k16 : Blk wb b16 85 #[.int .i32 z1, .int .i32 z2, .int .i32 z3, .int .i32 z4, .int .i32 z5, .int .i32 z6, .int .i32 z7, .int .i32 z8] := k16
          obtain ⟨a0, a1, a2, a3, a4, a5, a6, a7⟩ := k16.eight8
          have k16b : Blk w6 b16 85 #[.int .i32 z1, .int .i32 z2, .int .i32 z3, .int .i32 z4, .int .i32 z5, .int .i32 z6, .int .i32 z7, .int .i32 z8] := (b6 _ ne16).trans k16
          obtain ⟨c0, c1, c2, c3, c4, c5, c6, c7⟩ := k16b.eight8
          have K06 : Blk w6 w.heap.size 85 #[.int .i32 0, .int .i32 0, .int .i32 0, .int .i32 0, .int .i32 0, .int .i32 0, .int .i32 0, .int .i32 0] := (b6 _ ne0).trans KQ0.out
          obtain ⟨g0, g1, g2, g3, g4, g5, g6, g7⟩ := K06.eight8
          have q0 := K06.frozen 0
          have q1 := K06.frozen 1
          have q2 := K06.frozen 2
          have q3 := K06.frozen 3
          have q4 := K06.frozen 4
          have q5 := K06.frozen 5
          have q6 := K06.frozen 6
          have q7 := K06.frozen 7
          have KK := Lib.hid K06
          clear hR8 k16 k16b K06 E6 F6 hqr b6 s6
          go_wp2
          obtain ⟨KF, BF⟩ := KK.out.set8 (b0 := .int .i32 z1) (b1 := .int .i32 z2) (b2 := .int .i32 z3) (b3 := .int .i32 z4) (b4 := .int .i32 z5) (b5 := .int .i32 z6) (b6 := .int .i32 z7) (b7 := .int .i32 z8)
          obtain ⟨y0, y1, y2, y3, y4, y5, y6, y7⟩ := KF.eight8
          have FZ := set8_fr w6 w.heap.size (.int .i32 z1) (.int .i32 z2) (.int .i32 z3) (.int .i32 z4) (.int .i32 z5) (.int .i32 z6) (.int .i32 z7) (.int .i32 z8)
          rw [← HRE.out]
          exact bodyPost_ret (v := .agg #[.int .i32 z1, .int .i32 z2, .int .i32 z3, .int .i32 z4, .int .i32 z5, .int .i32 z6, .int .i32 z7, .int .i32 z8]) (by simp [results, Tryd.results58, go_sem, y0, y1, y2, y3, y4, y5, y6, y7]) rfl
            ⟨Gq, rfl, HRX.out, HE6.out.keep FZ (fun k hk e => M0.out (e ▸ hk)), HF6.out.new_block FZ (fun k e => by omega)⟩
end Go.Proofs.YthgnjjpkmikokaaDoor
