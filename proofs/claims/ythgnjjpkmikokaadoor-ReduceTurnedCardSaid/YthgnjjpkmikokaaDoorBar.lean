/- The walks of alike and Equal at trees of one neighbourhood. -/
/- The walk of slices.Clone of nodes. -/
/- The walks of slices.Repeat of one number twice, and of what Fix makes of a node. -/
import Derived.Test.YthgnjjpkmikokaaDoorBap
import Derived.Test.YthgnjjpkmikokaaDoorBag
namespace Go.Proofs.YthgnjjpkmikokaaDoor
open Go.RowKit

set_option maxRecDepth 100000 in
set_option maxHeartbeats 8000000 in
theorem alike_yes {T U : Tr} {sn : Nat} {AH AN AH' AN' : Option Addr} {cH cN cH' cN' : Nat} {w : World} (h : TS w AH AN T) (h' : TS w AH' AN' U) (hn : T.n ≤ 1000000) (hm : U.n ≤ 1000000) (hs : sm T.f T.n U.f U.n = true) :
    Calls Tryd.prog 48 #[.agg #[.int .i64 (sn : Int), .slice AH T.n cH, .slice AN T.m cN], .agg #[.int .i64 (sn : Int), .slice AH' U.n cH', .slice AN' U.m cN']] w fun e w' => e = .returned (.bool true) ∧ Below w.heap.size w w' := by
  have HS := Lib.hid (fun w' (hb : Below w.heap.size w w') => hs ▸ hsame_any AH AH' T.n U.n cH cH' T.f U.f w' (h.1.later hb) (h'.1.later hb) hn hm)
  clear h h' hs hn hm
  go_enter Tryd.func48, Tryd.ntmps48
  have Z1 := Lib.hid ((Below.refl w.heap.size w).alloc (Nat.le_refl _) (.cells #[.int .i64 (sn : Int), .slice AH T.n cH, .slice AN T.m cN] 25))
  have Z2 := Lib.hid (Z1.out.alloc Z1.out.size (.cells #[.int .i64 (sn : Int), .slice AH' U.n cH', .slice AN' U.m cN'] 25))
  have KT := Lib.hid ((Blk.new w 25 #[.int .i64 (sn : Int), .slice AH T.n cH, .slice AN T.m cN]).alloc (.cells #[.int .i64 (sn : Int), .slice AH' U.n cH', .slice AN' U.m cN'] 25))
  have KR := Blk.new (w.alloc (.cells #[.int .i64 (sn : Int), .slice AH T.n cH, .slice AN T.m cN] 25)) 25 #[.int .i64 (sn : Int), .slice AH' U.n cH', .slice AN' U.m cN']
  simp only [World.size_alloc] at KR
  have KR := Lib.hid KR
  obtain ⟨t0, t1, t2, t3⟩ := KT.out.three
  obtain ⟨r0, r1, r2, r3⟩ := KR.out.three
  go_wp2_with (go_at_call 70; (with_reducible refine (HS.out _ Z2.out).mono ?_); rintro e w1 ⟨rfl, hb⟩; have B1 := Lib.hid (Z2.out.trans (hb.mono Z2.out.size)); clear hb)
  all_goals
    go_ret
    exact ⟨rfl, B1.out⟩

set_option maxRecDepth 100000 in
set_option maxHeartbeats 16000000 in
/-- Equal, at two trees with the same number of states and the same offsets -/
theorem teq_any {T U : Tr} {sn : Nat} {AH AN AH' AN' : Option Addr} {cH cN cH' cN' : Nat} {w : World} {nums nums' : List Int} {L L' : List Ndv} (hst : T.st = (sn : Int)) (hsu : U.st = (sn : Int)) (h : TS w AH AN T) (h' : TS w AH' AN' U) (hT : Rt T) (hU : Rt U)
    (hs : sm T.f T.n U.f U.n = true) (hp : plantF (sn : Int) T.lv T.nx T.m [] = some (nums, L)) (hp' : plantF (sn : Int) U.lv U.nx U.m L = some (nums', L')) :
    Calls Tryd.prog 20 #[.agg #[.int .i64 (sn : Int), .slice AH T.n cH, .slice AN T.m cN], .agg #[.int .i64 (sn : Int), .slice AH' U.n cH', .slice AN' U.m cN']] w fun e w' => e = .returned (.bool (decide (ig nums (T.m - 1) = ig nums' (U.m - 1)))) ∧ Below w.heap.size w w' := by
  have s1 := hT.s1
  have s2 := hT.s2
  have n25 := hT.hd.1.2
  have m25 := hU.hd.1.2
  have RI := Lib.hid (fun w' (hb : Below w.heap.size w w') => tright_yes AH cH AN cN T w' (h.later hb) hT)
  have RJ := Lib.hid (fun w' (hb : Below w.heap.size w w') => tright_yes AH' cH' AN' cN' U w' (h'.later hb) hU)
  rw [hst] at RI s1 s2
  rw [hsu] at RJ
  have AL := Lib.hid (fun w' (hb : Below w.heap.size w w') => alike_yes (sn := sn) (cH := cH) (cN := cN) (cH' := cH') (cN' := cN') (h.later hb) (h'.later hb) (by omega) (by omega) hs)
  have NF := Lib.hid (fun w' => newForest_any (sn := sn) (w := w') (by omega) (by omega))
  have HTS := Lib.hid h
  have HUS := Lib.hid h'
  have HTT := Lib.hid hT
  have HUU := Lib.hid hU
  have HST := Lib.hid hst
  have HSU := Lib.hid hsu
  have HP := Lib.hid hp
  have HP' := Lib.hid hp'
  clear h h' hs hp hp' hT hU hst hsu
  go_enter Tryd.func20, Tryd.ntmps20
  have Z1 := Lib.hid ((Below.refl w.heap.size w).alloc (Nat.le_refl _) (.cells #[.int .i64 (sn : Int), .slice AH T.n cH, .slice AN T.m cN] 25))
  have Z2 := Lib.hid (Z1.out.alloc Z1.out.size (.cells #[.int .i64 (sn : Int), .slice AH' U.n cH', .slice AN' U.m cN'] 25))
  have KT := Lib.hid ((Blk.new w 25 #[.int .i64 (sn : Int), .slice AH T.n cH, .slice AN T.m cN]).alloc (.cells #[.int .i64 (sn : Int), .slice AH' U.n cH', .slice AN' U.m cN'] 25))
  have KR := Blk.new (w.alloc (.cells #[.int .i64 (sn : Int), .slice AH T.n cH, .slice AN T.m cN] 25)) 25 #[.int .i64 (sn : Int), .slice AH' U.n cH', .slice AN' U.m cN']
  simp only [World.size_alloc] at KR
  have KR := Lib.hid KR
  obtain ⟨t0, t1, t2, t3⟩ := KT.out.three
  obtain ⟨r0, r1, r2, r3⟩ := KR.out.three
  go_wp2_with (first
    | (go_at_call 21; (with_reducible refine (RI.out _ Z2.out).mono ?_); rintro e w1 ⟨rfl, hb⟩; have B1 := Lib.hid (Z2.out.trans (hb.mono Z2.out.size)); have KT1 := Lib.hid (KT.out.below hb KT.out.lt); have KR1 := Lib.hid (KR.out.below hb KR.out.lt); clear hb; obtain ⟨u0, u1, u2, u3⟩ := KT1.out.three; obtain ⟨v0, v1, v2, v3⟩ := KR1.out.three)
    | (go_at_call 21; (with_reducible refine (RJ.out _ B1.out).mono ?_); rintro e w2 ⟨rfl, hb⟩; have B2 := Lib.hid (B1.out.trans (hb.mono B1.out.size)); have KT2 := Lib.hid (KT1.out.below hb KT1.out.lt); have KR2 := Lib.hid (KR1.out.below hb KR1.out.lt); clear hb; obtain ⟨u0', u1', u2', u3'⟩ := KT2.out.three; obtain ⟨v0', v1', v2', v3'⟩ := KR2.out.three)
    | (go_at_call 48; (with_reducible refine (AL.out _ B2.out).mono ?_); rintro e w3 ⟨rfl, hb⟩; have B3 := Lib.hid (B2.out.trans (hb.mono B2.out.size)); have KT3 := Lib.hid (KT2.out.below hb KT2.out.lt); have KR3 := Lib.hid (KR2.out.below hb KR2.out.lt); clear hb; obtain ⟨p0, p1, p2, p3⟩ := KT3.out.three; obtain ⟨q0, q1, q2, q3⟩ := KR3.out.three)
    | (go_at_call 23; (with_reducible refine (NF.out _).mono ?_); rintro e w4 ⟨fb, G, rfl, hf, hg, hb⟩; have F4 := Lib.hid hf; have G4 := Lib.hid hg; have B4 := Lib.hid ((B3.out.trans (hb.mono B3.out.size)).drew); have KT4 := Lib.hid (KT3.out.below hb KT3.out.lt).drew; have KR4 := Lib.hid (KR3.out.below hb KR3.out.lt).drew; have hr3 := KR3.out.lt; clear hb hf hg))
  have S0 := tri KT4.out
  have S1 := tri KR4.out
  have SZ4 : w.heap.size + 1 + 1 ≤ w4.drew.heap.size := KR4.out.lt
  have hGb : ∀ k, G k → w.heap.size + 1 + 1 ≤ k := fun k hk => by have := G4.out k hk; omega
  have HGB := Lib.hid hGb
  have hk0 : w.heap.size < w.heap.size + 1 + 1 := by omega
  have hk1 : w.heap.size + 1 < w.heap.size + 1 + 1 := by omega
  have hk2 : w.heap.size ≤ w.heap.size + 1 + 1 := by omega
  have PL := Lib.hid (fun w' (hb : Below w.heap.size w w') (hz : w.heap.size + 1 + 1 ≤ w'.heap.size) (hf : Fo w' fb G (sn : Int) []) => by
    have := plant_any (w := w') (AH := AH) (nh := T.n) (ch := cH) (cN := cN) (B := w.heap.size) (HST.out ▸ hf) HTT.out (HTS.out.2.below hb) (by omega) (fun k hk => by have := HGB.out k hk; omega) (HST.out.symm ▸ HP.out)
    rw [HST.out] at this
    exact this.mono (R' := fun e w'' => ∃ G', e = .returned (.int .i32 (ig nums (T.m - 1))) ∧ Fo w'' fb G' (sn : Int) L ∧ Below (w.heap.size + 1 + 1) w' w'' ∧ ∀ k, G' k → w.heap.size + 1 + 1 ≤ k) fun e w'' ⟨G', h1, h2, h3⟩ => ⟨G', h1, h2, h3.below HGB.out hz, fun k hk => by
      rcases h3.new k hk with q | q
      · exact HGB.out k q
      · omega⟩)
  have PM := Lib.hid (fun w' G5 (hb : Below w.heap.size w w') (hz : w.heap.size + 1 + 1 ≤ w'.heap.size) (hf : Fo w' fb G5 (sn : Int) L) (hg : ∀ k, G5 k → w.heap.size + 1 + 1 ≤ k) => by
    have := plant_any (w := w') (AH := AH') (nh := U.n) (ch := cH') (cN := cN') (B := w.heap.size) (HSU.out ▸ hf) HUU.out (HUS.out.2.below hb) (by omega) (fun k hk => by have := hg k hk; omega) (HSU.out.symm ▸ HP'.out)
    rw [HSU.out] at this
    exact this.mono (R' := fun e w'' => e = .returned (.int .i32 (ig nums' (U.m - 1))) ∧ Below (w.heap.size + 1 + 1) w' w'') fun e w'' ⟨G', h1, h2, h3⟩ => ⟨h1, h3.below hg hz⟩)
  clear t0 t1 t2 t3 r0 r1 r2 r3 u0 u1 u2 u3 v0 v1 v2 v3 u0' u1' u2' u3' v0' v1' v2' v3' p0 p1 p2 p3 q0 q1 q2 q3 hGb
  obtain ⟨S0, S0', S0''⟩ := S0
  obtain ⟨S1, S1', S1''⟩ := S1
  have SS : (w4.drew.cell? ⟨w.heap.size, 0, none⟩ = some (.int .i64 (sn : Int)) ∧ w4.drew.cell? ⟨w.heap.size, 1, none⟩ = some (.slice AH T.n cH) ∧ w4.drew.cell? ⟨w.heap.size, 2, none⟩ = some (.slice AN T.m cN)) ∧ (w4.drew.cell? ⟨w.heap.size + 1, 0, none⟩ = some (.int .i64 (sn : Int)) ∧ w4.drew.cell? ⟨w.heap.size + 1, 1, none⟩ = some (.slice AH' U.n cH') ∧ w4.drew.cell? ⟨w.heap.size + 1, 2, none⟩ = some (.slice AN' U.m cN')) := ⟨⟨S0, S0', S0''⟩, S1, S1', S1''⟩
  clear S0 S0' S0'' S1 S1' S1''
  go_region_held_law (fun w' => (w'.cell? ⟨w.heap.size, 0, none⟩ = some (.int .i64 (sn : Int)) ∧ w'.cell? ⟨w.heap.size, 1, none⟩ = some (.slice AH T.n cH) ∧ w'.cell? ⟨w.heap.size, 2, none⟩ = some (.slice AN T.m cN)) ∧ (w'.cell? ⟨w.heap.size + 1, 0, none⟩ = some (.int .i64 (sn : Int)) ∧ w'.cell? ⟨w.heap.size + 1, 1, none⟩ = some (.slice AH' U.n cH') ∧ w'.cell? ⟨w.heap.size + 1, 2, none⟩ = some (.slice AN' U.m cN'))) (first | assumption | go_keep)
    (first
    | (go_at_call 26; (with_reducible refine (PL.out w4.drew B4.out SZ4 (F4.out.below (Below.refl _ _).drew)).mono ?_); rintro e wb ⟨G5, rfl, hf5, hb5, hg5⟩; have Fwb := Lib.hid hf5; have GGwb := Lib.hid hg5; have KTwb := Lib.hid (below_blk hb5 KT4.out hk0); have KRwb := Lib.hid (below_blk hb5 KR4.out hk1); have BTwb := Lib.hid (B4.out.trans (hb5.mono hk2)); have SZwb := Nat.le_trans SZ4 hb5.size; have Swb := And.intro (tri KTwb.out) (tri KRwb.out); clear hf5 hb5 hg5)
    | (go_at_call 26; (with_reducible refine (PM.out wb _ BTwb.out SZwb Fwb.out GGwb.out).mono ?_); rintro e wc ⟨rfl, hb6⟩; have KTwc := Lib.hid (below_blk hb6 KTwb.out hk0); have KRwc := Lib.hid (below_blk hb6 KRwb.out hk1); have BTwc := Lib.hid (BTwb.out.trans (hb6.mono hk2)); have Swc := And.intro (tri KTwc.out) (tri KRwc.out); clear hb6))
  all_goals
    go_wp2
    go_ret
    exact ⟨ret_bool (by first | rfl | simp), BTwc.out⟩
end Go.Proofs.YthgnjjpkmikokaaDoor
namespace Go.Proofs.YthgnjjpkmikokaaDoor
open Go.RowKit

theorem addr_add (g o j : Nat) : ((⟨g, o, none⟩ : Addr).add j) = ⟨g, o + j, none⟩ := by
  unfold Addr.add
  split
  · next e => subst e; rfl
  · rfl
theorem nr_cells {w : World} {g o : Nat} {lv : Nat → Int} {nx : Nat → List Int} : ∀ {m : Nat}, (∀ k, k < m → ∃ A' c', w.cell? ⟨g, o + k * 2, none⟩ = some (.int .i64 (lv k)) ∧ w.cell? ⟨g, o + k * 2 + 1, none⟩ = some (.slice A' (nx k).length c') ∧ Reads w w.heap.size A' (nx k).length (il (nx k))) →
    ∃ xs : List Value, xs.length = m * 2 ∧ (∀ u ∈ xs, u.oneCell' = true) ∧ (∀ j u, xs[j]? = some u → w.cell? ((⟨g, o, none⟩ : Addr).add j) = some u) ∧ Inn w (fun b => w.heap.size ≤ b) xs m lv nx := by
  intro m
  induction m with
  | zero =>
    intro _
    refine ⟨[], by simp, ?_, ?_, ?_⟩
    · intro u hu; cases hu
    · intro j u hj; simp at hj
    · intro k hk; omega
  | succ m ih =>
    intro h
    obtain ⟨xs, h1, h2, h3, h4⟩ := ih (fun k hk => h k (by omega))
    obtain ⟨A', c', c1, c2, c3⟩ := h m (by omega)
    refine ⟨xs ++ [.int .i64 (lv m), .slice A' (nx m).length c'], by simp [h1]; omega, ?_, ?_, h4.push h1 c3 ?_⟩
    · intro u hu
      rw [List.mem_append] at hu
      rcases hu with hu | hu
      · exact h2 u hu
      · simp at hu
        rcases hu with rfl | rfl <;> rfl
    · intro j u hj
      rw [addr_add]
      by_cases e : j < xs.length
      · rw [List.getElem?_append_left e] at hj
        have := h3 j u hj
        rwa [addr_add] at this
      · rw [List.getElem?_append_right (by omega), h1] at hj
        have hlt : j - m * 2 < 2 := by
          rcases Nat.lt_or_ge (j - m * 2) 2 with q | q
          · exact q
          · rw [List.getElem?_eq_none (by simpa using q)] at hj; cases hj
        have : j = m * 2 ∨ j = m * 2 + 1 := by omega
        rcases this with e | e
        · subst e
          simp at hj
          rw [c1, hj]
        · subst e
          rw [show m * 2 + 1 - m * 2 = 1 by omega] at hj
          simp at hj
          rw [← Nat.add_assoc, c2, hj]
    · intro hn ad e
      obtain ⟨ad', e', hlt, _⟩ := c3.2 hn
      rw [e] at e'
      injection e' with e'
      subst e'
      omega

set_option maxRecDepth 100000 in
set_option maxHeartbeats 1000000 in
theorem nclone_any {w : World} {AN : Option Addr} {m cN : Nat} {lv : Nat → Int} {nx : Nat → List Int} (h : NR w w.heap.size AN m lv nx) (hm : 1 ≤ m) (hm' : m ≤ 5000) :
    Calls Tryd.prog 68 #[.slice AN m cN] w fun e w' => ∃ g c cur, e = .returned (.slice (some ⟨g, 0, none⟩) m c) ∧ w.heap.size ≤ g ∧ Blk w' g 44 cur ∧ Inn w' (fun b => w.heap.size ≤ b) cur.toList m lv nx ∧ (∀ g0 o0, AN = some ⟨g0, o0, none⟩ → ∀ k, k < m → cur.toList[k * 2 + 1]? = w.cell? ⟨g0, o0 + (k * 2 + 1), none⟩) ∧ Below w.heap.size w w' := by
  obtain ⟨i0, hi, hz0, hz1, hz2⟩ := info_parts Tryd.info_node
  obtain ⟨g, o, rfl, hg, hc⟩ := h (by omega)
  obtain ⟨xs, L, O, HX, HI⟩ := nr_cells hc
  have hnews : ∀ (j : Nat) (u : Value), xs[j]? = some u → (w.alloc (.cells #[] 44)).cell? ((⟨g, o, none⟩ : Addr).add j) = some u := fun j u hj => (World.cell?_alloc_lt w _ _ (by rw [block_of_add]; exact hg)).trans (HX j u hj)
  have HN := Lib.hid hnews
  have HI := Lib.hid HI
  have HXX := Lib.hid HX
  have B1 := Lib.hid ((Below.refl w.heap.size w).alloc (Nat.le_refl _) (.cells #[] 44))
  have HO := Lib.hid (World.ownsRow_made (base := w.heap.size) (e := 44) (size := 2) w #[] 0 (Nat.le_refl _) (by unfold maxLen; omega) (by rfl))
  have s1 := B1.out.size
  clear h hnews hc HX
  have q22 : ∀ (w : World) (a : Option Addr) (n c n' c' : Nat), (binOp .eql 23 (.slice a n c) (.slice none n' c')).run Tryd.prog w = .ok (.bool a.isNone) w := fun w a n c n' c' => Lib.run_eql_slice_nil w _ _ a n c n' c' Tryd.underlying23
  go_enter Tryd.func68, Tryd.ntmps68
  go_wp2_with (at_builtin; refine wpList_append_own _ rfl _ _ 23 rfl w.heap.size 44 i0 (.agg #[.int .i64 0, .slice none 0 0]) 2 32 Tryd.underlying23 hi hz0 hz1 hz2 rfl (by decide) _ 0 [] rfl HO.out ⟨g, o, none⟩ m cN xs rfl L HN.out O (by unfold maxLen; omega) (by omega) s1 ?_; intro v' w2 hown2 hg2 hiff; have B2 := Lib.hid (B1.out.grown hg2 s1 (fun k hk => (HO.out.lt k hk).1)); have HO2 := Lib.hid hown2; clear hown2 hg2 hiff)
  have h := HO2.out
  rw [Nat.zero_add, List.nil_append] at h
  rcases h.2 with ⟨_, h2⟩ | ⟨g2, cap, cur, h1, h2, h3, h4, h5, h6, h7⟩
  · omega
  subst h1
  go_ret
  refine ⟨g2, cap, cur, rfl, h2, h3, ?_, ?_, B2.out⟩
  rotate_left
  · intro g0 o0 e k hk
    injection e with e
    injection e with e1 e2 e3
    subst e1 e2
    have hl : k * 2 + 1 < xs.length := by omega
    have h8 : cur.toList[k * 2 + 1]? = xs[k * 2 + 1]? := by rw [← h7, List.getElem?_take_of_lt (by omega)]
    rw [h8, List.getElem?_eq_getElem hl]
    have := HXX.out (k * 2 + 1) _ (List.getElem?_eq_getElem hl)
    rw [addr_add] at this
    exact this.symm
  intro k hk
  obtain ⟨A', c', c1, c2, c3, c4⟩ := HI.out.below B2.out k hk
  rw [← h7, List.getElem?_take_of_lt (by omega)] at c1 c2
  exact ⟨A', c', c1, c2, c3, c4⟩
end Go.Proofs.YthgnjjpkmikokaaDoor
namespace Go.Proofs.YthgnjjpkmikokaaDoor
open Go.RowKit

/-- a copy of one number -/
theorem copy_off (w w0 : World) (ad : Addr) (g off dLen dCap sLen sCap B : Nat) (cur : List Value) (k : Int) (hg : Blk w g 3 cur.toArray) (hn : Nat.min sLen dLen = 1) (hc : w.cell? (ad.add 0) = some (.int .i64 k)) (hf : off + 1 ≤ cur.length) (hb : Below B w0 w) (hB : B ≤ g) :
    ∃ w2, (Builtin.copy_ #[26, 26] 3 #[.slice (some ⟨g, off, none⟩) dLen dCap, .slice (some ad) sLen sCap]).run Tryd.prog w = .ok (.int .i64 1) w2 ∧ Blk w2 g 3 (cur.take off ++ [Value.int .i64 k] ++ cur.drop (off + 1)).toArray ∧ Below B w0 w2 := by
  obtain ⟨i0, hi, hz0, hz1, hz2⟩ := info_parts Tryd.info_int
  have hsz1 : (Tryd.prog.info? 3).map (·.size) = some 1 := by rw [hi]; simp [hz1]
  have h := run_copy_row (P := Tryd.prog) w 26 26 3 3 g off dLen dCap ad sLen sCap cur.toArray 3 [.int .i64 k] Tryd.underlying26 hsz1 hg (by rw [hn]; rfl)
    (fun j v hj => by match j, hj with | 0, hj => simp at hj; subst hj; exact hc) (by simpa using hf) (fun v hv => by simp at hv; subst hv; rfl)
  exact ⟨_, h, (show _ = _ from by simpa using setRow_heap w g _ _ _ _ hg), below_setRow hb hB _⟩

set_option maxRecDepth 100000 in
set_option maxHeartbeats 1000000 in
theorem rep2o (k : Int) (ad : Addr) (cx : Nat) (w : World) (hx : ad.block < w.heap.size) (hc : w.cell? (ad.add 0) = some (.int .i64 k)) :
    Calls Tryd.prog 41 #[.slice (some ad) 1 cx, .int .i64 2] w fun e w' => e = .returned (.slice (some ⟨w.heap.size, 0, none⟩) 2 2) ∧ Blk w' w.heap.size 3 #[.int .i64 k, .int .i64 k] ∧ Below w.heap.size w w' := by
  have M := Lib.hid (fun w => show Calls Tryd.prog 67 #[.int .u64 1, .int .u64 2] w fun e w' => e = .returned (.tuple #[.int .u64 0, .int .u64 2]) ∧ w = w' from mul_any 2 (by omega) w)
  have mk := fun w => show (Instr.makeSlice 26 (.int .i64 2) (.int .i64 2)).run Tryd.prog w = .ok (.slice (some ⟨w.heap.size, 0, none⟩) 2 2) (w.alloc (.cells (zs 2) 3)) from mk_zs (S := 2) (by omega) (by omega) w
  have G := Lib.hid (show Blk (w.alloc (.cells (zs 2) 3)) w.heap.size 3 [.int .i64 0, .int .i64 0].toArray from Blk.new w _ _)
  have B0 := Lib.hid ((Below.refl w.heap.size w).alloc (Nat.le_refl _) (.cells (zs 2) 3))
  have C0 := Lib.hid ((World.cell?_alloc_lt w (.cells (zs 2) 3) (ad.add 0) (by rw [block_of_add]; exact hx)).trans hc)
  clear hc
  go_enter Tryd.func41, Tryd.ntmps41
  go_upto_region 7 with (go_at_call 67; (with_reducible refine (M.out _).mono ?_); rintro e w' ⟨rfl, rfl⟩)
  generalize w.alloc (.cells (zs 2) 3) = w0 at *
  obtain ⟨w1, run1, G1, B1⟩ := copy_off w0 w ad w.heap.size 0 2 2 1 cx w.heap.size _ k G.out rfl C0.out (by simp) B0.out (Nat.le_refl _)
  have G1 := Lib.hid (show Blk w1 w.heap.size 3 #[.int .i64 k, .int .i64 0] from G1)
  have B1 := Lib.hid B1
  clear G B0 C0 mk M
  go_wp2
  clear run1
  refine wp_loop_rounds 2 ?_
  rw [rounds_succ]
  obtain ⟨w2, run2, G2, B2⟩ := copy_off w1.drew w ⟨w.heap.size, 0, none⟩ w.heap.size 1 1 1 1 2 w.heap.size [.int .i64 k, .int .i64 0] k G1.out rfl (G1.out.cell 0) (by simp) B1.out.drew (Nat.le_refl _)
  have G2 := Lib.hid (show Blk w2 w.heap.size 3 #[.int .i64 k, .int .i64 k] from G2)
  have B2 := Lib.hid B2
  go_wp2_with fail
  go_region
  go_wp2_with fail
  clear run2 G1 B1
  rw [rounds_succ]
  go_wp2
  go_ret
  exact ⟨rfl, G2.out, B2.out⟩


set_option maxRecDepth 100000 in
set_option maxHeartbeats 2000000 in
/-- what Fix makes of a node's two elements -/
theorem fix1_any (s : Nat) (hs : s < 2) (l : List Int) (hl : l.length = 2) (A : Option Addr) (c gb : Nat) (w : World) (hr : Reads w w.heap.size A 2 (il l)) (hc : 2 ≤ c) (hc2 : c ≤ maxLen) (hb : w.cell? ⟨gb, 0, none⟩ = some (.int .i64 (s : Int))) :
    Calls Tryd.prog 40 #[.slice A 2 c, .pointer (some ⟨gb, 0, none⟩)] w fun e w' => e = .returned (.slice (some ⟨w.heap.size, 0, none⟩) 2 2) ∧ Blk w' w.heap.size 3 #[.int .i64 (ig l s), .int .i64 (ig l s)] ∧ Below w.heap.size w w' := by
  obtain ⟨ad, rfl, hlt, hcells⟩ := hr.2 (by omega)
  have c1 := il_at hr (k := s) (by omega)
  obtain ⟨ad', e', h1, h2⟩ := c1
  injection e' with e'
  subst e'
  have R := Lib.hid (fun k => rep2o (ig l s) (ad.add s) k w (by rw [block_of_add]; exact hlt) (by rw [show (ad.add s).add 0 = ad.add s from by simp [Addr.add]]; exact h2))
  have hs1 : s + 1 ≤ c := by omega
  clear hr hcells h1 h2
  go_enter Tryd.func40, Tryd.ntmps40
  go_wp2_with (go_at_call 41; (with_reducible refine (R.out _).mono ?_); rintro e w1 ⟨rfl, hk, hb⟩; have K1 := Lib.hid hk; have B1 := Lib.hid hb; clear hk hb)
  go_ret
  exact ⟨rfl, K1.out, B1.out⟩

theorem cell_setCell_block (w : World) (p q : Addr) (u : Value) (h : q.block ≠ p.block) : (w.setCell p u).cell? q = w.cell? q := World.cell?_setCell_other w p q u (fun e => h (by rw [e]))
set_option maxRecDepth 100000 in
set_option maxHeartbeats 4000000 in
/-- what Map makes of a node's two elements -/
theorem map2_any (l tl : List Int) (hl : l.length = 2) (htl : tl.length = 2) (h0 : 0 ≤ ig l 0 ∧ ig l 0 < 2) (h1 : 0 ≤ ig l 1 ∧ ig l 1 < 2) (A AT : Option Addr) (c cT gb : Nat) (w : World) (hr : Reads w w.heap.size A 2 (il l)) (ht : Reads w w.heap.size AT 2 (il tl)) (hb : w.cell? ⟨gb, 0, none⟩ = some (.slice AT 2 cT)) (hbl : gb < w.heap.size) :
    Calls Tryd.prog 44 #[.slice A 2 c, .pointer (some ⟨gb, 0, none⟩)] w fun e w' => e = .returned (.slice (some ⟨w.heap.size, 0, none⟩) 2 2) ∧ Blk w' w.heap.size 3 #[.int .i64 (ig tl (ig l 0).toNat), .int .i64 (ig tl (ig l 1).toNat)] ∧ Below w.heap.size w w' := by
  have mk := fun w => show (Instr.makeSlice 26 (.int .i64 2) (.int .i64 2)).run Tryd.prog w = .ok (.slice (some ⟨w.heap.size, 0, none⟩) 2 2) (w.alloc (.cells (zs 2) 3)) from mk_zs (S := 2) (by omega) (by omega) w
  obtain ⟨ad, rfl, a1, a2⟩ := il_at hr (k := 0) (by omega)
  obtain ⟨ad', e', -, a3⟩ := il_at hr (k := 1) (by omega)
  injection e' with e'
  subst e'
  obtain ⟨bd, rfl, b1, b2⟩ := il_at ht (k := (ig l 0).toNat) (by omega)
  obtain ⟨bd', e', -, b3⟩ := il_at ht (k := (ig l 1).toNat) (by omega)
  injection e' with e'
  subst e'
  obtain ⟨i0, hi0⟩ : ∃ i0 : Nat, ig l 0 = (i0 : Int) := ⟨(ig l 0).toNat, by omega⟩
  obtain ⟨i1, hi1⟩ : ∃ i1 : Nat, ig l 1 = (i1 : Int) := ⟨(ig l 1).toNat, by omega⟩
  rw [hi0] at a2 b2 h0 ⊢
  rw [hi1] at a3 b3 h1 ⊢
  simp only [Int.toNat_natCast] at b2 b3 ⊢
  clear hr ht hi0 hi1
  generalize ig tl i0 = v0 at *
  generalize ig tl i1 = v1 at *
  have G := Lib.hid (show Blk (w.alloc (.cells (zs 2) 3)) w.heap.size 3 #[.int .i64 0, .int .i64 0] from Blk.new w _ _)
  have B0 := Lib.hid ((Below.refl w.heap.size w).alloc (Nat.le_refl _) (.cells (zs 2) 3))
  go_enter Tryd.func44, Tryd.ntmps44
  go_upto_region 3 with fail
  have A2 := Lib.hid (B0.out.cell (p := ad.add 0) (by rw [block_of_add]; exact a1) |>.trans a2)
  have A3 := Lib.hid (B0.out.cell (p := ad.add 1) (by rw [block_of_add]; exact a1) |>.trans a3)
  have D2 := Lib.hid (B0.out.cell (p := bd.add i0) (by rw [block_of_add]; exact b1) |>.trans b2)
  have D3 := Lib.hid (B0.out.cell (p := bd.add i1) (by rw [block_of_add]; exact b1) |>.trans b3)
  have E1 := Lib.hid (B0.out.cell (p := ⟨gb, 0, none⟩) hbl |>.trans hb)
  have ne1 : ad.block ≠ w.heap.size := by omega
  have ne2 : bd.block ≠ w.heap.size := by omega
  have ne3 : gb ≠ w.heap.size := by omega
  clear hb a2 a3 b2 b3 mk
  generalize w.alloc (.cells (zs 2) 3) = w0 at *
  have G0 := Lib.hid G.out.two
  have G1 := Lib.hid (G.out.set_ 0 (.int .i64 v0)).two
  have A2' := A2.out
  have A2'' : w0.cell? ad = some (.int .i64 (i0 : Int)) := by have := A2.out; rwa [show ad.add 0 = ad from by simp [Addr.add]] at this
  have D2' := D2.out
  have E1 := E1.out
  obtain ⟨x0, x1, x2, x3, x4⟩ := G0.out
  have A3' : (w0.setCell ⟨w.heap.size, 0, none⟩ (.int .i64 v0)).cell? (ad.add 1) = some (.int .i64 (i1 : Int)) := (cell_setCell_block w0 _ _ _ (by rw [block_of_add]; exact ne1)).trans A3.out
  have D3' : (w0.setCell ⟨w.heap.size, 0, none⟩ (.int .i64 v0)).cell? (bd.add i1) = some (.int .i64 v1) := (cell_setCell_block w0 _ _ _ (by rw [block_of_add]; exact ne2)).trans D3.out
  have A3'' : (w0.setCell ⟨w.heap.size, 0, none⟩ (.int .i64 v0)).cell? ⟨ad.block, ad.off + 1, none⟩ = some (.int .i64 (i1 : Int)) := by have := A3'; rwa [show ad.add 1 = ⟨ad.block, ad.off + 1, none⟩ from by simp [Addr.add]] at this
  have E1' : (w0.setCell ⟨w.heap.size, 0, none⟩ (.int .i64 v0)).cell? ⟨gb, 0, none⟩ = some (.slice (some bd) 2 cT) := (cell_setCell_block w0 _ _ _ ne3).trans E1
  have HB := Lib.hid (And.intro h0 h1)
  obtain ⟨y0, y1, y2, y3, y4⟩ := G1.out
  have hi0 : (i0 : Int) < 2 := h0.2
  have hi1 : (i1 : Int) < 2 := h1.2
  refine wp_loop_rounds 3 ?_
  rw [rounds_succ]
  go_wp2_with fail
  have KF := Lib.hid (show Blk ((w0.setCell ⟨w.heap.size, 0, none⟩ (.int .i64 v0)).setCell ⟨w.heap.size, 1, none⟩ (.int .i64 v1)) w.heap.size 3 #[.int .i64 v0, .int .i64 v1] from by simpa using (G.out.set_ 0 (.int .i64 v0)).set_ 1 (.int .i64 v1))
  have BF := Lib.hid ((B0.out.setCell (p := ⟨w.heap.size, 0, none⟩) (Nat.le_refl _) (.int .i64 v0)).setCell (p := ⟨w.heap.size, 1, none⟩) (Nat.le_refl _) (.int .i64 v1))
  rw [rounds_succ]
  go_wp2
  rw [rounds_succ]
  go_wp2
  go_ret
  exact ⟨rfl, KF.out, BF.out⟩
end Go.Proofs.YthgnjjpkmikokaaDoor
