/- The walk of combine. -/
/- The walks of either, where and where$1. -/
/- The walk of plant, for a tree that nothing of the forest touches. -/
/- The walk of Map, whose result nothing below it touches. -/
/- The walks of slices.Index of small numbers, slices.Max and Size. -/
/- What choose keeps: the forest, two rows and a tree's copy. -/
import Derived.Test.YthgnjjpkmikokaaDoorCvg
import Derived.Test.YthgnjjpkmikokaaDoorBaj
import Derived.Test.YthgnjjpkmikokaaDoorBas
namespace Go.Proofs.YthgnjjpkmikokaaDoor
open Go.RowKit

/-- the closure that visits pairs -/
@[reducible] def cmbV (xf xw xc xm xv : Nat) : Value := .func (.func 86) #[] #[.pointer (some ⟨xf, 0, none⟩), .pointer (some ⟨xw, 0, none⟩), .pointer (some ⟨xc, 0, none⟩), .pointer (some ⟨xm, 0, none⟩), .pointer (some ⟨xv, 0, none⟩)]
theorem cv_any {vf : Int → Int → Int} {gW : FuncId} {cw : Array Value} {Vs : World → Prop} {dead : Nat → Prop} {sn most xf xw xc xm xv mb fb : Nat} (hs1 : 2 ≤ sn) (hs2 : sn ≤ 8) (V : Vfn vf gW cw Vs dead) (eg : ∀ args w, (callFunc gW args).run Tryd.prog w = .ok (.enter gW args) w) :
    ∀ (k : Nat) (p : Int × Int) (r : Int) (S S' : Cs) (w : World) (T : Nat → Prop), I32 p.1 → I32 p.2 → combF sn most vf k p S = some (r, S') → Cst sn most Vs dead ⟨xf, xw, xc, xm, xv, mb, fb, .func (.func gW) #[] cw, cmbV xf xw xc xm xv⟩ w T S →
      Calls Tryd.prog 86 #[.int .i32 p.1, .int .i32 p.2, .pointer (some ⟨xf, 0, none⟩), .pointer (some ⟨xw, 0, none⟩), .pointer (some ⟨xc, 0, none⟩), .pointer (some ⟨xm, 0, none⟩), .pointer (some ⟨xv, 0, none⟩)] w fun e w' => VcOut sn most Vs dead ⟨xf, xw, xc, xm, xv, mb, fb, .func (.func gW) #[] cw, cmbV xf xw xc xm xv⟩ w T r S' e w'
  | 0, p, r, S, S', w, T, h1, h2, hv, h => by simp [combF] at hv
  | k + 1, (a, c), r, S, S', w, T, h1, h2, hv, h => by
    simp only [combF] at hv
    simp only at h1 h2
    by_cases hlt : min a c < (sn : Int)
    · rw [if_pos hlt] at hv
      simp only [Option.some.injEq, Prod.mk.injEq] at hv
      obtain ⟨rfl, rfl⟩ := hv
      exact cv_leaf V eg h1 h2 hlt h
    · rw [if_neg hlt] at hv
      cases hf : S.M.lookup (a, c) with
      | some i =>
        rw [hf] at hv
        simp only [Option.some.injEq, Prod.mk.injEq] at hv
        obtain ⟨rfl, rfl⟩ := hv
        exact cv_found h1 h2 hlt h hf
      | none =>
        rw [hf] at hv
        simp only at hv
        by_cases ho : most < S.M.length
        · rw [if_pos ho] at hv
          simp only [Option.some.injEq, Prod.mk.injEq] at hv
          obtain ⟨rfl, rfl⟩ := hv
          exact cv_cut h1 h2 hlt h hf ho
        · rw [if_neg ho] at hv
          cases hx : nodeF (sn : Int) S.L a with
          | none => rw [hx] at hv; cases hv
          | some x =>
            rw [hx] at hv
            simp only [Option.bind_some] at hv
            cases hy : nodeF (sn : Int) S.L c with
            | none => rw [hy] at hv; cases hv
            | some y =>
              rw [hy] at hv
              simp only [Option.bind_some] at hv
              cases hr : rowF (combF sn most vf k) ((x.r.zip y.r).take sn) S with
              | none => rw [hr] at hv; cases hv
              | some q =>
                obtain ⟨next, S1⟩ := q
                rw [hr] at hv
                simp only [Option.bind_some] at hv
                by_cases hf1 : S1.M.lookup (a, c) = none
                · rw [if_pos hf1] at hv
                  cases had : addF (sn : Int) S1.L (padN x.lv next) with
                  | none => rw [had] at hv; cases hv
                  | some q =>
                    obtain ⟨r2, L2⟩ := q
                    rw [had] at hv
                    simp only [Option.bind_some, Option.some.injEq, Prod.mk.injEq] at hv
                    obtain ⟨rfl, rfl⟩ := hv
                    exact cv_go (gV := 86) (k := k) hs1 hs2 V (enters_of Tryd.func86 (by kernel_rfl) rfl) (fun p r S S' w T a1 a2 a3 a4 => cv_any hs1 hs2 V eg k p r S S' w T a1 a2 a3 a4) h1 h2 hlt h hf ho hx hy hr hf1 had
                · rw [if_neg hf1] at hv
                  cases hv
attribute [local go_sem] run_store_fn
set_option maxRecDepth 100000 in
set_option maxHeartbeats 4000000 in
theorem combine_any {vf : Int → Int → Int} {gW : FuncId} {cw : Array Value} {Vs : World → Prop} {dead : Nat → Prop} {sn most k fb : Nat} {w : World} {G : Nat → Prop} {L : List Ndv} {a c r : Int} {S' : Cs} (hs1 : 2 ≤ sn) (hs2 : sn ≤ 8) (hmost : most < 9223372036854775808) (V : Vfn vf gW cw Vs dead) (eg : ∀ args w, (callFunc gW args).run Tryd.prog w = .ok (.enter gW args) w)
    (h : Fo w fb G (sn : Int) L) (ha : I32 a) (hc : I32 c) (hv : Vs w) (hd : ∀ k, dead k → ¬ G k) (hm : combF sn most vf k (a, c) ⟨L, []⟩ = some (r, S')) :
    Calls Tryd.prog 74 #[.pointer (some ⟨fb, 0, none⟩), .int .i32 a, .int .i32 c, .int .i64 (most : Int), .func (.func gW) #[] cw] w fun e w' =>
      ∃ G', e = .returned (.tuple #[.int .i32 r, .bool (decide (S'.M.length ≤ most))]) ∧ I32 r ∧ Fo w' fb G' (sn : Int) S'.L ∧ Fr G w G' w' := by
  have hlt := h.st2.2.2.2.2.2.2.1
  obtain ⟨w5, hw5⟩ : ∃ w5, w5 = (((((w.alloc (.cells #[.pointer (some ⟨fb, 0, none⟩)] 51)).alloc (.cells #[.int .i64 (most : Int)] 3)).alloc (.cells #[.func (.func gW) #[] cw] 108)).alloc (.map #[] 0)).alloc (.cells #[.map (some (w.heap.size + 1 + 1 + 1))] 126)) := ⟨_, rfl⟩
  have hs5 : w5.heap.size = w.heap.size + 1 + 1 + 1 + 1 + 1 := by rw [hw5]; simp
  have c5 := (Blk.new w5 108 #[.nilFunc]).one
  rw [hs5, hw5] at c5
  obtain ⟨c50, c51, c52⟩ := c5
  have K1 := Blk.new w 51 #[.pointer (some ⟨fb, 0, none⟩)]
  have K2 := Blk.new (w.alloc (.cells #[.pointer (some ⟨fb, 0, none⟩)] 51)) 3 #[.int .i64 (most : Int)]
  have K3 := Blk.new ((w.alloc (.cells #[.pointer (some ⟨fb, 0, none⟩)] 51)).alloc (.cells #[.int .i64 (most : Int)] 3)) 108 #[.func (.func gW) #[] cw]
  have K4 := MapN.new Tryd.prog (((w.alloc (.cells #[.pointer (some ⟨fb, 0, none⟩)] 51)).alloc (.cells #[.int .i64 (most : Int)] 3)).alloc (.cells #[.func (.func gW) #[] cw] 108)) 127 (α := Int × Int) (β := Int) pairV (fun x => .int .i32 x)
  have K5 := Blk.new ((((w.alloc (.cells #[.pointer (some ⟨fb, 0, none⟩)] 51)).alloc (.cells #[.int .i64 (most : Int)] 3)).alloc (.cells #[.func (.func gW) #[] cw] 108)).alloc (.map #[] 0)) 126 #[.map (some (w.heap.size + 1 + 1 + 1))]
  have K6 := Blk.new w5 108 #[cmbV w.heap.size (w.heap.size + 1 + 1) (w.heap.size + 1 + 1 + 1 + 1) (w.heap.size + 1) (w.heap.size + 1 + 1 + 1 + 1 + 1)]
  have B6 : Below w.heap.size w (w5.alloc (.cells #[cmbV w.heap.size (w.heap.size + 1 + 1) (w.heap.size + 1 + 1 + 1 + 1) (w.heap.size + 1) (w.heap.size + 1 + 1 + 1 + 1 + 1)] 108)) := by
    rw [hw5]
    exact ((((((Below.refl _ _).alloc (Nat.le_refl _) _).alloc (by simp) _).alloc (by simp; omega) _).alloc (by simp; omega) _).alloc (by simp; omega) _).alloc (by simp; omega) _
  simp only [World.size_alloc] at K2 K3 K4 K5
  rw [hs5] at K6
  have hW : Cst sn most Vs dead ⟨w.heap.size, w.heap.size + 1 + 1, w.heap.size + 1 + 1 + 1 + 1, w.heap.size + 1, w.heap.size + 1 + 1 + 1 + 1 + 1, w.heap.size + 1 + 1 + 1, fb, .func (.func gW) #[] cw, cmbV w.heap.size (w.heap.size + 1 + 1) (w.heap.size + 1 + 1 + 1 + 1) (w.heap.size + 1) (w.heap.size + 1 + 1 + 1 + 1 + 1)⟩ (w5.alloc (.cells #[cmbV w.heap.size (w.heap.size + 1 + 1) (w.heap.size + 1 + 1 + 1 + 1) (w.heap.size + 1) (w.heap.size + 1 + 1 + 1 + 1 + 1)] 108)) (fun k => k = w.heap.size + 1 + 1 + 1 ∨ G k) ⟨L, []⟩ := by
    have hsz : (w5.alloc (.cells #[cmbV w.heap.size (w.heap.size + 1 + 1) (w.heap.size + 1 + 1 + 1 + 1) (w.heap.size + 1) (w.heap.size + 1 + 1 + 1 + 1 + 1)] 108)).heap.size = w.heap.size + 6 := by rw [World.size_alloc, hs5]
    refine ⟨?_, ?_, ?_, ?_, K6, ?_, ?_, ?_, V.keep hv (Fr.of_below (G := fun _ => False) B6) (fun _ h => h.elim), ?_, .inl rfl, by simp, G, h.below B6, ?_⟩
    · rw [hw5]; exact ((((K1.alloc _).alloc _).alloc _).alloc _).alloc _
    · rw [hw5]; exact (((K3.alloc _).alloc _).alloc _)
    · rw [hw5]; exact K5.alloc _
    · rw [hw5]; exact ((((K2.alloc _).alloc _).alloc _).alloc _)
    · intro k hk hT
      rcases hk with rfl | rfl | rfl | rfl | rfl <;> rcases hT with hT | hT <;> first | (simp only at hT; omega) | (have := hlt _ hT; simp only at this; omega)
    · intro k hk hT
      rcases hT with hT | hT
      · have := V.lt hv k hk; omega
      · exact hd k hk hT
    · intro k hk
      rw [hsz]
      rcases hk with hk | hk
      · omega
      · have := hlt k hk; omega
    · rw [hw5]
      exact (K4.of_block ((Below.heap_alloc _ _ _ (by simp)))).of_block (Below.heap_alloc _ _ _ (by simp))
    · intro k hk
      have := hlt k hk
      exact ⟨.inr hk, by simp only; omega⟩
  have VI := Lib.hid (cv_any hs1 hs2 V eg k (a, c) r ⟨L, []⟩ S' _ _ ha hc hm hW)
  have HB6 := Lib.hid B6
  have HLT := Lib.hid hlt
  have HS5 := Lib.hid hs5
  rw [hw5] at VI HB6 HS5
  clear K1 K2 K3 K4 K5 K6 hW B6 hlt h hv hw5 hs5 V hd hm ha hc
  have hmm := @run_makeMap Tryd.prog
  simp only at VI
  go_enter Tryd.func74, Tryd.ntmps74
  go_wp2_with ((with_reducible refine (VI.out).mono ?_); rintro e w' ⟨T', rfl, hri, hW', hF'⟩; have HW' := Lib.hid hW'; have HF' := Lib.hid hF'; have RI := Lib.hid hri; obtain ⟨y0, y1, y2⟩ := hW'.cc.one; obtain ⟨z0, z1, z2⟩ := hW'.cm.one; have hlen := fun ty => (hW'.map.of_block (w' := w'.drew) rfl).len Tryd.underlying126 ty; clear hW' hF' hri; simp only at y0 y1 y2 z0 z1 z2 hlen)
  have hdd : decide ((S'.M.length : Int) ≤ (most : Int)) = decide (S'.M.length ≤ most) := by simp
  go_region
  all_goals
    go_wp2
    obtain ⟨G', a1, a2⟩ := HW'.out.rest
    refine bodyPost_ret (v := .tuple #[.int .i32 r, .bool (decide (S'.M.length ≤ most))]) (by simp [results, Tryd.results74, go_sem]) rfl ⟨G', rfl, RI.out, a1, ?_⟩
    · have hs6 := HB6.out.size
      have hF := (Fr.of_below (G := G) HB6.out)
      have hN := HF'.out.new
      refine ⟨HF'.out.os.trans hF.os, HF'.out.tape.trans hF.tape, HF'.out.output.trans hF.output, Nat.le_trans hF.size HF'.out.size, fun k hk hG => ?_, fun k hk => ?_⟩
      · show w'.heap[k]? = w.heap[k]?
        rw [HF'.out.block k (by simp; omega) (fun h => by
          rcases h with h | h
          · omega
          · exact hG h)]
        exact HB6.out.block k hk
      · rcases hN k (a2 k hk).1 with (h | h) | h
        · exact .inr (by omega)
        · exact .inl h
        · exact .inr (Nat.le_trans hs6 h)
end Go.Proofs.YthgnjjpkmikokaaDoor
namespace Go.Proofs.YthgnjjpkmikokaaDoor
open Go.RowKit

set_option maxRecDepth 100000 in
theorem either_any (a b : Int) (w : World) : Calls Tryd.prog 76 #[.int .i32 a, .int .i32 b] w fun e w' => e = .returned (.int .i32 (max a b)) ∧ w = w' := by
  have hm : ∀ (w : World) (ts : Array TypeId) (t : TypeId), (Builtin.max_ ts t #[.int .i32 a, .int .i32 b]).run Tryd.prog w = .ok (.int .i32 (max a b)) w := fun w ts t => run_max2 w ts t .i32 a b
  generalize max a b = m at hm ⊢
  go_enter Tryd.func76, Tryd.ntmps76
  go_wp2
  go_ret
  exact ⟨rfl, rfl⟩
theorem either_vfn : Vfn (fun a b => max a b) 76 #[] (fun _ => True) (fun _ => False) where
  keep := fun _ _ _ => trivial
  lt := fun _ k hk => hk.elim
  call := fun w a b ha hb _ => ⟨by
    obtain ⟨a1, a2⟩ := ha
    obtain ⟨b1, b2⟩ := hb
    exact ⟨by omega, by omega⟩, (either_any a b w).mono fun e w' ⟨h1, h2⟩ => ⟨h1, h2 ▸ Below.refl _ _⟩⟩
/-- what where's function answers -/
def whF (s a b : Int) : Int := if a = s then b else -1
set_option maxRecDepth 100000 in
theorem where1_any (s a b : Int) (x : Nat) (w : World) (ha : I32 a) (h : Blk w x 3 #[.int .i64 s]) : Calls Tryd.prog 87 #[.int .i32 a, .int .i32 b, .pointer (some ⟨x, 0, none⟩)] w fun e w' => e = .returned (.int .i32 (whF s a b)) ∧ w = w' := by
  obtain ⟨k0, k1, k2⟩ := h.one
  obtain ⟨a1, a2⟩ := ha
  have c1 : IntKind.i64.wrap a = a := IntWalk.i64_in _ ⟨by omega, by omega⟩
  clear h
  by_cases e : a = s
  · have d1 : (a == s) = true := by simp [e]
    have hw : whF s a b = b := if_pos e
    rw [hw]
    clear hw e
    go_enter Tryd.func87, Tryd.ntmps87
    go_wp2
    go_ret
    exact ⟨rfl, rfl⟩
  · have d1 : (a == s) = false := by simp [e]
    have hw : whF s a b = -1 := if_neg e
    rw [hw]
    clear hw e
    go_enter Tryd.func87, Tryd.ntmps87
    go_wp2
    go_ret
    exact ⟨rfl, rfl⟩
theorem where_vfn (s : Int) (x : Nat) : Vfn (fun a b => whF s a b) 87 #[.pointer (some ⟨x, 0, none⟩)] (fun w => Blk w x 3 #[.int .i64 s]) (fun k => k = x) where
  keep := fun h hf hd => hf.blk h (fun hx => hd _ hx rfl)
  lt := fun h k hk => hk ▸ h.lt
  call := fun w a b ha hb h => ⟨by
    unfold whF
    split
    · exact hb
    · exact ⟨by omega, by omega⟩, (where1_any s a b x w ha h).mono fun e w' ⟨h1, h2⟩ => ⟨h1, h2 ▸ Below.refl _ _⟩⟩
theorem where_any (s : Int) (w : World) : Calls Tryd.prog 75 #[.int .i64 s] w fun e w' => e = .returned (.func (.func 87) #[] #[.pointer (some ⟨w.heap.size, 0, none⟩)]) ∧ Blk w' w.heap.size 3 #[.int .i64 s] ∧ w'.heap.size = w.heap.size + 1 ∧ Below w.heap.size w w' := by
  have K := Blk.new w 3 #[.int .i64 s]
  have B := (Below.refl w.heap.size w).alloc (Nat.le_refl _) (.cells #[.int .i64 s] 3)
  have S := World.size_alloc w (.cells #[.int .i64 s] 3)
  have K := Lib.hid K
  have B := Lib.hid B
  have S := Lib.hid S
  go_enter Tryd.func75, Tryd.ntmps75
  go_wp2
  go_ret
  exact ⟨rfl, K.out, S.out, B.out⟩
end Go.Proofs.YthgnjjpkmikokaaDoor
namespace Go.Proofs.YthgnjjpkmikokaaDoor
open Go.RowKit

set_option maxRecDepth 100000 in
set_option maxHeartbeats 8000000 in
theorem plant_keep {w : World} {fb : Nat} {G : Nat → Prop} {L L' : List Ndv} {T : Tr} {AH AN : Option Addr} {nh ch cN : Nat} {nums : List Int} (h : Fo w fb G T.st L) (hT : Rt T) (hK : ∀ (G1 : Nat → Prop) (w1 : World), Fr G w G1 w1 → NR w1 w1.heap.size AN T.m T.lv T.nx) (hp : plantF T.st T.lv T.nx T.m L = some (nums, L')) :
    Calls Tryd.prog 26 #[.pointer (some ⟨fb, 0, none⟩), .agg #[.int .i64 T.st, .slice AH nh ch, .slice AN T.m cN]] w fun e w' => ∃ G', e = .returned (.int .i32 (ig nums (T.m - 1))) ∧ Fo w' fb G' T.st L' ∧ Fr G w G' w' := by
  obtain ⟨hnl, hat⟩ := plantF_at hp
  obtain ⟨S1, S2, hd, M1, M2, nd, top⟩ := hT
  obtain ⟨g, o, hA, hgB, hcells⟩ := hK G w (Fr.refl G w) (by omega)
  subst hA
  obtain ⟨st, n, f, m, lv, nx⟩ := T
  simp only at *
  have hst := h.st2
  obtain ⟨q1, q2, q3, q4, q5, q6, q7, q8⟩ := hst
  have HF := Lib.hid h
  have HND := Lib.hid nd
  have HAT := Lib.hid hat
  have HK := Lib.hid hK
  have HNL := Lib.hid hnl
  have HPP := Lib.hid hp
  have mz := mk_i32 (m := m) (by omega) (w.alloc (.cells #[.int .i64 st, .slice AH nh ch, .slice (some ⟨g, o, none⟩) m cN] 25))
  simp only [World.size_alloc] at mz
  have B1 := Lib.hid (((Below.refl w.heap.size w).alloc (Nat.le_refl _) (.cells #[.int .i64 st, .slice AH nh ch, .slice (some ⟨g, o, none⟩) m cN] 25)).alloc (by simp) (.cells (r32 (List.replicate m 0)) 21))
  have K1 := Lib.hid (Blk.new (w.alloc (.cells #[.int .i64 st, .slice AH nh ch, .slice (some ⟨g, o, none⟩) m cN] 25)) 21 (r32 (List.replicate m 0)))
  obtain ⟨t0, t1, t2, t3⟩ := (Blk.new w 25 #[.int .i64 st, .slice AH nh ch, .slice (some ⟨g, o, none⟩) m cN]).three
  obtain ⟨u0, u1, u2, u3⟩ := ((Blk.new w 25 #[.int .i64 st, .slice AH nh ch, .slice (some ⟨g, o, none⟩) m cN]).alloc (.cells (r32 (List.replicate m 0)) 21)).three
  simp only [World.size_alloc] at K1
  clear h nd hat hcells hK hnl q7 q5 top hp
  go_enter Tryd.func26, Tryd.ntmps26
  go_wp2
  go_loopw [18] (fun iv wr => ∃ (i : Nat) (n1 : List Int) (L1 : List Ndv) (G1 : Nat → Prop), i ≤ m ∧ iv = .int .i64 (i : Int) ∧ n1.length = i ∧ plantF st lv nx i L = some (n1, L1) ∧ Fo wr fb G1 st L1 ∧ Fr G w G1 wr ∧ ¬ G1 (w.heap.size + 1) ∧ Blk wr (w.heap.size + 1) 21 (r32 (n1 ++ List.replicate (m - n1.length) 0))) (fun iv _ => m - (intOf iv).toNat)
  case atStart =>
    refine ⟨0, [], L, G, Nat.zero_le _, rfl, rfl, rfl, HF.out.below B1.out, Fr.of_below B1.out, fun h => by have := HF.out.st2.2.2.2.2.2.2.1 _ h; omega, ?_⟩
    simpa using K1.out
  case round =>
    obtain ⟨i, n1, L1, G1, hi, rfl, hl1, hpl, hfo, hfr, hng, hkn⟩ := hrel
    obtain ⟨wo, rfl⟩ : ∃ wo, wo = wr := ⟨wr, rfl⟩
    have hsr : w.heap.size + 1 < wo.heap.size := hkn.lt
    have HP := Lib.hid hpl
    have HFO := Lib.hid hfo
    have HFR := Lib.hid hfr
    have HKN := Lib.hid hkn
    have HNG := Lib.hid hng
    have HL1 := Lib.hid hl1
    obtain ⟨g', o', hA', hgl, hcw⟩ := HK.out G1 wo hfr (by omega)
    obtain ⟨rfl, rfl⟩ : g = g' ∧ o = o' := by simpa using hA'
    have HCW := Lib.hid hcw
    clear hcw hA'
    clear hpl hfo hfr hkn hng hl1
    by_cases hlt : i < m
    · have d1 : decide ((i : Int) < (m : Int)) = true := by rw [decide_eq_true_iff]; omega
      obtain ⟨A', c', k1, k2, k3⟩ := HCW.out i hlt
      obtain ⟨l1, l2, l3, l4⟩ := HND.out i hlt
      obtain ⟨n1', L1', r, L2, p1, p2, p3, p4, p5⟩ := HAT.out i hlt
      have hqq := HP.out.symm.trans p1
      simp only [Option.some.injEq, Prod.mk.injEq] at hqq
      obtain ⟨rfl, rfl⟩ := hqq
      have c1 : wo.cell? ⟨g, o + i * 2, none⟩ = some (.int .i64 (lv i)) := k1
      have c2 : wo.cell? ⟨g, o + i * 2 + 1, none⟩ = some (.slice A' (nx i).length c') := k2
      have hel := k3
      generalize hE : nx i = e at c2 hel l3 l4 p3
      generalize hV : lv i = l at c1 l1 l2 l4 p3
      have he8 : e.length ≤ 8 := by omega
      have HEL := Lib.hid hel
      have HL4 := Lib.hid l4
      have P3 := Lib.hid p3
      have P4 := Lib.hid p4
      clear k1 k2 k3 hel l4 p1 p2 p3 p4 p5 hE hV
      go_wp2
      go_loopw [29] (fun jv w2 => ∃ (j : Nat), j ≤ e.length ∧ jv = .int .i64 (j : Int) ∧ Blk w2 wo.heap.size 44 #[.int .i64 l, .slice A' e.length c'] ∧ Blk w2 (wo.heap.size + 1) 90 (nodC (pn l n1 e j)).toArray ∧ Below wo.heap.size wo w2) (fun jv _ => e.length - (intOf jv).toNat)
      case atStart =>
        have Z1 := (Blk.new wo 44 #[.int .i64 l, .slice A' e.length c']).alloc (.cells #[.int .i64 l, .int .i32 0, .int .i32 0, .int .i32 0, .int .i32 0, .int .i32 0, .int .i32 0, .int .i32 0, .int .i32 0] 90)
        have Z2 := Blk.new (wo.alloc (.cells #[.int .i64 l, .slice A' e.length c'] 44)) 90 #[.int .i64 l, .int .i32 0, .int .i32 0, .int .i32 0, .int .i32 0, .int .i32 0, .int .i32 0, .int .i32 0, .int .i32 0]
        simp only [World.size_alloc] at Z2
        exact ⟨0, Nat.zero_le _, rfl, Z1, Z2, ((Below.refl _ _).alloc (Nat.le_refl _) _).alloc (by simp) _⟩
      case round =>
        obtain ⟨j, hj, rfl, hz1, hz2, hb2⟩ := hrel
        have HZ1 := Lib.hid hz1
        have HZ2 := Lib.hid hz2
        have HB2 := Lib.hid hb2
        have hsz2 : wo.heap.size + 1 < wr.heap.size := hz2.lt
        clear hz1 hz2 hb2
        by_cases hje : j < e.length
        · have d2 : decide ((j : Int) < st) = true := by rw [decide_eq_true_iff]; omega
          obtain ⟨a1, a2, a3⟩ := HL4.out j hje
          obtain ⟨ad, e1, hadl, hcel⟩ := il_at (HEL.out) hje
          subst e1
          have hcel2 : wr.cell? (ad.add j) = some (.int .i64 (ig e j)) := (HB2.out.cell (p := ad.add j) (by rw [block_of_add]; omega)).trans hcel
          have hpc := pn_cells (l := l) (nums := n1) hje he8
          obtain ⟨x, hx⟩ : ∃ x, (nodC (pn l n1 e j)).toArray[1 + j]? = some x := by
            have hl9 : (nodC (pn l n1 e j)).length = 9 := by simp [nodC, pn_len hj he8]
            have hlt9 : 1 + j < (nodC (pn l n1 e j)).toArray.size := by rw [List.size_toArray, hl9]; omega
            exact ⟨_, Array.getElem?_eq_getElem hlt9⟩
          have hz2c := (HZ2.out.cell (1 + j)).trans hx
          have hz2f := HZ2.out.frozen (1 + j)
          obtain ⟨zl0, zl1, _⟩ := HZ1.out.two
          generalize hK : ig e j = k at hcel2 hcel a1 a2 a3 hpc
          obtain ⟨kn, rfl⟩ := Int.eq_ofNat_of_zero_le a1
          have j0 : (0 : Int) ≤ (j : Int) := by omega
          have j1 : (j : Int) < 8 := by omega
          have k5 : (kn : Int) < 5000 := by
            by_cases q : 1 < l
            · have := (a3 q).1; omega
            · have := a2 (by omega); omega
          have cw : IntKind.i32.wrap (kn : Int) = (kn : Int) := IntWalk.i32_in _ ⟨by omega, by omega⟩
          have HPC := Lib.hid hpc
          clear hpc hx hcel
          by_cases hl1 : 1 < l
          · have hkn := (a3 hl1).1
            have hki : kn < n1.length := by have := HL1.out; omega
            have hd3 : decide (1 < l) = true := by rw [decide_eq_true_iff]; exact hl1
            have KN2 := Lib.hid (HKN.out.below HB2.out hsr)
            have hnc : (wr.setCell ⟨wo.heap.size + 1, 1 + j, none⟩ (.int .i32 (kn : Int))).cell? ⟨w.heap.size + 1, kn, none⟩ = some (.int .i32 (ig n1 kn)) := by
              have := (KN2.out.far (p := ⟨wo.heap.size + 1, 1 + j, none⟩) (by show w.heap.size + 1 ≠ wo.heap.size + 1; omega) (.int .i32 (kn : Int))).cell kn
              rw [this, r32_get (by simp; omega)]
              simp [ig, List.getD, List.getElem?_append_left hki]
            go_wp2
            have Z1 := (HZ1.out.far (p := ⟨wo.heap.size + 1, 1 + j, none⟩) (by show wo.heap.size ≠ wo.heap.size + 1; omega) (.int .i32 (kn : Int))).far (p := ⟨wo.heap.size + 1, 1 + j, none⟩) (by show wo.heap.size ≠ wo.heap.size + 1; omega) (.int .i32 (ig n1 kn))
            have Z2 := (HZ2.out.set_ (1 + j) (.int .i32 (kn : Int))).set_ (1 + j) (.int .i32 (ig n1 kn))
            have hpc := HPC.out
            rw [pv, if_pos hl1, Int.toNat_natCast] at hpc
            rw [Array.setIfInBounds_setIfInBounds, hpc] at Z2
            exact ⟨⟨j + 1, by omega, by go_num, Z1, Z2, (HB2.out.setCell (by show wo.heap.size ≤ wo.heap.size + 1; omega) _).setCell (by show wo.heap.size ≤ wo.heap.size + 1; omega) _⟩, by simp [intOf]; omega⟩
          · have hd3 : decide (1 < l) = false := by rw [decide_eq_false_iff_not]; exact hl1
            go_wp2
            have Z1 := HZ1.out.far (p := ⟨wo.heap.size + 1, 1 + j, none⟩) (by show wo.heap.size ≠ wo.heap.size + 1; omega) (.int .i32 (kn : Int))
            have Z2 := HZ2.out.set_ (1 + j) (.int .i32 (kn : Int))
            have hpc := HPC.out
            rw [pv, if_neg hl1] at hpc
            rw [hpc] at Z2
            exact ⟨⟨j + 1, by omega, by go_num, Z1, Z2, HB2.out.setCell (by show wo.heap.size ≤ wo.heap.size + 1; omega) _⟩, by simp [intOf]; omega⟩
        · obtain rfl : j = e.length := by omega
          have d2 : decide (((e.length : Nat) : Int) < st) = false := by rw [decide_eq_false_iff_not]; omega
          obtain ⟨y0, y1, y2, y3, y4, y5, y6, y7, hpn⟩ := nodV_len9 (pn_len (l := l) (nums := n1) (e := e) (Nat.le_refl _) he8)
          have hpn : pn l n1 e e.length = ⟨l, [y0, y1, y2, y3, y4, y5, y6, y7]⟩ := hpn
          have hz2 := HZ2.out
          rw [hpn] at hz2
          obtain ⟨v0, v1, v2, v3, v4, v5, v6, v7, v8⟩ := Blk.nine (t := 90) (show Blk wr (wo.heap.size + 1) _ #[.int .i64 l, .int .i32 y0, .int .i32 y1, .int .i32 y2, .int .i32 y3, .int .i32 y4, .int .i32 y5, .int .i32 y6, .int .i32 y7] from hz2)
          have hn8 : Nd8 (pn l n1 e e.length) := by
            refine ⟨by show (-9223372036854775808 : Int) ≤ l; omega, by show l < 9223372036854775808; have := hd.1.2; omega, pn_len (Nat.le_refl _) he8, fun x hx => ?_⟩
            have hx : x ∈ (e.take e.length).map (pv l n1) ++ List.replicate (8 - e.length) 0 := hx
            rcases List.mem_append.1 hx with hx | hx
            · rw [List.take_length] at hx
              obtain ⟨k, hk, rfl⟩ := List.mem_map.1 hx
              obtain ⟨j, hj, rfl⟩ := mem_ig hk
              obtain ⟨a1, a2, a3⟩ := HL4.out j hj
              by_cases q : 1 < l
              · obtain ⟨b1, _⟩ := a3 q
                have hlt : (ig e j).toNat < n1.length := by have := HL1.out; omega
                have := (plantF_rng (by omega) q8 HP.out).1 _ (ig_mem hlt)
                simp only [pv, if_pos q]
                omega
              · have := a2 (by omega)
                simp only [pv, if_neg q]
                omega
            · have := List.eq_of_mem_replicate hx
              omega
          have C := add_any (HFO.out.below HB2.out) hn8 P3.out
          rw [hpn, nodV_eight] at C
          have CH := Lib.hid C
          have KN2 := Lib.hid (HKN.out.below HB2.out hsr)
          clear hz2 C hn8
          go_wp2_with (go_at_call 59; (with_reducible refine (CH.out).mono ?_); rintro e w5 ⟨G2, rfl, hf5, hr5⟩; have F5 := Lib.hid hf5; have R5 := Lib.hid hr5; have K5 := Lib.hid (hr5.blk KN2.out HNG.out); have z0 := K5.out.cell i; rw [r32_get (by have := HL1.out; simp; omega)] at z0; have z1 := K5.out.frozen i; clear hf5 hr5)
          have ng2 : ¬ G2 (w.heap.size + 1) := fun h => (R5.out.new _ h).elim HNG.out (fun h => by omega)
          have ZF := F5.out.keep (Fr.set_ (G := fun k => k = w.heap.size + 1) w5 (p := ⟨w.heap.size + 1, i, none⟩) (.int .i32 r) rfl) (fun k hk e => ng2 (e ▸ hk))
          have ZR := (((HFR.out.trans (Fr.of_below (G := G1) (show Below wo.heap.size wo wr from HB2.out))).trans R5.out).set_new (p := ⟨w.heap.size + 1, i, none⟩) (by show w.heap.size ≤ w.heap.size + 1; omega) (.int .i32 r))
          have hl := HL1.out
          have ZK := K5.out.set_ i (.int .i32 r)
          rw [← hl, r32_step (by omega), hl] at ZK
          exact ⟨⟨i + 1, n1 ++ [r], L2, G2, by omega, by go_num, by simp [hl], P4.out, ZF, ZR, ng2, ZK⟩, by simp [intOf]; omega⟩
    · obtain rfl : i = m := by omega
      have d1 : decide ((i : Int) < (i : Int)) = false := by rw [decide_eq_false_iff_not]; omega
      obtain ⟨i', rfl⟩ : ∃ i', i = i' + 1 := ⟨i - 1, by omega⟩
      have hz := HKN.out.cell i'
      rw [r32_get (by have := HL1.out; simp; omega)] at hz
      have e1 : ((i' + 1 : Nat) : Int) - 1 = (i' : Int) := by omega
      have e2 : IntKind.i64.wrap (i' : Int) = (i' : Int) := IntWalk.i64_in _ ⟨by omega, by omega⟩
      go_wp2
      go_ret
      have hqq := HPP.out.symm.trans HP.out
      simp only [Option.some.injEq, Prod.mk.injEq] at hqq
      obtain ⟨rfl, rfl⟩ := hqq
      refine ⟨G1, ret_int ?_, HFO.out, HFR.out⟩
      rw [HL1.out, Nat.sub_self, List.replicate_zero, List.append_nil, Nat.add_sub_cancel]
end Go.Proofs.YthgnjjpkmikokaaDoor
namespace Go.Proofs.YthgnjjpkmikokaaDoor
open Go.RowKit

set_option maxRecDepth 100000 in
set_option maxHeartbeats 16000000 in
theorem map_keep {T U : Tr} {sn : Nat} {tl : List Int} {AT : Option Addr} {cT : Nat} {AH AN : Option Addr} {cH cN : Nat} {w : World} {nums : List Int} {L : List Ndv} {r : Int} {S' : Wk Unit} (hst : T.st = (sn : Int)) (h : TS w AH AN T) (hT : Rt T) (h2 : ∀ i, i < T.m → (T.nx i).length = 2) (hsn : sn = 2) (htl : tl.length = 2) (hta : als (sn : Int) tl = true) (htr : Reads w w.heap.size AT 2 (il tl)) (hel : ∀ i, i < T.m → T.lv i = 1 → (0 ≤ ig (T.nx i) 0 ∧ ig (T.nx i) 0 < 2) ∧ (0 ≤ ig (T.nx i) 1 ∧ ig (T.nx i) 1 < 2))
    (hcap : ∀ g o, AN = some ⟨g, o, none⟩ → ∀ k, k < T.m → ∀ A n c, w.cell? ⟨g, o + (k * 2 + 1), none⟩ = some (.slice A n c) → n ≤ c ∧ c ≤ maxLen)
    (hU : U = ⟨(sn : Int), T.n, T.f, T.m, T.lv, nxC T.lv T.nx 1 (fun l => [ig tl (ig l 0).toNat, ig tl (ig l 1).toNat]) T.m⟩) (hUr : Rt U) (hp : plantF (sn : Int) U.lv U.nx U.m [] = some (nums, L)) (hn : I32 (ig nums (U.m - 1)))
    (hv : visitF sn (elN (sn : Int) L) U.n (ig nums (U.m - 1)) ⟨(), [], []⟩ = some (r, S')) :
    Calls Tryd.prog 17 #[.agg #[.int .i64 (sn : Int), .slice AH T.n cH, .slice AN T.m cN], .slice AT 2 cT] w fun e w' => ∃ AI cI AN' cN', e = .returned (.tuple #[.agg #[.int .i64 (sn : Int), .slice AI T.n cI, .slice AN' S'.out.length cN'], .int .i64 0]) ∧ TS w' AI AN' (trO sn T.n T.f S'.out) ∧ (∀ (H H' : Nat → Prop) (w3 : World), Fr H w' H' w3 → (∀ k, H k → k < w.heap.size) → TS w3 AI AN' (trO sn T.n T.f S'.out)) ∧ Below w.heap.size w w' := by
  have n25 := hT.hd.1.2
  have m1 : 1 ≤ T.m := hT.m1
  have m2 : T.m ≤ 5000 := by have := hT.m2; omega
  have RI := Lib.hid (fun w' (hb : Below w.heap.size w w') => tright_yes AH cH AN cN T w' (h.later hb) hT)
  rw [hst] at RI
  have IS := Lib.hid (fun w' (hb : Below w.heap.size w w') (hg : w'.cell? ⟨w.heap.size, 0, none⟩ = some (.int .i64 (sn : Int))) => containsm_no (cI := cT) 2 (sn : Int) w.heap.size hg (htr.later hb) (by omega) hta)
  have CH := Lib.hid (fun w' (hb : Below w.heap.size w w') (hbox : w'.cell? ⟨w.heap.size + 1, 0, none⟩ = some (.slice AT 2 cT)) (hlt : w.heap.size + 1 < w'.heap.size) => changedMap_any (w := w') (AH := AH) (AN := AN) (n := T.n) (m := T.m) (cH := cH) (cN := cN) (st := (sn : Int)) (level := 1) (ch := fun l => [ig tl (ig l 0).toNat, ig tl (ig l 1).toNat]) (gb := w.heap.size + 1) (h.2.later hb) m1 m2 h2 (fun _ _ => rfl)
    (fun g o e k' hk' A n c hc => by
      obtain ⟨g', o', e', hg', _⟩ := h.2 (by omega)
      rw [e'] at e
      injection e with e
      injection e with e1 e2
      subst e1 e2
      exact hcap g' o' e' k' hk' A n c ((hb.cell (p := ⟨g', _, none⟩) hg').symm.trans hc))
    (fun w'' A c k' hb' hk' hl' hr h3 h4 => map2_any (T.nx k') tl (h2 k' hk') htl (hel k' hk' hl').1 (hel k' hk' hl').2 A AT c cT (w.heap.size + 1) w'' hr ((htr.later hb).later hb') ((hb'.cell (p := ⟨w.heap.size + 1, 0, none⟩) hlt).trans hbox) (Nat.lt_of_lt_of_le hlt hb'.size)))
  subst hU
  have RE := Lib.hid (fun w' AN' c (hq : QReads w' w'.heap.size AH T.n T.f) (hr : NR w' w'.heap.size AN' T.m T.lv (nxC T.lv T.nx 1 (fun l => [ig tl (ig l 0).toNat, ig tl (ig l 1).toNat]) T.m)) =>
    show Calls Tryd.prog 11 #[.agg #[.int .i64 (sn : Int), .slice AH T.n cH, .slice AN' T.m c]] w' fun e w'' => ∃ AI cI AN' cN', e = .returned (.agg #[.int .i64 (sn : Int), .slice AI T.n cI, .slice AN' S'.out.length cN']) ∧ TS w'' AI AN' (trO sn T.n T.f S'.out) ∧ (∀ (H H' : Nat → Prop) (w3 : World), Fr H w'' H' w3 → (∀ k, H k → k < w'.heap.size) → TS w3 AI AN' (trO sn T.n T.f S'.out)) ∧ Below w'.heap.size w' w'' from
    reduce_keep (T := ⟨(sn : Int), T.n, T.f, T.m, T.lv, nxC T.lv T.nx 1 (fun l => [ig tl (ig l 0).toNat, ig tl (ig l 1).toNat]) T.m⟩) (w := w') (AH := AH) (cH := cH) (cN := c) (AN := AN') (sn := sn) rfl ⟨hq, hr⟩ hUr hp hn hv)
  have HQ := Lib.hid (show QReads w w.heap.size AH T.n T.f from h.1)
  have dsn : decide ((2 : Int) = (sn : Int)) = true := by rw [decide_eq_true_iff]; omega
  have dsn2 : ((2 : Int) == (sn : Int)) = true := by rw [hsn]; rfl
  have dsn3 : decide (¬ (2 : Int) = (sn : Int)) = false := by rw [hsn]; rfl
  have dsn4 : ((2 : Int) != (sn : Int)) = false := by rw [hsn]; rfl
  have dsn5 : (2 : Int) = (sn : Int) ↔ True := by rw [hsn]; simp
  have HSN := Lib.hid hsn
  clear h hT hst h2 hcap hUr hp hn hsn htl hta htr hel
  go_enter Tryd.func17, Tryd.ntmps17
  have Z1 := (Below.refl w.heap.size w).alloc (Nat.le_refl _) (.cells #[.int .i64 (sn : Int), .slice AH T.n cH, .slice AN T.m cN] 25)
  have Z2 := Z1.alloc Z1.size (.cells #[.slice AT 2 cT] 26)
  have Z3 := Lib.hid (Z2.alloc Z2.size (.cells #[.int .i64 0, .slice none 0 0, .slice none 0 0] 25))
  have KT := Lib.hid (((Blk.new w 25 #[.int .i64 (sn : Int), .slice AH T.n cH, .slice AN T.m cN]).alloc (.cells #[.slice AT 2 cT] 26)).alloc (.cells #[.int .i64 0, .slice none 0 0, .slice none 0 0] 25))
  have KS := (Blk.new (w.alloc (.cells #[.int .i64 (sn : Int), .slice AH T.n cH, .slice AN T.m cN] 25)) 26 #[.slice AT 2 cT]).alloc (.cells #[.int .i64 0, .slice none 0 0, .slice none 0 0] 25)
  have KR := Blk.new ((w.alloc (.cells #[.int .i64 (sn : Int), .slice AH T.n cH, .slice AN T.m cN] 25)).alloc (.cells #[.slice AT 2 cT] 26)) 25 #[.int .i64 0, .slice none 0 0, .slice none 0 0]
  simp only [World.size_alloc] at KS KR
  have KS := Lib.hid KS
  have KR := Lib.hid KR
  clear Z1 Z2
  obtain ⟨t0, t1, t2, t3⟩ := KT.out.three
  obtain ⟨x0, x1, x2⟩ := KS.out.one
  go_wp2_with (first
    | (go_at_call 21; (with_reducible refine (RI.out _ Z3.out).mono ?_); rintro e w1 ⟨rfl, hb⟩; have B1 := Lib.hid (Z3.out.trans (hb.mono Z3.out.size)); have KT1 := Lib.hid (KT.out.below hb KT.out.lt); have KS1 := Lib.hid (KS.out.below hb KS.out.lt); have KR1 := Lib.hid (KR.out.below hb KR.out.lt); clear hb; obtain ⟨u0, u1, u2, u3⟩ := KT1.out.three; obtain ⟨v0, v1, v2⟩ := KS1.out.one)
    | (go_at_call 33; (with_reducible refine (IS.out _ B1.out u0).mono ?_); rintro e w2 ⟨rfl, rfl⟩)
    | (go_at_call 42; (with_reducible refine (CH.out _ B1.out v0 v2).mono ?_); rintro e w3 ⟨g, c, rfl, hnr, hb⟩; have N3 := Lib.hid hnr; have B3 := Lib.hid (B1.out.trans (hb.mono B1.out.size)); have KR3 := Lib.hid (KR1.out.below hb KR1.out.lt); clear hb hnr)
    | (go_at_call 11; (with_reducible refine (RE.out _ _ c (HQ.out.later B3.out) N3.out).mono ?_); rintro e w4 ⟨AI, cI, AN', cN', rfl, hts, hkp, hb⟩; have HKP := Lib.hid hkp; have SZ := Lib.hid KR3.out.lt; have B4 := Lib.hid (B3.out.trans (hb.mono B3.out.size)); have KR4 := Lib.hid (KR3.out.below hb KR3.out.lt); obtain ⟨z0, z1, z2, z3, z4, z5, z6⟩ := KR4.out.three6; clear hb hts hkp))
  have FZ := set3_fr w4 (w.heap.size + 1 + 1) (.int .i64 (sn : Int)) (.slice AI T.n cI) (.slice AN' S'.out.length cN')
  have KZ : Blk (((w4.setCell ⟨w.heap.size + 1 + 1, 0, none⟩ (.int .i64 (sn : Int))).setCell ⟨w.heap.size + 1 + 1, 1, none⟩ (.slice AI T.n cI)).setCell ⟨w.heap.size + 1 + 1, 2, none⟩ (.slice AN' S'.out.length cN')) (w.heap.size + 1 + 1) 25 #[.int .i64 (sn : Int), .slice AI T.n cI, .slice AN' S'.out.length cN'] := by simpa using ((KR4.out.set_ 0 (.int .i64 (sn : Int))).set_ 1 (.slice AI T.n cI)).set_ 2 (.slice AN' S'.out.length cN')
  obtain ⟨y0, y1, y2, y3⟩ := KZ.three
  exact bodyPost_ret (v := .tuple #[.agg #[.int .i64 (sn : Int), .slice AI T.n cI, .slice AN' S'.out.length cN'], .int .i64 0]) (by simp [results, Tryd.results17, go_sem, y0, y1, y2]) rfl ⟨AI, cI, AN', cN', rfl, HKP.out _ _ _ FZ (fun k hk => by have := SZ.out; omega), fun H H' w5 hf hH => HKP.out (fun k => k = w.heap.size + 1 + 1 ∨ k < w.heap.size) (fun k => k = w.heap.size + 1 + 1 ∨ k < w.heap.size ∨ H' k) w5 ((FZ.weak (H := fun k => k = w.heap.size + 1 + 1 ∨ k < w.heap.size) (H' := fun k => k = w.heap.size + 1 + 1 ∨ k < w.heap.size) (fun k hk => .inl hk) (fun k hk => .inl hk)).trans (hf.weak (H := fun k => k = w.heap.size + 1 + 1 ∨ k < w.heap.size) (fun k hk => .inr (hH k hk)) (fun k hk => hk.elim (fun h => .inl (.inl h)) (fun h => h.elim (fun h => .inl (.inr h)) (fun h => (hf.new k h).elim (fun h => .inl (.inr (hH k h))) .inr))))) (fun k hk => by have := SZ.out; omega), B4.out.trans (FZ.below (fun k hk => by omega) B4.out.size)⟩
end Go.Proofs.YthgnjjpkmikokaaDoor
namespace Go.Proofs.YthgnjjpkmikokaaDoor
open Go.RowKit

set_option maxRecDepth 100000 in
theorem index32_at {w : World} {g n c k : Nat} {l : List Int} {x : Int} (h : Blk w g 21 (r32 l)) (hn : l.length = n) (hn2 : n ≤ 100000) (hk : k < n) (hx : ig l k = x) (hlt : ∀ i, i < k → ig l i ≠ x) :
    Calls Tryd.prog 71 #[.slice (some ⟨g, 0, none⟩) n c, .int .i32 x] w fun e w' => e = .returned (.int .i64 (k : Int)) ∧ w = w' := by
  have H := Lib.hid h
  have HL := Lib.hid hlt
  have HN := Lib.hid hn
  have HX := Lib.hid hx
  clear h hlt hn hx
  go_enter Tryd.func71, Tryd.ntmps71
  go_wp2
  go_loop [8] (fun iv => ∃ j : Nat, j ≤ k ∧ iv = .int .i64 (j : Int)) (fun iv => n - (intOf iv).toNat)
  case atStart => exact ⟨0, Nat.zero_le _, rfl⟩
  case round =>
    obtain ⟨j, hj, rfl⟩ := hrel
    have hc := (H.out.cell j).trans (r32_get (by rw [HN.out]; omega))
    by_cases e : j = k
    · subst e
      rw [HX.out] at hc
      go_wp2
      go_ret
      exact ⟨rfl, rfl⟩
    · have hne := HL.out j (by omega)
      generalize ig l j = y at hc hne
      have d1 : (x == y) = false := by simp; exact fun h => hne h.symm
      clear hne
      go_wp2
      go_round
      case rel => exact ⟨j + 1, by omega, by go_num⟩
      case measure => simp [intOf]; omega

/-- the greatest of the first k + 1 -/
def mxL (l : List Int) : Nat → Int
  | 0 => ig l 0
  | k + 1 => max (mxL l k) (ig l (k + 1))
set_option maxRecDepth 100000 in
theorem max_any {w : World} {g n c : Nat} {l : List Int} (h : Blk w g 3 (il l).toArray) (hn : l.length = n + 1) (hn2 : n ≤ 100000) :
    Calls Tryd.prog 72 #[.slice (some ⟨g, 0, none⟩) (n + 1) c] w fun e w' => e = .returned (.int .i64 (mxL l n)) ∧ w = w' := by
  have H := Lib.hid h
  have HN := Lib.hid hn
  have c0 := (h.cell 0).trans (il_get (l := l) (by omega))
  have HM := Lib.hid (show mxL l 0 = ig l 0 from rfl)
  generalize hx : ig l 0 = x0 at c0 HM
  clear h hn hx
  have d0 : decide (((n + 1 : Nat) : Int) < 1) = false := by rw [decide_eq_false_iff_not]; omega
  go_enter Tryd.func72, Tryd.ntmps72
  go_wp2
  go_loop [3, 4] (fun mv iv => ∃ j : Nat, j ≤ n ∧ iv = .int .i64 ((j + 1 : Nat) : Int) ∧ mv = .int .i64 (mxL l j)) (fun _ iv => n + 1 - (intOf iv).toNat)
  case atStart => exact ⟨0, Nat.zero_le _, rfl, by rw [HM.out]⟩
  case round =>
    obtain ⟨j, hj, rfl, rfl⟩ := hrel
    by_cases e : j < n
    · have hc := (H.out.cell (j + 1)).trans (il_get (l := l) (by rw [HN.out]; omega))
      have hm : ∀ (w : World) (ts : Array TypeId) (t : TypeId), (Builtin.max_ ts t #[.int .i64 (mxL l j), .int .i64 (ig l (j + 1))]).run Tryd.prog w = .ok (.int .i64 (mxL l (j + 1))) w := fun w ts t => run_max2 w ts t .i64 _ _
      have HE := Lib.hid (show mxL l (j + 1) = mxL l (j + 1) from rfl)
      obtain ⟨y, hy⟩ : ∃ y, y = mxL l (j + 1) := ⟨_, rfl⟩
      rw [← hy] at hm
      have HY := Lib.hid hy
      generalize ig l (j + 1) = z at hc hm
      obtain ⟨u, hu⟩ : ∃ u, u = mxL l j := ⟨_, rfl⟩
      rw [← hu] at hm ⊢
      clear hy hu HE
      have d1 : decide (((j + 1 : Nat) : Int) < ((n + 1 : Nat) : Int)) = true := by rw [decide_eq_true_iff]; omega
      go_wp2
      go_round
      case rel => exact ⟨j + 1, by omega, by go_num, by rw [HY.out]⟩
      case measure => simp [intOf]; omega
    · obtain rfl : j = n := by omega
      have d1 : decide (((j + 1 : Nat) : Int) < ((j + 1 : Nat) : Int)) = false := by rw [decide_eq_false_iff_not]; omega
      go_wp2
      go_ret
      exact ⟨rfl, rfl⟩

/-- how many nodes each level has, of the first j -/
def szF (n : Nat) (lv : Nat → Int) : Nat → List Int
  | 0 => List.replicate n 0
  | j + 1 => (szF n lv j).set (lv j - 1).toNat (ig (szF n lv j) (lv j - 1).toNat + 1)
theorem szF_len (n : Nat) (lv : Nat → Int) (j : Nat) : (szF n lv j).length = n := by
  induction j with
  | zero => simp [szF]
  | succ j ih => simp [szF, ih]
theorem szF_bd (n : Nat) (lv : Nat → Int) (j : Nat) : ∀ x ∈ szF n lv j, 0 ≤ x ∧ x ≤ (j : Int) := by
  induction j with
  | zero => intro x hx; have := List.eq_of_mem_replicate hx; omega
  | succ j ih =>
    intro x hx
    rcases List.mem_or_eq_of_mem_set hx with hx | hx
    · have := ih x hx; omega
    · subst hx
      by_cases h : (lv j - 1).toNat < (szF n lv j).length
      · have := ih _ (ig_mem h); omega
      · have e : ig (szF n lv j) (lv j - 1).toNat = 0 := by unfold ig List.getD; rw [List.getElem?_eq_none (Nat.le_of_not_lt h)]; rfl
        rw [e]; omega
theorem il_set {l : List Int} {i : Nat} {x : Int} : (il l).toArray.setIfInBounds i (.int .i64 x) = (il (l.set i x)).toArray := by
  simp [il, List.map_set]
set_option maxRecDepth 100000 in
set_option maxHeartbeats 4000000 in
theorem tsize_any (AH AN : Option Addr) (cH cN : Nat) (T : Tr) (w : World) (h : TS w AH AN T) (hT : Rt T) (hn : 2 ≤ T.n) (hn8 : T.n ≤ 8) :
    Calls Tryd.prog 73 #[.agg #[.int .i64 T.st, .slice AH T.n cH, .slice AN T.m cN]] w fun e w' => ∃ g, e = .returned (.slice (some ⟨g, 0, none⟩) T.n T.n) ∧ Blk w' g 3 (il (szF T.n T.lv T.m)).toArray ∧ Below w.heap.size w w' := by
  have RI := Lib.hid (fun w' (hb : Below w.heap.size w w') => tright_yes AH cH AN cN T w' (h.later hb) hT)
  have HN := Lib.hid (fun w' (hb : Below w.heap.size w w') => h.2.below hb)
  obtain ⟨S1, S2, hd, M1, M2, nd, top⟩ := hT
  have ND := Lib.hid nd
  clear h nd top hd
  obtain ⟨st, n, f, m, lv, nx⟩ := T
  simp only at *
  have mk := mk_zs hn hn8
  have K1 := Blk.new w 25 #[.int .i64 st, .slice AH n cH, .slice AN m cN]
  have B1 := (Below.refl w.heap.size w).alloc (Nat.le_refl _) (.cells #[.int .i64 st, .slice AH n cH, .slice AN m cN] 25)
  go_enter Tryd.func73, Tryd.ntmps73
  go_wp2_with fail
  generalize w.alloc (.cells #[.int .i64 st, .slice AH n cH, .slice AN m cN] 25) = w0 at *
  obtain ⟨a0, a1, a2, a3⟩ := K1.three
  have B1 := Lib.hid B1
  have K1 := Lib.hid K1
  go_upto_region 4 with (go_at_call 21; (with_reducible refine (RI.out _ B1.out).mono ?_); rintro e w1 ⟨rfl, hb⟩; have B2 := Lib.hid (B1.out.trans (hb.mono B1.out.size)); have K2 := Lib.hid (K1.out.below hb K1.out.lt); obtain ⟨b0, b1, b2, b3⟩ := K2.out.three; clear hb)
  have G3 := Lib.hid (Blk.new w1 3 (zs n))
  have K3 := Lib.hid (K2.out.alloc (.cells (zs n) 3))
  have B3 := Lib.hid (B2.out.alloc B2.out.size (.cells (zs n) 3))
  have s1 := B2.out.size
  generalize w1.alloc (.cells (zs n) 3) = w2 at *
  have hwg : w.heap.size ≤ w1.heap.size := s1
  generalize w1.heap.size = gs at *
  clear a0 a1 a2 a3 b0 b1 b2 b3 K1 K2 B1 B2 mk RI
  obtain ⟨b0, b1, b2, b3⟩ := K3.out.three
  go_wp2
  go_loopw [16] (fun iv wr => ∃ (j : Nat), j ≤ m ∧ iv = .int .i64 (j : Int) ∧ Blk wr gs 3 (il (szF n lv j)).toArray ∧ Below w.heap.size w wr) (fun iv _ => m - (intOf iv).toNat)
  case atStart => exact ⟨0, by omega, rfl, by
    have := G3.out
    rw [show zs n = (il (szF n lv 0)).toArray by simp [zs, il, szF]] at this
    exact this, B3.out⟩
  case round =>
    obtain ⟨j, hj, rfl, hG, hbel⟩ := hrel
    have HG := Lib.hid hG
    have HB := Lib.hid hbel
    clear hG hbel b0 b1 b2 b3
    by_cases hlt : j < m
    · have d1 : decide ((j : Int) < (m : Int)) = true := by rw [decide_eq_true_iff]; omega
      obtain ⟨g1, o1, rfl, hb1, hc⟩ := HN.out _ HB.out (by omega)
      obtain ⟨A', c', h1, h2, -⟩ := hc j hlt
      obtain ⟨l1, l2, _, _⟩ := ND.out j hlt
      have hgs : gs < wr.heap.size := HG.out.lt
      have hlen := szF_len n lv j
      have hst : szF n lv (j + 1) = (szF n lv j).set (lv j - 1).toNat (ig (szF n lv j) (lv j - 1).toNat + 1) := rfl
      have HST := Lib.hid hst
      clear hst
      have hbd := szF_bd n lv j
      generalize lv j = l at h1 l1 l2 HST
      generalize (nx j).length = q at h2
      obtain ⟨i, hi⟩ : ∃ i : Nat, l = (i : Int) + 1 := ⟨(l - 1).toNat, by omega⟩
      subst hi
      have e1 : ((i : Int) + 1 - 1).toNat = i := by omega
      rw [e1] at HST
      have hil : i < (szF n lv j).length := by omega
      have hb := hbd _ (ig_mem hil)
      have G5 := Lib.hid (HG.out.alloc (.cells #[.int .i64 ((i : Int) + 1), .slice A' q c'] 44))
      have B5 := Lib.hid (HB.out.alloc HB.out.size (.cells #[.int .i64 ((i : Int) + 1), .slice A' q c'] 44))
      have k0 := (G5.out.cell i).trans (il_get hil)
      have k1 := G5.out.frozen i
      generalize hv : ig (szF n lv j) i = v at k0 hb HST
      have cw1 : IntKind.i64.wrap ((i : Int) + 1 - 1) = (i : Int) := by rw [IntWalk.i64_in _ ⟨by omega, by omega⟩]; omega
      have cw2 : IntKind.i64.wrap (v + 1) = v + 1 := IntWalk.i64_in _ ⟨by omega, by omega⟩
      have e2 : (i : Int) + 1 - 1 = (i : Int) := by omega
      clear hc hbd
      go_wp2
      go_roundw
      case rel => exact ⟨j + 1, by omega, by go_num, by
        rw [HST.out, ← il_set]
        exact (HG.out.set_ i (.int .i64 (v + 1))).alloc _, (HB.out.setCell (p := ⟨gs, i, none⟩) hwg (.int .i64 (v + 1))).alloc (by simp [World.setCell]; exact HB.out.size) _⟩
      case measure => simp [intOf]; omega
    · obtain rfl : j = m := by omega
      have d1 : decide ((j : Int) < (j : Int)) = false := by rw [decide_eq_false_iff_not]; omega
      go_wp2
      go_ret
      exact ⟨gs, rfl, HG.out, HB.out⟩
end Go.Proofs.YthgnjjpkmikokaaDoor
namespace Go.Proofs.YthgnjjpkmikokaaDoor
open Go.RowKit

/-- the memory of choose -/
def Cz (w : World) (G : Nat → Prop) (fb sn g8 g9 b1 : Nat) (tc : Array Value) (wr : World) (L : List Ndv) (rs fs : List Int) : Prop :=
  ∃ Gj, Fo wr fb Gj (sn : Int) L ∧ Fr G w Gj wr ∧ Blk wr g8 21 (r32 rs) ∧ Blk wr g9 3 (il fs).toArray ∧ Blk wr b1 25 tc ∧ ¬ Gj g8 ∧ ¬ Gj g9 ∧ ¬ Gj b1
section
variable {w wr w' : World} {G : Nat → Prop} {fb sn g8 g9 b1 : Nat} {tc : Array Value} {L : List Ndv} {rs fs : List Int}
theorem Cz.below (h : Cz w G fb sn g8 g9 b1 tc wr L rs fs) (hb : Below wr.heap.size wr w') : Cz w G fb sn g8 g9 b1 tc w' L rs fs := by
  obtain ⟨Gj, h1, h2, h3, h4, h5, h6, h7, h8⟩ := h
  exact ⟨Gj, h1.below hb, h2.trans (Fr.of_below hb), h3.below hb h3.lt, h4.below hb h4.lt, h5.below hb h5.lt, h6, h7, h8⟩
theorem Cz.forest (h : Cz w G fb sn g8 g9 b1 tc wr L rs fs) : ∃ Gj, Fo wr fb Gj (sn : Int) L ∧ Fr G w Gj wr ∧ ∀ w' G' L', Fo w' fb G' (sn : Int) L' → Fr Gj wr G' w' → Cz w G fb sn g8 g9 b1 tc w' L' rs fs := by
  obtain ⟨Gj, h1, h2, h3, h4, h5, h6, h7, h8⟩ := h
  refine ⟨Gj, h1, h2, fun w' G' L' hf hr => ⟨G', hf, h2.trans hr, hr.blk h3 h6, hr.blk h4 h7, hr.blk h5 h8, fun hk => ?_, fun hk => ?_, fun hk => ?_⟩⟩
  · rcases hr.new _ hk with q | q
    · exact h6 q
    · have := h3.lt; omega
  · rcases hr.new _ hk with q | q
    · exact h7 q
    · have := h4.lt; omega
  · rcases hr.new _ hk with q | q
    · exact h8 q
    · have := h5.lt; omega
theorem Fo.far {w : World} {fb : Nat} {G : Nat → Prop} {st : Int} {L : List Ndv} (h : Fo w fb G st L) {p : Addr} (hp : ¬ G p.block) (u : Value) : Fo (w.setCell p u) fb G st L :=
  h.keep (Fr.set_ (G := fun k => k = p.block) w u rfl) (fun k hk e => hp (e ▸ hk))
theorem Cz.set8 (h : Cz w G fb sn g8 g9 b1 tc wr L rs fs) (hl : w.heap.size ≤ g8) (h89 : g8 ≠ g9) (h81 : g8 ≠ b1) {j : Nat} {x : Int} {rs' : List Int} (he : (r32 rs).setIfInBounds j (.int .i32 x) = r32 rs') : Cz w G fb sn g8 g9 b1 tc (wr.setCell ⟨g8, j, none⟩ (.int .i32 x)) L rs' fs := by
  obtain ⟨Gj, h1, h2, h3, h4, h5, h6, h7, h8⟩ := h
  exact ⟨Gj, h1.far (p := ⟨g8, j, none⟩) h6 _, h2.set_new (p := ⟨g8, j, none⟩) hl _, he ▸ h3.set_ j _, h4.far (p := ⟨g8, j, none⟩) (Ne.symm h89) _, h5.far (p := ⟨g8, j, none⟩) (Ne.symm h81) _, h6, h7, h8⟩
theorem Cz.set9 (h : Cz w G fb sn g8 g9 b1 tc wr L rs fs) (hl : w.heap.size ≤ g9) (h89 : g8 ≠ g9) (h91 : g9 ≠ b1) {j : Nat} {x : Int} {fs' : List Int} (he : (il fs).toArray.setIfInBounds j (.int .i64 x) = (il fs').toArray) : Cz w G fb sn g8 g9 b1 tc (wr.setCell ⟨g9, j, none⟩ (.int .i64 x)) L rs fs' := by
  obtain ⟨Gj, h1, h2, h3, h4, h5, h6, h7, h8⟩ := h
  exact ⟨Gj, h1.far (p := ⟨g9, j, none⟩) h7 _, h2.set_new (p := ⟨g9, j, none⟩) hl _, h3.far (p := ⟨g9, j, none⟩) h89 _, he ▸ h4.set_ j _, h5.far (p := ⟨g9, j, none⟩) (Ne.symm h91) _, h6, h7, h8⟩
end
/-- the rows of two, their first j elements laid -/
def two (rt : Nat → Int) (j : Nat) : List Int := [if 0 < j then rt 0 else 0, if 1 < j then rt 1 else 0]
theorem two_len (rt : Nat → Int) (j : Nat) : (two rt j).length = 2 := rfl
theorem two_r {rt : Nat → Int} {j : Nat} (h : j < 2) : (r32 (two rt j)).setIfInBounds j (.int .i32 (rt j)) = r32 (two rt (j + 1)) := by
  obtain rfl | rfl : j = 0 ∨ j = 1 := by omega
  · rfl
  · rfl
theorem two_i {rt : Nat → Int} {j : Nat} (h : j < 2) : (il (two rt j)).toArray.setIfInBounds j (.int .i64 (rt j)) = (il (two rt (j + 1))).toArray := by
  obtain rfl | rfl : j = 0 ∨ j = 1 := by omega
  · rfl
  · rfl
theorem two_at {rt : Nat → Int} {j : Nat} (h : j < 2) : ig (two rt (j + 1)) j = rt j := by
  obtain rfl | rfl : j = 0 ∨ j = 1 := by omega
  · rfl
  · rfl
theorem two_first {rt : Nat → Int} (hne : rt 0 ≠ rt 1) {j : Nat} (h : j < 2) : ∀ i, i < j → ig (two rt (j + 1)) i ≠ rt j := by
  intro i hi
  obtain rfl | rfl : j = 0 ∨ j = 1 := by omega
  · omega
  · obtain rfl : i = 0 := by omega
    exact hne
theorem Cz.at8 {w wr : World} {G : Nat → Prop} {fb sn g8 g9 b1 : Nat} {tc : Array Value} {L : List Ndv} {rt : Nat → Int} {fs : List Int} (h : Cz w G fb sn g8 g9 b1 tc wr L (two rt 2) fs) {s : Nat} (hs : s < 2) : wr.cell? ⟨g8, s, none⟩ = some (.int .i32 (rt s)) := by
  obtain ⟨Gj, h1, h2, h3, h4, h5, h6, h7, h8⟩ := h
  have := (h3.cell s).trans (r32_get (by rw [two_len]; exact hs))
  obtain rfl | rfl : s = 0 ∨ s = 1 := by omega
  · exact this
  · exact this
theorem mk_i32_2 (w : World) : (Instr.makeSlice 88 (.int .i64 2) (.int .i64 2)).run Tryd.prog w = .ok (.slice (some ⟨w.heap.size, 0, none⟩) 2 2) (w.alloc (.cells (r32 [0, 0]) 21)) := mk_i32 (m := 2) (by omega) w
theorem mk_int_2 (w : World) : (Instr.makeSlice 26 (.int .i64 2) (.int .i64 2)).run Tryd.prog w = .ok (.slice (some ⟨w.heap.size, 0, none⟩) 2 2) (w.alloc (.cells (il [0, 0]).toArray 3)) := mk_zs (S := 2) (by omega) (by omega) w
end Go.Proofs.YthgnjjpkmikokaaDoor
