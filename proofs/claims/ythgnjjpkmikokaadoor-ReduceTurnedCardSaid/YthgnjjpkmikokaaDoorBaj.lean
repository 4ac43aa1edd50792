/- The walk of walk. -/
/- The walk of walk, around its visits. -/
/- The walks of nodesOf and newForest. -/
/- The walks of newForest and plant. -/
/- The walk of plant. -/
import Derived.Test.YthgnjjpkmikokaaDoorBai
import Derived.Carry
import Derived.Laws.MakeOwn
namespace Go.Proofs.YthgnjjpkmikokaaDoor
open Go.RowKit

/-- how long the list may become -/
theorem visit_len {σ : Type} {sn : Nat} {el : σ → Int → Nat → Option (List Int × σ)} : ∀ (l : Nat) (n r : Int) (S S' : Wk σ), visitF sn el l n S = some (r, S') → S.out.length ≤ S'.out.length ∧ S'.out.length ≤ max S.out.length (4096 + l)
  | 0, n, r, S, S', h => by
    simp only [visitF, Option.some.injEq, Prod.mk.injEq] at h
    obtain ⟨_, rfl⟩ := h
    omega
  | l + 1, n, r, S, S', h => by
    have row : ∀ (xs : List Int) (t t' : Wk σ) (ys : List Int), rowF (visitF sn el l) xs t = some (ys, t') → t.out.length ≤ t'.out.length ∧ t'.out.length ≤ max t.out.length (4096 + l) := by
      intro xs
      induction xs with
      | nil => intro t t' ys h; simp only [rowF, Option.some.injEq, Prod.mk.injEq] at h; obtain ⟨_, rfl⟩ := h; omega
      | cons x xs ih =>
        intro t t' ys h
        simp only [rowF] at h
        cases hv : visitF sn el l x t with
        | none => rw [hv] at h; cases h
        | some p =>
          obtain ⟨y, t1⟩ := p
          rw [hv] at h
          simp only [Option.bind_some] at h
          cases hr : rowF (visitF sn el l) xs t1 with
          | none => rw [hr] at h; cases h
          | some q =>
            obtain ⟨ys', t2⟩ := q
            rw [hr] at h
            simp only [Option.bind_some, Option.some.injEq, Prod.mk.injEq] at h
            obtain ⟨_, rfl⟩ := h
            have h1 := visit_len l _ _ _ _ hv
            have h2 := ih _ _ _ hr
            omega
    simp only [visitF] at h
    cases hf : S.fin.lookup n with
    | some i =>
      rw [hf] at h
      simp only [Option.some.injEq, Prod.mk.injEq] at h
      obtain ⟨_, rfl⟩ := h
      omega
    | none =>
      rw [hf] at h
      simp only at h
      split at h
      · simp only [Option.some.injEq, Prod.mk.injEq] at h
        obtain ⟨_, rfl⟩ := h
        omega
      · next hc =>
        cases he : el S.s n (l + 1) with
        | none => rw [he] at h; cases h
        | some p =>
          obtain ⟨own, e⟩ := p
          rw [he] at h
          simp only [Option.bind_some] at h
          cases hr : rowF (visitF sn el l) (own.take sn) { S with s := e } with
          | none => rw [hr] at h; cases h
          | some q =>
            obtain ⟨next, S2⟩ := q
            rw [hr] at h
            simp only [Option.bind_some, Option.some.injEq, Prod.mk.injEq] at h
            obtain ⟨_, rfl⟩ := h
            have h1 := row _ _ _ _ hr
            simp only at h1 ⊢
            simp only [List.length_append, List.length_singleton]
            omega
/-- the row of a visit, in length -/
theorem row_len {σ : Type} {sn l : Nat} {el : σ → Int → Nat → Option (List Int × σ)} {xs ys : List Int} {t t' : Wk σ} (h : rowF (visitF sn el l) xs t = some (ys, t')) : t'.out.length ≤ max t.out.length (4096 + l) := by
  induction xs generalizing t ys with
  | nil => simp only [rowF, Option.some.injEq, Prod.mk.injEq] at h; obtain ⟨_, rfl⟩ := h; omega
  | cons x xs ih =>
    simp only [rowF] at h
    cases hv : visitF sn el l x t with
    | none => rw [hv] at h; cases h
    | some p =>
      obtain ⟨y, t1⟩ := p
      rw [hv] at h
      simp only [Option.bind_some] at h
      cases hr : rowF (visitF sn el l) xs t1 with
      | none => rw [hr] at h; cases h
      | some q =>
        obtain ⟨ys', t2⟩ := q
        rw [hr] at h
        simp only [Option.bind_some, Option.some.injEq, Prod.mk.injEq] at h
        obtain ⟨_, rfl⟩ := h
        have h1 := visit_len l _ _ _ _ hv
        have h2 := ih hr
        omega
/-- the closure that visits -/
@[reducible] def visV (xf xn xp xe xv : Nat) : Value := .func (.func 80) #[] #[.pointer (some ⟨xf, 0, none⟩), .pointer (some ⟨xn, 0, none⟩), .pointer (some ⟨xp, 0, none⟩), .pointer (some ⟨xe, 0, none⟩), .pointer (some ⟨xv, 0, none⟩)]
theorem visit_any {σ : Type} {sn lm : Nat} {St : World → (Nat → Prop) → σ → Prop} {el : σ → Int → Nat → Option (List Int × σ)} {xf xn xp xe xv mb fb bs : Nat} {gE : FuncId} {cb : Array Value}
    (hlm : lm ≤ 100) (hs1 : 2 ≤ sn) (hs2 : sn ≤ 8) (E : Els sn St el ⟨xf, xn, xp, xe, xv, mb, fb, .func (.func gE) #[] cb, visV xf xn xp xe xv, bs⟩ lm gE cb) (eg : ∀ args w, (callFunc gE args).run Tryd.prog w = .ok (.enter gE args) w) :
    ∀ (l : Nat), l ≤ lm → ∀ (n r : Int) (S S' : Wk σ) (w : World) (T U : Nat → Prop), I32 n → visitF sn el l n S = some (r, S') → Wst (sn : Int) St ⟨xf, xn, xp, xe, xv, mb, fb, .func (.func gE) #[] cb, visV xf xn xp xe xv, bs⟩ w T U S →
      Calls Tryd.prog 80 #[.int .i32 n, .int .i64 (l : Int), .pointer (some ⟨xf, 0, none⟩), .pointer (some ⟨xn, 0, none⟩), .pointer (some ⟨xp, 0, none⟩), .pointer (some ⟨xe, 0, none⟩), .pointer (some ⟨xv, 0, none⟩)] w fun e w' => VisOut (sn : Int) St ⟨xf, xn, xp, xe, xv, mb, fb, .func (.func gE) #[] cb, visV xf xn xp xe xv, bs⟩ w T U r S' e w'
  | 0, _, n, r, S, S', w, T, U, hn, hv, h => by
    simp only [visitF, Option.some.injEq, Prod.mk.injEq] at hv
    obtain ⟨rfl, rfl⟩ := hv
    exact vis_zero (b := ⟨xf, xn, xp, xe, xv, mb, fb, .func (.func gE) #[] cb, visV xf xn xp xe xv, bs⟩) hn h
  | l + 1, hl, n, r, S, S', w, T, U, hn, hv, h => by
    simp only [visitF] at hv
    cases hf : S.fin.lookup n with
    | some i =>
      rw [hf] at hv
      simp only [Option.some.injEq, Prod.mk.injEq] at hv
      obtain ⟨rfl, rfl⟩ := hv
      exact vis_found (b := ⟨xf, xn, xp, xe, xv, mb, fb, .func (.func gE) #[] cb, visV xf xn xp xe xv, bs⟩) (by omega) (by omega) hn h hf
    | none =>
      rw [hf] at hv
      simp only at hv
      split at hv
      · next hc =>
        simp only [Option.some.injEq, Prod.mk.injEq] at hv
        obtain ⟨rfl, rfl⟩ := hv
        exact vis_cut (b := ⟨xf, xn, xp, xe, xv, mb, fb, .func (.func gE) #[] cb, visV xf xn xp xe xv, bs⟩) (by omega) (by omega) hn h hf hc
      · next hc =>
        cases he : el S.s n (l + 1) with
        | none => rw [he] at hv; cases hv
        | some p =>
          obtain ⟨own, e⟩ := p
          rw [he] at hv
          simp only [Option.bind_some] at hv
          cases hr : rowF (visitF sn el l) (own.take sn) { S with s := e } with
          | none => rw [hr] at hv; cases hv
          | some q =>
            obtain ⟨next, S2⟩ := q
            rw [hr] at hv
            simp only [Option.bind_some, Option.some.injEq, Prod.mk.injEq] at hv
            obtain ⟨rfl, rfl⟩ := hv
            have hb := row_len hr
            refine vis_go (gV := 80) (l := l) rfl hl hlm hs1 hs2 E eg (enters_of Tryd.func80 (by kernel_rfl) rfl) ?_ hn h hf (by omega) he hr (by simp only at hb; omega)
            intro n' r' S1 S1' w1 T1 U1 hn' hv' h'
            exact visit_any hlm hs1 hs2 E eg l (by omega) n' r' S1 S1' w1 T1 U1 hn' hv' h'
end Go.Proofs.YthgnjjpkmikokaaDoor
namespace Go.Proofs.YthgnjjpkmikokaaDoor
open Go.RowKit

/-- a list of finished nodes, all of it at base or behind -/
def NL (w : World) (base : Nat) (A : Option Addr) (c : Nat) (out : List (Int × List Int)) : Prop :=
  ∃ xs, w.ownsRow base 44 2 (.slice A out.length c) out.length xs ∧ Inn w (fun k => k < base) xs out.length (lvO out) (nxO out)
theorem NL.nr {w : World} {base : Nat} {A : Option Addr} {c : Nat} {out : List (Int × List Int)} (h : NL w base A c out) : NR w w.heap.size A out.length (lvO out) (nxO out) := fun hj => by
  obtain ⟨xs, h1, h2⟩ := h
  obtain ⟨g, cap, hv1, _, _⟩ := h1.form hj
  injection hv1 with hv1 hv2 hv3
  subst hv1 hv3
  exact NR.of_own h1 h2 hj
theorem NL.keep {w w' : World} {base : Nat} {A : Option Addr} {c : Nat} {out : List (Int × List Int)} {H H' : Nat → Prop} (h : NL w base A c out) (hf : Fr H w H' w') (hd : ∀ k, H k → k < base) : NL w' base A c out := by
  obtain ⟨xs, h1, h2⟩ := h
  exact ⟨xs, hf.row h1 (fun g hg hH => by have := (h1.lt g hg).1; have := hd g hH; omega), h2.far hf.size (fun k hk hn => hf.block k hk (fun hH => hn (hd k hH))) (fun k _ hk => hk)⟩
theorem NL.low {w : World} {base base' : Nat} {A : Option Addr} {c : Nat} {out : List (Int × List Int)} (h : NL w base A c out) (hb : base' ≤ base) : NL w base' A c out := by
  obtain ⟨xs, h1, h2⟩ := h
  exact ⟨xs, own_base h1 hb, h2.sub fun k _ hk => Nat.lt_of_lt_of_le hk hb⟩
theorem run_store_fn {P : Program} {w : World} {a : Addr} {m : Mode} (f : Fn) (ts cb : Array Value) : (store a (.func f ts cb) m).run P w = stored P w a (.func f ts cb) m := run_store P w a _ m rfl
attribute [local go_sem] run_store_fn
set_option maxRecDepth 100000 in
set_option maxHeartbeats 4000000 in
theorem walk_any {σ : Type} {sn lm : Nat} {St : World → (Nat → Prop) → σ → Prop} {el : σ → Int → Nat → Option (List Int × σ)} {fb : Nat} {gE : FuncId} {cb : Array Value} {w : World} {G : Nat → Prop} {s : σ} {l : Nat} {n r : Int} {S' : Wk σ}
    (hlm : lm ≤ 100) (hs1 : 2 ≤ sn) (hs2 : sn ≤ 8) (E : ∀ xf xn xp xe xv mb bs, Els sn St el ⟨xf, xn, xp, xe, xv, mb, fb, .func (.func gE) #[] cb, visV xf xn xp xe xv, bs⟩ lm gE cb) (eg : ∀ args w, (callFunc gE args).run Tryd.prog w = .ok (.enter gE args) w)
    (hl : l ≤ lm) (hn : I32 n) (hv : visitF sn el l n ⟨s, [], []⟩ = some (r, S')) (h : St w G s) :
    Calls Tryd.prog 56 #[.pointer (some ⟨fb, 0, none⟩), .int .i32 n, .int .i64 (l : Int), .func (.func gE) #[] cb] w fun e w' =>
      ∃ A c G', e = .returned (.slice A S'.out.length c) ∧ NL w' w.heap.size A c S'.out ∧ St w' G' S'.s ∧ Fr G w G' w' := by
  have E0 := E 0 0 0 0 0 0 0
  have hlt := E0.lt h
  obtain ⟨w5, hw5⟩ : ∃ w5, w5 = ((((w.alloc (.cells #[.pointer (some ⟨fb, 0, none⟩)] 51)).alloc (.cells #[.func (.func gE) #[] cb] 87)).alloc (.cells #[.slice none 0 0] 23)).alloc (.map #[] 0)).alloc (.cells #[.map (some (w.heap.size + 1 + 1 + 1))] 115) := ⟨_, rfl⟩
  have hs5 : w5.heap.size = w.heap.size + 1 + 1 + 1 + 1 + 1 := by rw [hw5]; simp
  have c5 := (Blk.new w5 116 #[.nilFunc]).one
  rw [hs5, hw5] at c5
  obtain ⟨c50, c51, c52⟩ := c5
  have K1 := Blk.new w 51 #[.pointer (some ⟨fb, 0, none⟩)]
  have K2 := Blk.new (w.alloc (.cells #[.pointer (some ⟨fb, 0, none⟩)] 51)) 87 #[.func (.func gE) #[] cb]
  have K3 := Blk.new ((w.alloc (.cells #[.pointer (some ⟨fb, 0, none⟩)] 51)).alloc (.cells #[.func (.func gE) #[] cb] 87)) 23 #[.slice none 0 0]
  have K4 := MapOf.new Tryd.prog (((w.alloc (.cells #[.pointer (some ⟨fb, 0, none⟩)] 51)).alloc (.cells #[.func (.func gE) #[] cb] 87)).alloc (.cells #[.slice none 0 0] 23)) 21 (α := Int) (β := Int) (fun x => .int .i32 x) (fun x => .int .i64 x)
  have K5 := Blk.new ((((w.alloc (.cells #[.pointer (some ⟨fb, 0, none⟩)] 51)).alloc (.cells #[.func (.func gE) #[] cb] 87)).alloc (.cells #[.slice none 0 0] 23)).alloc (.map #[] 0)) 115 #[.map (some (w.heap.size + 1 + 1 + 1))]
  have K6 := Blk.new w5 116 #[visV (w.heap.size + 1 + 1 + 1 + 1) (w.heap.size + 1 + 1) w.heap.size (w.heap.size + 1) (w.heap.size + 1 + 1 + 1 + 1 + 1)]
  have B6 : Below w.heap.size w (w5.alloc (.cells #[visV (w.heap.size + 1 + 1 + 1 + 1) (w.heap.size + 1 + 1) w.heap.size (w.heap.size + 1) (w.heap.size + 1 + 1 + 1 + 1 + 1)] 116)) := by
    rw [hw5]
    exact ((((((Below.refl _ _).alloc (Nat.le_refl _) _).alloc (by simp) _).alloc (by simp; omega) _).alloc (by simp; omega) _).alloc (by simp; omega) _).alloc (by simp; omega) _
  simp only [World.size_alloc] at K2 K3 K4 K5
  rw [hs5] at K6
  have hW : Wst (sn : Int) St ⟨w.heap.size + 1 + 1 + 1 + 1, w.heap.size + 1 + 1, w.heap.size, w.heap.size + 1, w.heap.size + 1 + 1 + 1 + 1 + 1, w.heap.size + 1 + 1 + 1, fb, .func (.func gE) #[] cb, visV (w.heap.size + 1 + 1 + 1 + 1) (w.heap.size + 1 + 1) w.heap.size (w.heap.size + 1) (w.heap.size + 1 + 1 + 1 + 1 + 1), w.heap.size⟩
      (w5.alloc (.cells #[visV (w.heap.size + 1 + 1 + 1 + 1) (w.heap.size + 1 + 1) w.heap.size (w.heap.size + 1) (w.heap.size + 1 + 1 + 1 + 1 + 1)] 116)) (fun k => (k = w.heap.size + 1 + 1 ∨ k = w.heap.size + 1 + 1 + 1) ∨ G k) (fun k => k < w.heap.size + 6) ⟨s, [], []⟩ := by
    have hsz : (w5.alloc (.cells #[visV (w.heap.size + 1 + 1 + 1 + 1) (w.heap.size + 1 + 1) w.heap.size (w.heap.size + 1) (w.heap.size + 1 + 1 + 1 + 1 + 1)] 116)).heap.size = w.heap.size + 6 := by rw [World.size_alloc, hs5]
    refine ⟨?_, ?_, ?_, K6, ?_, ?_, ?_, by rw [hsz]; show w.heap.size ≤ _; omega, ?_, .inl (.inr rfl), .inl (.inl rfl), G, none, 0, [], E0.keep h (Fr.of_below (G := fun _ => False) B6) (fun _ _ h => h), ?_, ?_, World.ownsRow_nil _ _ _ _, ?_, ?_⟩
    · rw [hw5]; exact K5.alloc _
    · rw [hw5]; exact ((((K1.alloc _).alloc _).alloc _).alloc _).alloc _
    · rw [hw5]; exact (((K2.alloc _).alloc _).alloc _).alloc _
    · intro k hk hT
      rcases hk with rfl | rfl | rfl | rfl <;> rcases hT with (hT | hT) | hT <;> first | (simp only at hT; omega) | (have := hlt _ hT; simp only at this; omega)
    · intro k hk
      rcases hk with (hk | hk) | hk
      · omega
      · omega
      · have := hlt _ hk; omega
    · intro k hk
      rw [hsz]
      exact hk
    · rw [hw5]
      exact (K4.of_block ((Below.heap_alloc _ _ _ (by simp)))).of_block (Below.heap_alloc _ _ _ (by simp))
    · intro k hk
      have := hlt k hk
      exact ⟨.inr hk, by simp only; omega, by simp only; omega, by simp [Value.ownBlock]⟩
    · rw [hw5]; exact (((K3.alloc _).alloc _).alloc _)
    · intro g hg; simp [Value.ownBlock] at hg
    · intro k hk; exact absurd hk (by simp)
  have V := Lib.hid (visit_any hlm hs1 hs2 (E _ _ _ _ _ _ _) eg l hl n r ⟨s, [], []⟩ S' _ _ _ hn hv hW)
  have HB6 := Lib.hid B6
  have HLT := Lib.hid hlt
  have HE := Lib.hid E0
  have HS5 := Lib.hid hs5
  rw [hw5] at V HB6 HS5
  clear K1 K2 K3 K4 K5 K6 hW B6 hlt E0 E h hv hw5 hs5
  have hmm := @run_makeMap Tryd.prog
  go_enter Tryd.func56, Tryd.ntmps56
  go_wp2_with ((with_reducible refine (V.out).mono ?_); rintro e w' ⟨T', rfl, hW', hF'⟩; have HW' := Lib.hid hW'; have HF' := Lib.hid hF'; clear hW' hF'; obtain ⟨G', A, c, xs, a1, a2, a3, a4, a5, a6⟩ := HW'.out.rest; obtain ⟨y0, y1, y2⟩ := a3.one; have A1 := Lib.hid a1; have A2 := Lib.hid a2; have A4 := Lib.hid a4; have A6 := Lib.hid a6; clear a1 a2 a3 a4 a5 a6)
  go_ret
  have hs6 := HB6.out.size
  refine ⟨A, c, G', rfl, ⟨xs, A4.out, A6.out.sub fun k _ hk => .inl (by omega)⟩, A1.out, ?_⟩
  · have hF := (Fr.of_below (G := G) HB6.out)
    have hN := HF'.out.new
    refine ⟨HF'.out.os.trans hF.os, HF'.out.tape.trans hF.tape, HF'.out.output.trans hF.output, Nat.le_trans hF.size HF'.out.size, fun k hk hG => ?_, fun k hk => ?_⟩
    · rw [HF'.out.block k (by simp; omega) (fun h => by
        rcases h with (h | h) | h
        · omega
        · omega
        · exact hG h)]
      exact HB6.out.block k hk
    · rcases hN k (A2.out k hk).1 with ((h | h) | h) | h
      · exact .inr (by omega)
      · exact .inr (by omega)
      · exact .inl h
      · exact .inr (Nat.le_trans hs6 h)
end Go.Proofs.YthgnjjpkmikokaaDoor
namespace Go.Proofs.YthgnjjpkmikokaaDoor
open Go.RowKit

/-- a node's own elements -/
def elN (st : Int) (L : List Ndv) (_ : Unit) (n : Int) (_ : Nat) : Option (List Int × Unit) := (nodeF st L n).map fun nd => (nd.r, ())
/-- the memory that it reads -/
def StN (fb xq : Nat) (st : Int) (L : List Ndv) (w : World) (G : Nat → Prop) (_ : Unit) : Prop :=
  ∃ H, Fo w fb H st L ∧ (∀ k, H k → G k) ∧ Blk w xq 51 #[.pointer (some ⟨fb, 0, none⟩)] ∧ G xq ∧ ∀ k, G k → k < w.heap.size
theorem Fo.st2 {w : World} {fb : Nat} {G : Nat → Prop} {st : Int} {L : List Ndv} (h : Fo w fb G st L) : w.cell? ⟨fb, 0, none⟩ = some (.int .i64 st) ∧ fb < w.heap.size ∧ 2 ≤ st ∧ st ≤ 8 ∧ (∀ n ∈ L, Nd8 n) ∧ G fb ∧ (∀ k, G k → k < w.heap.size) ∧ st + (L.length : Int) ≤ 2147483647 := by
  obtain ⟨A, c, mb, h1, h2, h3, h4, h5, h6, h7, h8, h9, h10, h11⟩ := h
  exact ⟨h1.three.1, h1.lt, h8, h9, h10, h4, h7, h11⟩
theorem nodeF_mem {st : Int} {L : List Ndv} {n : Int} {nd : Ndv} (h : nodeF st L n = some nd) : nd ∈ L := by
  unfold nodeF at h
  split at h
  · exact List.mem_of_getElem? h
  · cases h
theorem Blk.set8 {w : World} {g : Nat} {t : TypeId} {a0 a1 a2 a3 a4 a5 a6 a7 b0 b1 b2 b3 b4 b5 b6 b7 : Value} (h : Blk w g t #[a0, a1, a2, a3, a4, a5, a6, a7]) :
    Blk ((((((((w.setCell ⟨g, 0, none⟩ b0).setCell ⟨g, 1, none⟩ b1).setCell ⟨g, 2, none⟩ b2).setCell ⟨g, 3, none⟩ b3).setCell ⟨g, 4, none⟩ b4).setCell ⟨g, 5, none⟩ b5).setCell ⟨g, 6, none⟩ b6).setCell ⟨g, 7, none⟩ b7) g t #[b0, b1, b2, b3, b4, b5, b6, b7] ∧
    ∀ B, B ≤ g → Below B w ((((((((w.setCell ⟨g, 0, none⟩ b0).setCell ⟨g, 1, none⟩ b1).setCell ⟨g, 2, none⟩ b2).setCell ⟨g, 3, none⟩ b3).setCell ⟨g, 4, none⟩ b4).setCell ⟨g, 5, none⟩ b5).setCell ⟨g, 6, none⟩ b6).setCell ⟨g, 7, none⟩ b7) := by
  refine ⟨by simpa using (((((((h.set_ 0 b0).set_ 1 b1).set_ 2 b2).set_ 3 b3).set_ 4 b4).set_ 5 b5).set_ 6 b6).set_ 7 b7, fun B hB => ?_⟩
  exact ((((((((Below.refl B w).setCell hB _).setCell hB _).setCell hB _).setCell hB _).setCell hB _).setCell hB _).setCell hB _).setCell hB _
theorem Blk.eight8 {w : World} {g : Nat} {t : TypeId} {a b c d e f x y : Value} (h : Blk w g t #[a, b, c, d, e, f, x, y]) : w.cell? ⟨g, 0, none⟩ = some a ∧ w.cell? ⟨g, 1, none⟩ = some b ∧ w.cell? ⟨g, 2, none⟩ = some c ∧ w.cell? ⟨g, 3, none⟩ = some d ∧ w.cell? ⟨g, 4, none⟩ = some e ∧ w.cell? ⟨g, 5, none⟩ = some f ∧ w.cell? ⟨g, 6, none⟩ = some x ∧ w.cell? ⟨g, 7, none⟩ = some y :=
  ⟨by rw [h.cell]; rfl, by rw [h.cell]; rfl, by rw [h.cell]; rfl, by rw [h.cell]; rfl, by rw [h.cell]; rfl, by rw [h.cell]; rfl, by rw [h.cell]; rfl, by rw [h.cell]; rfl⟩
set_option maxRecDepth 100000 in
theorem nof1_any {w : World} {fb xq : Nat} {G : Nat → Prop} {st : Int} {L : List Ndv} {n : Int} {l : Nat} {nd : Ndv} (h : StN fb xq st L w G ()) (hk : nodeF st L n = some nd) :
    Calls Tryd.prog 64 #[.int .i32 n, .int .i64 (l : Int), .pointer (some ⟨xq, 0, none⟩)] w fun e w' => e = .returned (rowV nd.r) ∧ Below w.heap.size w w' := by
  obtain ⟨H, hf, hHG, hb, hx, hG⟩ := h
  have hR8 := (hf.st2.2.2.2.2.1 nd (nodeF_mem hk)).2.2
  have C := Lib.hid (node_any (hf.below ((Below.refl w.heap.size w).alloc (Nat.le_refl _) (.cells #[.int .i32 0, .int .i32 0, .int .i32 0, .int .i32 0, .int .i32 0, .int .i32 0, .int .i32 0, .int .i32 0] 85))) hk)
  obtain ⟨k0, k1, k2⟩ := (hb.alloc (.cells #[.int .i32 0, .int .i32 0, .int .i32 0, .int .i32 0, .int .i32 0, .int .i32 0, .int .i32 0, .int .i32 0] 85)).one
  obtain ⟨lv, rr⟩ := nd
  obtain ⟨x1, x2, x3, x4, x5, x6, x7, x8, rfl⟩ := oct hR8.1
  have B1 := Lib.hid ((Below.refl w.heap.size w).alloc (Nat.le_refl _) (.cells #[.int .i32 0, .int .i32 0, .int .i32 0, .int .i32 0, .int .i32 0, .int .i32 0, .int .i32 0, .int .i32 0] 85))
  have K1 := Lib.hid (Blk.new w 85 #[.int .i32 0, .int .i32 0, .int .i32 0, .int .i32 0, .int .i32 0, .int .i32 0, .int .i32 0, .int .i32 0])
  have hfl : ∀ (w : World), (Instr.field 90 (.agg #[.int .i64 lv, .int .i32 x1, .int .i32 x2, .int .i32 x3, .int .i32 x4, .int .i32 x5, .int .i32 x6, .int .i32 x7, .int .i32 x8]) 1).run Tryd.prog w = .ok (.agg #[.int .i32 x1, .int .i32 x2, .int .i32 x3, .int .i32 x4, .int .i32 x5, .int .i32 x6, .int .i32 x7, .int .i32 x8]) w := fun w => by kernel_rfl
  rw [nodV_eight] at C
  rw [rowV_eight]
  clear hf hb hk hR8
  go_enter Tryd.func64, Tryd.ntmps64
  go_wp2_with (go_at_call 65; (with_reducible refine (C.out).mono ?_); rintro e w2 ⟨rfl, hb2⟩; have B2 := Lib.hid (B1.out.trans (hb2.mono B1.out.size)); have K2 := K1.out.below hb2 K1.out.lt; have z0 := K2.cell 0; have z1 := K2.cell 1; have z2 := K2.cell 2; have z3 := K2.cell 3; have z4 := K2.cell 4; have z5 := K2.cell 5; have z6 := K2.cell 6; have z7 := K2.cell 7; have q0 := K2.frozen 0; have q1 := K2.frozen 1; have q2 := K2.frozen 2; have q3 := K2.frozen 3; have q4 := K2.frozen 4; have q5 := K2.frozen 5; have q6 := K2.frozen 6; have q7 := K2.frozen 7; have KK := Lib.hid K2; clear K2)
  obtain ⟨KF, BF⟩ := KK.out.set8 (b0 := .int .i32 x1) (b1 := .int .i32 x2) (b2 := .int .i32 x3) (b3 := .int .i32 x4) (b4 := .int .i32 x5) (b5 := .int .i32 x6) (b6 := .int .i32 x7) (b7 := .int .i32 x8)
  obtain ⟨y0, y1, y2, y3, y4, y5, y6, y7⟩ := KF.eight8
  exact bodyPost_ret (v := .agg #[.int .i32 x1, .int .i32 x2, .int .i32 x3, .int .i32 x4, .int .i32 x5, .int .i32 x6, .int .i32 x7, .int .i32 x8]) (by simp [results, Tryd.results64, go_sem, y0, y1, y2, y3, y4, y5, y6, y7]) rfl ⟨rfl, B2.out.trans (BF _ (Nat.le_refl _))⟩
theorem StN.els {sn : Nat} {fb xq lm : Nat} {L : List Ndv} (b : WB) (hb : b.fb = fb) : Els sn (StN fb xq (sn : Int) L) (elN (sn : Int) L) b lm 64 #[.pointer (some ⟨xq, 0, none⟩)] where
  keep := fun ⟨H, hf, hHG, hx, hxG, hG⟩ hF hd => ⟨H, hf.keep hF (fun k hk => hd k (hHG k hk)), hHG, hF.blk hx (hd _ hxG), hxG, fun k hk => Nat.lt_of_lt_of_le (hG k hk) hF.size⟩
  lt := fun ⟨H, hf, hHG, hx, hxG, hG⟩ => hG
  sts := fun ⟨H, hf, hHG, hx, hxG, hG⟩ => by rw [hb]; exact ⟨hf.st2.1, hf.st2.2.1⟩
  call := fun w G s s' n l r h1 h2 _ hS he => by
    unfold elN at he
    cases hk : nodeF (sn : Int) L n with
    | none => rw [hk] at he; cases he
    | some nd =>
      rw [hk] at he
      simp only [Option.map_some, Option.some.injEq, Prod.mk.injEq] at he
      obtain ⟨rfl, _⟩ := he
      obtain ⟨H, hf, hHG, hx, hxG, hG⟩ := id hS
      refine ⟨(hf.st2.2.2.2.2.1 nd (nodeF_mem hk)).2.2, (nof1_any (l := l) hS hk).mono fun e w' ⟨e1, e2⟩ => ⟨G, e1, ?_, Fr.of_below e2⟩⟩
      exact ⟨H, hf.below e2, hHG, (Fr.of_below (G := fun _ => False) e2).blk hx (fun h => h), hxG, fun k hk => Nat.lt_of_lt_of_le (hG k hk) e2.size⟩
set_option maxRecDepth 100000 in
/-- the nodes of the reduced tree -/
theorem nodesOf_any {w : World} {fb sn lm l : Nat} {G : Nat → Prop} {L : List Ndv} {n r : Int} {S' : Wk Unit} (hf : Fo w fb G (sn : Int) L) (hl : l ≤ lm) (hlm : lm ≤ 100) (hn : I32 n) (hv : visitF sn (elN (sn : Int) L) l n ⟨(), [], []⟩ = some (r, S')) :
    Calls Tryd.prog 32 #[.pointer (some ⟨fb, 0, none⟩), .int .i32 n, .int .i64 (l : Int)] w fun e w' =>
      ∃ A c G', e = .returned (.slice A S'.out.length c) ∧ NL w' w.heap.size A c S'.out ∧ Fr G w G' w' := by
  obtain ⟨_, _, s1, s2, _, _, hG, _⟩ := hf.st2
  have hS : StN fb w.heap.size (sn : Int) L (w.alloc (.cells #[.pointer (some ⟨fb, 0, none⟩)] 51)) (fun k => G k ∨ k = w.heap.size) () :=
    ⟨G, hf.below ((Below.refl _ _).alloc (Nat.le_refl _) _), fun k hk => .inl hk, Blk.new w _ _, .inr rfl, fun k hk => by
      rcases hk with hk | hk
      · have := hG k hk; simp; omega
      · simp; omega⟩
  have C := Lib.hid (walk_any (cb := #[.pointer (some ⟨w.heap.size, 0, none⟩)]) hlm (by omega) (by omega) (fun xf xn xp xe xv mb bs => StN.els (lm := lm) _ rfl) (enters_of Tryd.func64 (by kernel_rfl) rfl) hl hn hv hS)
  obtain ⟨k0, k1, k2⟩ := (Blk.new w 51 #[.pointer (some ⟨fb, 0, none⟩)]).one
  have F1 := Lib.hid (Fr.alloc G w (.cells #[.pointer (some ⟨fb, 0, none⟩)] 51))
  clear hf hv hS hG
  go_enter Tryd.func32, Tryd.ntmps32
  go_wp2_with (go_at_call 56; (with_reducible refine (C.out).mono ?_); rintro e w2 ⟨A, c, G', rfl, hnr, _, hF⟩; have HN := Lib.hid hnr; have HF := Lib.hid hF; clear hnr hF)
  go_ret
  refine ⟨A, c, G', rfl, HN.out.low (by simp), ⟨HF.out.os.trans F1.out.os, HF.out.tape.trans F1.out.tape, HF.out.output.trans F1.out.output, Nat.le_trans F1.out.size HF.out.size, fun k hk hG => ?_, fun k hk => ?_⟩⟩
  · rw [HF.out.block k (by simp; omega) (fun h => h.elim hG (by omega))]
    exact F1.out.block k hk hG
  · rcases HF.out.new k hk with (h | h) | h
    · exact .inl h
    · exact .inr (by omega)
    · exact .inr (by simp at h; omega)
end Go.Proofs.YthgnjjpkmikokaaDoor
namespace Go.Proofs.YthgnjjpkmikokaaDoor
open Go.RowKit

theorem newForest_any {sn : Nat} {w : World} (h1 : 2 ≤ sn) (h2 : sn ≤ 8) : Calls Tryd.prog 23 #[.int .i64 (sn : Int)] w fun e w' => ∃ fb G, e = .returned (.pointer (some ⟨fb, 0, none⟩)) ∧ Fo w' fb G (sn : Int) [] ∧ (∀ k, G k → w.heap.size ≤ k) ∧ Below w.heap.size w w' := by
  have hmm := @run_makeMap Tryd.prog
  go_enter Tryd.func23, Tryd.ntmps23
  go_wp2
  go_ret
  have K2 := Blk.new (w.alloc (.map #[] 0)) 81 #[.int .i64 (sn : Int), .slice none 0 0, .map (some w.heap.size)]
  have K1 := MapOf.new Tryd.prog w 90 nodV (fun (x : Int) => .int .i32 x)
  simp only [World.size_alloc] at K2
  refine ⟨w.heap.size + 1, fun k => k = w.heap.size ∨ k = w.heap.size + 1, rfl, ⟨none, 0, w.heap.size, K2, World.ownsRow_nil _ _ _ _, ?_, .inr rfl, .inl rfl, ?_, ?_, by omega, by omega, by simp, by simp; omega⟩, ?_, ?_⟩
  · exact K1.of_block (Below.heap_alloc _ _ _ (by simp))
  · intro g hg; simp [Value.ownBlock] at hg
  · intro b hb; simp; omega
  · intro k hk; omega
  · exact ((Below.refl _ _).alloc (Nat.le_refl _) _).alloc (by simp) _

/-- numbers as cells -/
def r32 (l : List Int) : Array Value := (l.map fun x => .int .i32 x).toArray
theorem r32_get {l : List Int} {j : Nat} (h : j < l.length) : (r32 l)[j]? = some (.int .i32 (ig l j)) := row_get h
theorem made_i32 (n : Nat) : madeCells (Value.int .i32 0).cells (n * 1) = r32 (List.replicate n 0) := by
  apply Array.ext
  · simp [madeCells, r32]
  · intro i h1 h2
    simp [madeCells, Value.cells, Nat.mod_one, r32]
theorem Tryd.info_i32 : (Tryd.prog.info? 21).map (fun i => (i.zero, i.size, i.bytes)) = some (some (.int .i32 0), 1, 4) := by kernel_rfl
theorem mk_i32 {m : Nat} (hm : m ≤ 5000) (w : World) : (Instr.makeSlice 88 (.int .i64 (m : Int)) (.int .i64 (m : Int))).run Tryd.prog w = .ok (.slice (some ⟨w.heap.size, 0, none⟩) m m) (w.alloc (.cells (r32 (List.replicate m 0)) 21)) := by
  obtain ⟨i0, hi, hz0, hz1, hz2⟩ := info_parts Tryd.info_i32
  have := run_make (P := Tryd.prog) w 88 21 i0 (.int .i32 0) Tryd.underlying88 hi hz0 .i64 .i64 (m : Int) (m : Int) (by omega) (by omega) (by rw [hz2]; omega) (by omega)
  rw [this, hz1, Int.toNat_natCast, made_i32]
theorem r32_step {ys : List Int} {sn : Nat} (h : ys.length < sn) (y : Int) : (r32 (ys ++ List.replicate (sn - ys.length) 0)).setIfInBounds ys.length (.int .i32 y) = r32 ((ys ++ [y]) ++ List.replicate (sn - (ys ++ [y]).length) 0) := by
  obtain ⟨k, hk⟩ : ∃ k, sn - ys.length = k + 1 := ⟨sn - ys.length - 1, by omega⟩
  have hk2 : sn - (ys ++ [y]).length = k := by simp; omega
  rw [hk, hk2, List.replicate_succ]
  simp [r32]

/-- an element of a planted node -/
def pv (l : Int) (nums : List Int) (k : Int) : Int := if 1 < l then ig nums k.toNat else k
/-- a planted node, its first j elements laid -/
def pn (l : Int) (nums e : List Int) (j : Nat) : Ndv := ⟨l, (e.take j).map (pv l nums) ++ List.replicate (8 - j) 0⟩
def plantF (st : Int) (lv : Nat → Int) (nx : Nat → List Int) : Nat → List Ndv → Option (List Int × List Ndv)
  | 0, L => some ([], L)
  | i + 1, L => (plantF st lv nx i L).bind fun (nums, L1) => (addF st L1 (pn (lv i) nums (nx i) (nx i).length)).bind fun (r, L2) => some (nums ++ [r], L2)
theorem plantF_at {st : Int} {lv : Nat → Int} {nx : Nat → List Int} {L L' : List Ndv} {nums : List Int} : ∀ {m : Nat}, plantF st lv nx m L = some (nums, L') → nums.length = m ∧ ∀ i, i < m → ∃ n1 L1 r L2, plantF st lv nx i L = some (n1, L1) ∧ n1.length = i ∧ addF st L1 (pn (lv i) n1 (nx i) (nx i).length) = some (r, L2) ∧ plantF st lv nx (i + 1) L = some (n1 ++ [r], L2) ∧ n1 = nums.take i := by
  intro m
  induction m generalizing nums L' with
  | zero =>
    intro h
    simp only [plantF, Option.some.injEq, Prod.mk.injEq] at h
    obtain ⟨rfl, _⟩ := h
    exact ⟨rfl, fun i hi => absurd hi (by omega)⟩
  | succ m ih =>
    intro h
    have h0 := h
    simp only [plantF] at h
    cases h1 : plantF st lv nx m L with
    | none => rw [h1] at h; cases h
    | some p =>
      obtain ⟨n1, L1⟩ := p
      rw [h1] at h
      simp only [Option.bind_some] at h
      cases h2 : addF st L1 (pn (lv m) n1 (nx m) (nx m).length) with
      | none => rw [h2] at h; cases h
      | some q =>
        obtain ⟨r, L2⟩ := q
        rw [h2] at h
        simp only [Option.bind_some, Option.some.injEq, Prod.mk.injEq] at h
        obtain ⟨rfl, rfl⟩ := h
        obtain ⟨g1, g2⟩ := ih h1
        refine ⟨by simp [g1], fun i hi => ?_⟩
        by_cases e : i < m
        · obtain ⟨n1', L1', r', L2', a1, a2, a3, a4, a5⟩ := g2 i e
          exact ⟨n1', L1', r', L2', a1, a2, a3, a4, by rw [a5, List.take_append_of_le_length (by omega)]⟩
        · obtain rfl : i = m := by omega
          exact ⟨n1, L1, r, L2, h1, g1, h2, h0, by rw [List.take_append_of_le_length (by omega), List.take_of_length_le (by omega)]⟩
theorem addF_rng {st r : Int} {L L2 : List Ndv} {n : Ndv} (h : addF st L n = some (r, L2)) (h0 : 0 ≤ st) (h1 : st + (L.length : Int) ≤ 2147483647) : st ≤ r ∧ r < 2147483647 ∧ st + (L2.length : Int) ≤ 2147483647 := by
  unfold addF at h
  cases hx : L.idxOf? n with
  | some i =>
    rw [hx] at h
    simp only [Option.some.injEq, Prod.mk.injEq] at h
    obtain ⟨rfl, rfl⟩ := h
    have := (idxOf_lt hx).1
    omega
  | none =>
    rw [hx] at h
    simp only at h
    split at h
    · simp only [Option.some.injEq, Prod.mk.injEq] at h
      obtain ⟨rfl, rfl⟩ := h
      simp; omega
    · cases h
theorem plantF_rng {st : Int} {lv : Nat → Int} {nx : Nat → List Int} {L : List Ndv} (h0 : 0 ≤ st) (h1 : st + (L.length : Int) ≤ 2147483647) : ∀ {m : Nat} {L' : List Ndv} {nums : List Int}, plantF st lv nx m L = some (nums, L') → (∀ x ∈ nums, 0 ≤ x ∧ x < 2147483647) ∧ st + (L'.length : Int) ≤ 2147483647 := by
  intro m
  induction m with
  | zero =>
    intro L' nums h
    simp only [plantF, Option.some.injEq, Prod.mk.injEq] at h
    obtain ⟨rfl, rfl⟩ := h
    exact ⟨by simp, h1⟩
  | succ m ih =>
    intro L' nums h
    simp only [plantF] at h
    cases h2 : plantF st lv nx m L with
    | none => rw [h2] at h; cases h
    | some p =>
      obtain ⟨n1, L1⟩ := p
      rw [h2] at h
      simp only [Option.bind_some] at h
      cases h3 : addF st L1 (pn (lv m) n1 (nx m) (nx m).length) with
      | none => rw [h3] at h; cases h
      | some q =>
        obtain ⟨r, L2⟩ := q
        rw [h3] at h
        simp only [Option.bind_some, Option.some.injEq, Prod.mk.injEq] at h
        obtain ⟨rfl, rfl⟩ := h
        obtain ⟨g1, g2⟩ := ih h2
        obtain ⟨g3, g4, g5⟩ := addF_rng h3 h0 g2
        refine ⟨fun x hx => ?_, g5⟩
        rcases List.mem_append.1 hx with hx | hx
        · exact g1 x hx
        · simp at hx; subst hx; exact ⟨by omega, g4⟩
theorem pn_cells {l : Int} {nums e : List Int} {j : Nat} (hj : j < e.length) (he : e.length ≤ 8) : (nodC (pn l nums e j)).toArray.setIfInBounds (1 + j) (.int .i32 (pv l nums (ig e j))) = (nodC (pn l nums e (j + 1))).toArray := by
  have e1 : e.take (j + 1) = e.take j ++ [ig e j] := by
    rw [List.take_succ_eq_append_getElem hj]
    simp [ig, hj]
  obtain ⟨k, hk⟩ : ∃ k, 8 - j = k + 1 := ⟨8 - j - 1, by omega⟩
  have hk2 : 8 - (j + 1) = k := by omega
  have hl : ((e.take j).map (pv l nums)).length = j := by simp; omega
  generalize hA : (e.take j).map (pv l nums) = A at hl
  simp only [pn, nodC, e1, List.map_append, hA, hk, hk2, List.replicate_succ]
  subst hl
  rw [Nat.add_comm]
  simp [List.set_append]
theorem pn_len {l : Int} {nums e : List Int} {j : Nat} (hj : j ≤ e.length) (he : e.length ≤ 8) : (pn l nums e j).r.length = 8 := by simp [pn]; omega
end Go.Proofs.YthgnjjpkmikokaaDoor
namespace Go.Proofs.YthgnjjpkmikokaaDoor
open Go.RowKit

theorem nodV_len9 {n : Ndv} (h : n.r.length = 8) : ∃ a b c d e f g i, n = ⟨n.lv, [a, b, c, d, e, f, g, i]⟩ := by
  obtain ⟨a, b, c, d, e, f, g, i, hh⟩ := oct h
  obtain ⟨lv, r⟩ := n
  simp only at hh
  subst hh
  exact ⟨a, b, c, d, e, f, g, i, rfl⟩
set_option maxRecDepth 100000 in
set_option maxHeartbeats 8000000 in
theorem plant_any {w : World} {fb : Nat} {G : Nat → Prop} {L L' : List Ndv} {T : Tr} {AH AN : Option Addr} {nh ch cN B : Nat} {nums : List Int} (h : Fo w fb G T.st L) (hT : Rt T) (hN : NR w B AN T.m T.lv T.nx) (hB : B ≤ w.heap.size) (hG : ∀ k, G k → B ≤ k) (hp : plantF T.st T.lv T.nx T.m L = some (nums, L')) :
    Calls Tryd.prog 26 #[.pointer (some ⟨fb, 0, none⟩), .agg #[.int .i64 T.st, .slice AH nh ch, .slice AN T.m cN]] w fun e w' => ∃ G', e = .returned (.int .i32 (ig nums (T.m - 1))) ∧ Fo w' fb G' T.st L' ∧ Fr G w G' w' := by
  obtain ⟨hnl, hat⟩ := plantF_at hp
  obtain ⟨S1, S2, hd, M1, M2, nd, top⟩ := hT
  obtain ⟨g, o, hA, hgB, hcells⟩ := hN (by omega)
  subst hA
  obtain ⟨st, n, f, m, lv, nx⟩ := T
  simp only at *
  have hst := h.st2
  obtain ⟨q1, q2, q3, q4, q5, q6, q7, q8⟩ := hst
  have HF := Lib.hid h
  have HND := Lib.hid nd
  have HAT := Lib.hid hat
  have HC := Lib.hid hcells
  have HG := Lib.hid hG
  have HNL := Lib.hid hnl
  have HPP := Lib.hid hp
  have mz := mk_i32 (m := m) (by omega) (w.alloc (.cells #[.int .i64 st, .slice AH nh ch, .slice (some ⟨g, o, none⟩) m cN] 25))
  simp only [World.size_alloc] at mz
  have B1 := Lib.hid (((Below.refl w.heap.size w).alloc (Nat.le_refl _) (.cells #[.int .i64 st, .slice AH nh ch, .slice (some ⟨g, o, none⟩) m cN] 25)).alloc (by simp) (.cells (r32 (List.replicate m 0)) 21))
  have K1 := Lib.hid (Blk.new (w.alloc (.cells #[.int .i64 st, .slice AH nh ch, .slice (some ⟨g, o, none⟩) m cN] 25)) 21 (r32 (List.replicate m 0)))
  obtain ⟨t0, t1, t2, t3⟩ := (Blk.new w 25 #[.int .i64 st, .slice AH nh ch, .slice (some ⟨g, o, none⟩) m cN]).three
  obtain ⟨u0, u1, u2, u3⟩ := ((Blk.new w 25 #[.int .i64 st, .slice AH nh ch, .slice (some ⟨g, o, none⟩) m cN]).alloc (.cells (r32 (List.replicate m 0)) 21)).three
  simp only [World.size_alloc] at K1
  clear h nd hat hcells hG hnl q7 q5 top hp hN
  go_enter Tryd.func26, Tryd.ntmps26
  go_wp2
  go_loopw [18] (fun iv wr => ∃ (i : Nat) (n1 : List Int) (L1 : List Ndv) (G1 : Nat → Prop), i ≤ m ∧ iv = .int .i64 (i : Int) ∧ n1.length = i ∧ plantF st lv nx i L = some (n1, L1) ∧ Fo wr fb G1 st L1 ∧ Fr G w G1 wr ∧ ¬ G1 (w.heap.size + 1) ∧ Blk wr (w.heap.size + 1) 21 (r32 (n1 ++ List.replicate (m - n1.length) 0))) (fun iv _ => m - (intOf iv).toNat)
  case atStart =>
    refine ⟨0, [], L, G, Nat.zero_le _, rfl, rfl, rfl, HF.out.below B1.out, Fr.of_below B1.out, fun h => by have := HF.out.st2.2.2.2.2.2.2.1 _ h; omega, ?_⟩
    simpa using K1.out
  case round =>
    obtain ⟨i, n1, L1, G1, hi, rfl, hl1, hpl, hfo, hfr, hng, hkn⟩ := hrel
    obtain ⟨wo, rfl⟩ : ∃ wo, wo = wr := ⟨wr, rfl⟩
    have hsr : w.heap.size + 1 < wo.heap.size := hkn.lt
    have HP := Lib.hid hpl
    have HFO := Lib.hid hfo
    have HFR := Lib.hid hfr
    have HKN := Lib.hid hkn
    have HNG := Lib.hid hng
    have HL1 := Lib.hid hl1
    have BB := Lib.hid (hfr.below HG.out hB)
    clear hpl hfo hfr hkn hng hl1
    by_cases hlt : i < m
    · have d1 : decide ((i : Int) < (m : Int)) = true := by rw [decide_eq_true_iff]; omega
      obtain ⟨A', c', k1, k2, k3⟩ := HC.out i hlt
      obtain ⟨l1, l2, l3, l4⟩ := HND.out i hlt
      obtain ⟨n1', L1', r, L2, p1, p2, p3, p4, p5⟩ := HAT.out i hlt
      have hqq := HP.out.symm.trans p1
      simp only [Option.some.injEq, Prod.mk.injEq] at hqq
      obtain ⟨rfl, rfl⟩ := hqq
      have c1 : wo.cell? ⟨g, o + i * 2, none⟩ = some (.int .i64 (lv i)) := (BB.out.cell (p := ⟨g, _, none⟩) hgB).trans k1
      have c2 : wo.cell? ⟨g, o + i * 2 + 1, none⟩ = some (.slice A' (nx i).length c') := (BB.out.cell (p := ⟨g, _, none⟩) hgB).trans k2
      have hel := (k3.below BB.out)
      generalize hE : nx i = e at c2 hel l3 l4 p3
      generalize hV : lv i = l at c1 l1 l2 l4 p3
      have he8 : e.length ≤ 8 := by omega
      have HEL := Lib.hid hel
      have HL4 := Lib.hid l4
      have P3 := Lib.hid p3
      have P4 := Lib.hid p4
      have hgl : g < wo.heap.size := Nat.lt_of_lt_of_le hgB (Nat.le_trans hB HFR.out.size)
      clear k1 k2 k3 hel l4 p1 p2 p3 p4 p5 hE hV
      go_wp2
      go_loopw [29] (fun jv w2 => ∃ (j : Nat), j ≤ e.length ∧ jv = .int .i64 (j : Int) ∧ Blk w2 wo.heap.size 44 #[.int .i64 l, .slice A' e.length c'] ∧ Blk w2 (wo.heap.size + 1) 90 (nodC (pn l n1 e j)).toArray ∧ Below wo.heap.size wo w2) (fun jv _ => e.length - (intOf jv).toNat)
      case atStart =>
        have Z1 := (Blk.new wo 44 #[.int .i64 l, .slice A' e.length c']).alloc (.cells #[.int .i64 l, .int .i32 0, .int .i32 0, .int .i32 0, .int .i32 0, .int .i32 0, .int .i32 0, .int .i32 0, .int .i32 0] 90)
        have Z2 := Blk.new (wo.alloc (.cells #[.int .i64 l, .slice A' e.length c'] 44)) 90 #[.int .i64 l, .int .i32 0, .int .i32 0, .int .i32 0, .int .i32 0, .int .i32 0, .int .i32 0, .int .i32 0, .int .i32 0]
        simp only [World.size_alloc] at Z2
        exact ⟨0, Nat.zero_le _, rfl, Z1, Z2, ((Below.refl _ _).alloc (Nat.le_refl _) _).alloc (by simp) _⟩
      case round =>
        obtain ⟨j, hj, rfl, hz1, hz2, hb2⟩ := hrel
        have HZ1 := Lib.hid hz1
        have HZ2 := Lib.hid hz2
        have HB2 := Lib.hid hb2
        have hsz2 : wo.heap.size + 1 < wr.heap.size := hz2.lt
        clear hz1 hz2 hb2
        by_cases hje : j < e.length
        · have d2 : decide ((j : Int) < st) = true := by rw [decide_eq_true_iff]; omega
          obtain ⟨a1, a2, a3⟩ := HL4.out j hje
          obtain ⟨ad, e1, hadl, hcel⟩ := il_at (HEL.out) hje
          subst e1
          have hcel2 : wr.cell? (ad.add j) = some (.int .i64 (ig e j)) := (HB2.out.cell (p := ad.add j) (by rw [block_of_add]; have := BB.out.size; omega)).trans hcel
          have hpc := pn_cells (l := l) (nums := n1) hje he8
          obtain ⟨x, hx⟩ : ∃ x, (nodC (pn l n1 e j)).toArray[1 + j]? = some x := by
            have hl9 : (nodC (pn l n1 e j)).length = 9 := by simp [nodC, pn_len hj he8]
            have hlt9 : 1 + j < (nodC (pn l n1 e j)).toArray.size := by rw [List.size_toArray, hl9]; omega
            exact ⟨_, Array.getElem?_eq_getElem hlt9⟩
          have hz2c := (HZ2.out.cell (1 + j)).trans hx
          have hz2f := HZ2.out.frozen (1 + j)
          obtain ⟨zl0, zl1, _⟩ := HZ1.out.two
          generalize hK : ig e j = k at hcel2 hcel a1 a2 a3 hpc
          obtain ⟨kn, rfl⟩ := Int.eq_ofNat_of_zero_le a1
          have j0 : (0 : Int) ≤ (j : Int) := by omega
          have j1 : (j : Int) < 8 := by omega
          have k5 : (kn : Int) < 5000 := by
            by_cases q : 1 < l
            · have := (a3 q).1; omega
            · have := a2 (by omega); omega
          have cw : IntKind.i32.wrap (kn : Int) = (kn : Int) := IntWalk.i32_in _ ⟨by omega, by omega⟩
          have HPC := Lib.hid hpc
          clear hpc hx hcel
          by_cases hl1 : 1 < l
          · have hkn := (a3 hl1).1
            have hki : kn < n1.length := by have := HL1.out; omega
            have hd3 : decide (1 < l) = true := by rw [decide_eq_true_iff]; exact hl1
            have KN2 := Lib.hid (HKN.out.below HB2.out hsr)
            have hnc : (wr.setCell ⟨wo.heap.size + 1, 1 + j, none⟩ (.int .i32 (kn : Int))).cell? ⟨w.heap.size + 1, kn, none⟩ = some (.int .i32 (ig n1 kn)) := by
              have := (KN2.out.far (p := ⟨wo.heap.size + 1, 1 + j, none⟩) (by show w.heap.size + 1 ≠ wo.heap.size + 1; omega) (.int .i32 (kn : Int))).cell kn
              rw [this, r32_get (by simp; omega)]
              simp [ig, List.getD, List.getElem?_append_left hki]
            go_wp2
            have Z1 := (HZ1.out.far (p := ⟨wo.heap.size + 1, 1 + j, none⟩) (by show wo.heap.size ≠ wo.heap.size + 1; omega) (.int .i32 (kn : Int))).far (p := ⟨wo.heap.size + 1, 1 + j, none⟩) (by show wo.heap.size ≠ wo.heap.size + 1; omega) (.int .i32 (ig n1 kn))
            have Z2 := (HZ2.out.set_ (1 + j) (.int .i32 (kn : Int))).set_ (1 + j) (.int .i32 (ig n1 kn))
            have hpc := HPC.out
            rw [pv, if_pos hl1, Int.toNat_natCast] at hpc
            rw [Array.setIfInBounds_setIfInBounds, hpc] at Z2
            exact ⟨⟨j + 1, by omega, by go_num, Z1, Z2, (HB2.out.setCell (by show wo.heap.size ≤ wo.heap.size + 1; omega) _).setCell (by show wo.heap.size ≤ wo.heap.size + 1; omega) _⟩, by simp [intOf]; omega⟩
          · have hd3 : decide (1 < l) = false := by rw [decide_eq_false_iff_not]; exact hl1
            go_wp2
            have Z1 := HZ1.out.far (p := ⟨wo.heap.size + 1, 1 + j, none⟩) (by show wo.heap.size ≠ wo.heap.size + 1; omega) (.int .i32 (kn : Int))
            have Z2 := HZ2.out.set_ (1 + j) (.int .i32 (kn : Int))
            have hpc := HPC.out
            rw [pv, if_neg hl1] at hpc
            rw [hpc] at Z2
            exact ⟨⟨j + 1, by omega, by go_num, Z1, Z2, HB2.out.setCell (by show wo.heap.size ≤ wo.heap.size + 1; omega) _⟩, by simp [intOf]; omega⟩
        · obtain rfl : j = e.length := by omega
          have d2 : decide (((e.length : Nat) : Int) < st) = false := by rw [decide_eq_false_iff_not]; omega
          obtain ⟨y0, y1, y2, y3, y4, y5, y6, y7, hpn⟩ := nodV_len9 (pn_len (l := l) (nums := n1) (e := e) (Nat.le_refl _) he8)
          have hpn : pn l n1 e e.length = ⟨l, [y0, y1, y2, y3, y4, y5, y6, y7]⟩ := hpn
          have hz2 := HZ2.out
          rw [hpn] at hz2
          obtain ⟨v0, v1, v2, v3, v4, v5, v6, v7, v8⟩ := Blk.nine (t := 90) (show Blk wr (wo.heap.size + 1) _ #[.int .i64 l, .int .i32 y0, .int .i32 y1, .int .i32 y2, .int .i32 y3, .int .i32 y4, .int .i32 y5, .int .i32 y6, .int .i32 y7] from hz2)
          have hn8 : Nd8 (pn l n1 e e.length) := by
            refine ⟨by show (-9223372036854775808 : Int) ≤ l; omega, by show l < 9223372036854775808; have := hd.1.2; omega, pn_len (Nat.le_refl _) he8, fun x hx => ?_⟩
            have hx : x ∈ (e.take e.length).map (pv l n1) ++ List.replicate (8 - e.length) 0 := hx
            rcases List.mem_append.1 hx with hx | hx
            · rw [List.take_length] at hx
              obtain ⟨k, hk, rfl⟩ := List.mem_map.1 hx
              obtain ⟨j, hj, rfl⟩ := mem_ig hk
              obtain ⟨a1, a2, a3⟩ := HL4.out j hj
              by_cases q : 1 < l
              · obtain ⟨b1, _⟩ := a3 q
                have hlt : (ig e j).toNat < n1.length := by have := HL1.out; omega
                have := (plantF_rng (by omega) q8 HP.out).1 _ (ig_mem hlt)
                simp only [pv, if_pos q]
                omega
              · have := a2 (by omega)
                simp only [pv, if_neg q]
                omega
            · have := List.eq_of_mem_replicate hx
              omega
          have C := add_any (HFO.out.below HB2.out) hn8 P3.out
          rw [hpn, nodV_eight] at C
          have CH := Lib.hid C
          have KN2 := Lib.hid (HKN.out.below HB2.out hsr)
          clear hz2 C hn8
          go_wp2_with (go_at_call 59; (with_reducible refine (CH.out).mono ?_); rintro e w5 ⟨G2, rfl, hf5, hr5⟩; have F5 := Lib.hid hf5; have R5 := Lib.hid hr5; have K5 := Lib.hid (hr5.blk KN2.out HNG.out); have z0 := K5.out.cell i; rw [r32_get (by have := HL1.out; simp; omega)] at z0; have z1 := K5.out.frozen i; clear hf5 hr5)
          have ng2 : ¬ G2 (w.heap.size + 1) := fun h => (R5.out.new _ h).elim HNG.out (fun h => by omega)
          have ZF := F5.out.keep (Fr.set_ (G := fun k => k = w.heap.size + 1) w5 (p := ⟨w.heap.size + 1, i, none⟩) (.int .i32 r) rfl) (fun k hk e => ng2 (e ▸ hk))
          have ZR := (((HFR.out.trans (Fr.of_below (G := G1) (show Below wo.heap.size wo wr from HB2.out))).trans R5.out).set_new (p := ⟨w.heap.size + 1, i, none⟩) (by show w.heap.size ≤ w.heap.size + 1; omega) (.int .i32 r))
          have hl := HL1.out
          have ZK := K5.out.set_ i (.int .i32 r)
          rw [← hl, r32_step (by omega), hl] at ZK
          exact ⟨⟨i + 1, n1 ++ [r], L2, G2, by omega, by go_num, by simp [hl], P4.out, ZF, ZR, ng2, ZK⟩, by simp [intOf]; omega⟩
    · obtain rfl : i = m := by omega
      have d1 : decide ((i : Int) < (i : Int)) = false := by rw [decide_eq_false_iff_not]; omega
      obtain ⟨i', rfl⟩ : ∃ i', i = i' + 1 := ⟨i - 1, by omega⟩
      have hz := HKN.out.cell i'
      rw [r32_get (by have := HL1.out; simp; omega)] at hz
      have e1 : ((i' + 1 : Nat) : Int) - 1 = (i' : Int) := by omega
      have e2 : IntKind.i64.wrap (i' : Int) = (i' : Int) := IntWalk.i64_in _ ⟨by omega, by omega⟩
      go_wp2
      go_ret
      have hqq := HPP.out.symm.trans HP.out
      simp only [Option.some.injEq, Prod.mk.injEq] at hqq
      obtain ⟨rfl, rfl⟩ := hqq
      refine ⟨G1, ret_int ?_, HFO.out, HFR.out⟩
      rw [HL1.out, Nat.sub_self, List.replicate_zero, List.append_nil, Nat.add_sub_cancel]
end Go.Proofs.YthgnjjpkmikokaaDoor
