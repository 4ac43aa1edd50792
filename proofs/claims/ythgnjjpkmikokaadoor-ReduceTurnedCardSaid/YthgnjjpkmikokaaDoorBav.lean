/- The fixed examples: the trees, and what each call makes of them. -/
/- The fixed examples: Choose. -/
import Derived.Test.YthgnjjpkmikokaaDoorCho
import Derived.Test.YthgnjjpkmikokaaDoorBas
import Derived.Test.YthgnjjpkmikokaaDoorBaq
namespace Go.Proofs.YthgnjjpkmikokaaDoor
open Go.RowKit

instance (st : Int) (lv : Nat → Int) (i : Nat) (l k : Int) : Decidable (El st lv i l k) := by unfold El; exact inferInstance
instance (st : Int) (n : Nat) (lv : Nat → Int) (i : Nat) (l : Int) (e : List Int) : Decidable (Nd st n lv i l e) := by unfold Nd; exact inferInstance
/-- the neighbourhood of the examples -/
def line2 : Nat → P2 := lf [(-1, 0), (0, 0)]
/-- the tree of the examples -/
def TA : Tr := ⟨2, 2, line2, 3, fun k => if k = 2 then 2 else 1, fun _ => [0, 1]⟩
/-- two nodes -/
def w2n (a b : Int) : Wk Unit := ⟨(), [(3, 1), (2, 0)], [(1, [a, b]), (2, [0, 0])]⟩
def l2n (a b : Int) : List Ndv := [⟨1, [a, b, 0, 0, 0, 0, 0, 0]⟩, ⟨2, [2, 2, 0, 0, 0, 0, 0, 0]⟩]
def TR (a b : Int) : Tr := trO 2 2 line2 (w2n a b).out
theorem line2_hd : Hd line2 2 := by decide +kernel
theorem ta_rt : Rt TA := ⟨by decide, by decide, line2_hd, by decide, by decide, by decide +kernel, by decide⟩
theorem tr_rt00 : Rt (TR 0 0) := ⟨by decide, by decide, line2_hd, by decide, by decide, by decide +kernel, by decide⟩
theorem tr_rt01 : Rt (TR 0 1) := ⟨by decide, by decide, line2_hd, by decide, by decide, by decide +kernel, by decide⟩
theorem tr_rt10 : Rt (TR 1 0) := ⟨by decide, by decide, line2_hd, by decide, by decide, by decide +kernel, by decide⟩

/-- the tree of the examples, in memory -/
structure LA (w : World) (gl ga gb gc gn : Nat) : Prop where
  l : Blk w gl 40 #[.int .i64 (-1), .int .i64 0, .int .i64 0, .int .i64 0]
  a : Blk w ga 3 #[.int .i64 0, .int .i64 1]
  b : Blk w gb 3 #[.int .i64 0, .int .i64 1]
  c : Blk w gc 3 #[.int .i64 0, .int .i64 1]
  n : Blk w gn 44 #[.int .i64 1, .slice (some ⟨ga, 0, none⟩) 2 2, .int .i64 1, .slice (some ⟨gb, 0, none⟩) 2 2, .int .i64 2, .slice (some ⟨gc, 0, none⟩) 2 2]
section
variable {w w' : World} {gl ga gb gc gn : Nat}
theorem LA.later (h : LA w gl ga gb gc gn) (hb : Below w.heap.size w w') : LA w' gl ga gb gc gn :=
  ⟨h.l.below hb h.l.lt, h.a.below hb h.a.lt, h.b.below hb h.b.lt, h.c.below hb h.c.lt, h.n.below hb h.n.lt⟩
theorem line2_reads {g : Nat} (K : Blk w g 40 #[.int .i64 (-1), .int .i64 0, .int .i64 0, .int .i64 0]) : QReads w w.heap.size (some ⟨g, 0, none⟩) 2 line2 := fun _ => ⟨g, 0, rfl, K.lt, fun k hk => by
  match k, hk with
  | 0, _ => exact ⟨K.cell 0, K.cell 1⟩
  | 1, _ => exact ⟨K.cell 2, K.cell 3⟩⟩
theorem LA.ts (h : LA w gl ga gb gc gn) : TS w (some ⟨gl, 0, none⟩) (some ⟨gn, 0, none⟩) TA :=
  ⟨line2_reads h.l, fun _ => ⟨gn, 0, rfl, h.n.lt, fun k hk => by
    match k, hk with
    | 0, _ => exact ⟨_, _, h.n.cell 0, h.n.cell 1, two_reads h.a⟩
    | 1, _ => exact ⟨_, _, h.n.cell 2, h.n.cell 3, two_reads h.b⟩
    | 2, _ => exact ⟨_, _, h.n.cell 4, h.n.cell 5, two_reads h.c⟩⟩⟩
theorem LA.cap (h : LA w gl ga gb gc gn) : ∀ g o, (some (⟨gn, 0, none⟩ : Addr)) = some ⟨g, o, none⟩ → ∀ k, k < TA.m → ∀ A n c, w.cell? ⟨g, o + (k * 2 + 1), none⟩ = some (.slice A n c) → n ≤ c ∧ c ≤ maxLen := by
  intro g o e k hk A n c hc
  injection e with e
  injection e with e1 e2
  subst e1 e2
  have hc2 : ∀ x, w.cell? ⟨gn, 0 + (k * 2 + 1), none⟩ = some x → x = .slice A n c := fun x hx => by
    rw [hc] at hx; injection hx with hx; exact hx.symm
  match k, hk with
  | 0, _ => have := hc2 _ (h.n.cell 1); injection this with _ h1 h2; subst h1 h2; exact ⟨by omega, by decide⟩
  | 1, _ => have := hc2 _ (h.n.cell 3); injection this with _ h1 h2; subst h1 h2; exact ⟨by omega, by decide⟩
  | 2, _ => have := hc2 _ (h.n.cell 5); injection this with _ h1 h2; subst h1 h2; exact ⟨by omega, by decide⟩
end
theorem ta_two : ∀ i, i < TA.m → (TA.nx i).length = 2 := fun _ _ => rfl
theorem ta_plant : plantF ((2 : Nat) : Int) TA.lv TA.nx TA.m [] = some ([2, 2, 3], l2n 0 1) := by kernel_rfl
theorem i32_3 : I32 3 := ⟨by omega, by omega⟩
/-- a tree came back, alone -/
def OneOut (T : Tr) (w : World) (e : Ending) (w' : World) : Prop := ∃ AI cI AN cN, e = .returned (.agg #[.int .i64 2, .slice AI 2 cI, .slice AN 2 cN]) ∧ TS w' AI AN T ∧ Below w.heap.size w w'
/-- a tree came back, with OK -/
def OkOut (T : Tr) (w : World) (e : Ending) (w' : World) : Prop := ∃ AI cI AN cN, e = .returned (.tuple #[.agg #[.int .i64 2, .slice AI 2 cI, .slice AN 2 cN], .int .i64 0]) ∧ TS w' AI AN T ∧ Below w.heap.size w w'
theorem red_ta (AH AN : Option Addr) (cH cN : Nat) (w : World) (h : TS w AH AN TA) : Calls Tryd.prog 11 #[.agg #[.int .i64 2, .slice AH 2 cH, .slice AN 3 cN]] w fun e w' => OneOut (TR 0 1) w e w' :=
  reduce_any (sn := 2) (T := TA) (nums := [2, 2, 3]) (L := l2n 0 1) (r := 1) (S' := w2n 0 1) rfl h ta_rt ta_plant i32_3 (by kernel_rfl)
section
variable {w : World} {gl ga gb gc gn cH cN : Nat}
/-- Fix at the examples -/
theorem fix_ta (k s : Nat) (a b : Int) (hk : k < 2) (hs : s < 2) (hUr : Rt ⟨((2 : Nat) : Int), 2, line2, 3, TA.lv, nxC TA.lv TA.nx (((2 : Nat) : Int) - (k : Int)) (fun l => [ig l s, ig l s]) 3⟩)
    (hp : plantF ((2 : Nat) : Int) TA.lv (nxC TA.lv TA.nx (((2 : Nat) : Int) - (k : Int)) (fun l => [ig l s, ig l s]) 3) 3 [] = some ([2, 2, 3], l2n a b)) (hv : visitF 2 (elN ((2 : Nat) : Int) (l2n a b)) 2 3 ⟨(), [], []⟩ = some (1, w2n a b)) (h : LA w gl ga gb gc gn) :
    Calls Tryd.prog 16 #[.agg #[.int .i64 2, .slice (some ⟨gl, 0, none⟩) 2 cH, .slice (some ⟨gn, 0, none⟩) 3 cN], .int .i64 (k : Int), .int .i64 (s : Int)] w fun e w' => OkOut (TR a b) w e w' :=
  fix_any (sn := 2) (T := TA) (k := k) (s := s) (nums := [2, 2, 3]) (L := l2n a b) (r := 1) (S' := w2n a b) rfl h.ts ta_rt ta_two hk hs rfl h.cap rfl hUr hp i32_3 hv
theorem fix_11 (h : LA w gl ga gb gc gn) : Calls Tryd.prog 16 #[.agg #[.int .i64 2, .slice (some ⟨gl, 0, none⟩) 2 cH, .slice (some ⟨gn, 0, none⟩) 3 cN], .int .i64 1, .int .i64 1] w fun e w' => OkOut (TR 1 1) w e w' :=
  fix_ta 1 1 1 1 (by omega) (by omega) ⟨by decide, by decide, line2_hd, by decide, by decide, by decide +kernel, by decide⟩ (by kernel_rfl) (by kernel_rfl) h
theorem fix_10 (h : LA w gl ga gb gc gn) : Calls Tryd.prog 16 #[.agg #[.int .i64 2, .slice (some ⟨gl, 0, none⟩) 2 cH, .slice (some ⟨gn, 0, none⟩) 3 cN], .int .i64 1, .int .i64 0] w fun e w' => OkOut (TR 0 0) w e w' :=
  fix_ta 1 0 0 0 (by omega) (by omega) ⟨by decide, by decide, line2_hd, by decide, by decide, by decide +kernel, by decide⟩ (by kernel_rfl) (by kernel_rfl) h
theorem fix_00 (h : LA w gl ga gb gc gn) : Calls Tryd.prog 16 #[.agg #[.int .i64 2, .slice (some ⟨gl, 0, none⟩) 2 cH, .slice (some ⟨gn, 0, none⟩) 3 cN], .int .i64 0, .int .i64 0] w fun e w' => OkOut (TR 0 1) w e w' :=
  fix_ta 0 0 0 1 (by omega) (by omega) ⟨by decide, by decide, line2_hd, by decide, by decide, by decide +kernel, by decide⟩ (by kernel_rfl) (by kernel_rfl) h
theorem map_10 {gi : Nat} (h : LA w gl ga gb gc gn) (hi : Blk w gi 3 #[.int .i64 1, .int .i64 0]) : Calls Tryd.prog 17 #[.agg #[.int .i64 2, .slice (some ⟨gl, 0, none⟩) 2 cH, .slice (some ⟨gn, 0, none⟩) 3 cN], .slice (some ⟨gi, 0, none⟩) 2 2] w fun e w' => OkOut (TR 1 0) w e w' :=
  map_any (sn := 2) (T := TA) (tl := [1, 0]) (nums := [2, 2, 3]) (L := l2n 1 0) (r := 1) (S' := w2n 1 0) rfl h.ts ta_rt ta_two rfl rfl (by decide) (two_reads hi) (by decide +kernel) h.cap rfl ⟨by decide, by decide, line2_hd, by decide, by decide, by decide +kernel, by decide⟩ (by kernel_rfl) i32_3 (by kernel_rfl)
theorem uses_1 (h : LA w gl ga gb gc gn) : Calls Tryd.prog 19 #[.agg #[.int .i64 2, .slice (some ⟨gl, 0, none⟩) 2 cH, .slice (some ⟨gn, 0, none⟩) 3 cN], .int .i64 1] w fun e w' => e = .returned (.bool true) ∧ Below w.heap.size w w' :=
  uses_any (sn := 2) (T := TA) (V := TR 0 0) (k := 1) (nums := [2, 2, 3]) (L := l2n 0 1) (nums' := [4, 5]) (L' := l2n 0 1 ++ [⟨1, [0, 0, 0, 0, 0, 0, 0, 0]⟩, ⟨2, [4, 4, 0, 0, 0, 0, 0, 0]⟩]) rfl rfl h.ts ta_rt tr_rt00 (by decide +kernel) ta_plant (by kernel_rfl) (fun w' hb => fix_10 (h.later hb))
theorem uses_0 (h : LA w gl ga gb gc gn) : Calls Tryd.prog 19 #[.agg #[.int .i64 2, .slice (some ⟨gl, 0, none⟩) 2 cH, .slice (some ⟨gn, 0, none⟩) 3 cN], .int .i64 0] w fun e w' => e = .returned (.bool false) ∧ Below w.heap.size w w' :=
  uses_any (sn := 2) (T := TA) (V := TR 0 1) (k := 0) (nums := [2, 2, 3]) (L := l2n 0 1) (nums' := [2, 3]) (L' := l2n 0 1) rfl rfl h.ts ta_rt tr_rt01 (by decide +kernel) ta_plant (by kernel_rfl) (fun w' hb => fix_00 (h.later hb))
theorem equal_x {AI AM : Option Addr} {cI cM : Nat} (h : LA w gl ga gb gc gn) (hx : TS w AI AM (TR 0 1)) : Calls Tryd.prog 20 #[.agg #[.int .i64 2, .slice (some ⟨gl, 0, none⟩) 2 cH, .slice (some ⟨gn, 0, none⟩) 3 cN], .agg #[.int .i64 2, .slice AI 2 cI, .slice AM 2 cM]] w fun e w' => e = .returned (.bool true) ∧ Below w.heap.size w w' :=
  teq_any (sn := 2) (T := TA) (U := TR 0 1) (nums := [2, 2, 3]) (L := l2n 0 1) (nums' := [2, 3]) (L' := l2n 0 1) rfl rfl h.ts hx ta_rt tr_rt01 (by decide +kernel) ta_plant (by kernel_rfl)
theorem equal_m {AI AM : Option Addr} {cI cM : Nat} (h : LA w gl ga gb gc gn) (hx : TS w AI AM (TR 1 0)) : Calls Tryd.prog 20 #[.agg #[.int .i64 2, .slice (some ⟨gl, 0, none⟩) 2 cH, .slice (some ⟨gn, 0, none⟩) 3 cN], .agg #[.int .i64 2, .slice AI 2 cI, .slice AM 2 cM]] w fun e w' => e = .returned (.bool false) ∧ Below w.heap.size w w' :=
  teq_any (sn := 2) (T := TA) (U := TR 1 0) (nums := [2, 2, 3]) (L := l2n 0 1) (nums' := [4, 5]) (L' := l2n 0 1 ++ [⟨1, [1, 0, 0, 0, 0, 0, 0, 0]⟩, ⟨2, [4, 4, 0, 0, 0, 0, 0, 0]⟩]) rfl rfl h.ts hx ta_rt tr_rt10 (by decide +kernel) ta_plant (by kernel_rfl)
/-- the turned tree -/
def TT : Tr := trO 2 2 (lf [(0, 0), (1, 0)]) [(1, [0, 0]), (1, [1, 1]), (2, [0, 1])]
def wT : Wk (List Ndv × Mem) := ⟨(l2n 0 1 ++ [⟨2, [0, 0, 0, 0, 0, 0, 0, 0]⟩, ⟨2, [1, 1, 0, 0, 0, 0, 0, 0]⟩], [(3, [4, 5, 0, 0, 0, 0, 0, 0])]), [(3, 2), (5, 1), (4, 0)], [(1, [0, 0]), (1, [1, 1]), (2, [0, 1])]⟩
theorem turn_4 (hM : Mat w) (h : LA w gl ga gb gc gn) : Calls Tryd.prog 7 #[.int .i64 4, .agg #[.int .i64 2, .slice (some ⟨gl, 0, none⟩) 2 cH, .slice (some ⟨gn, 0, none⟩) 3 cN]] w fun e w' => ∃ AI cI AN cN, e = .returned (.tuple #[.agg #[.int .i64 2, .slice AI 2 cI, .slice AN 3 cN], .int .i64 0]) ∧ TS w' AI AN TT ∧ Below w.heap.size w w' := by
  have h1 := turn_any 4 (sn := 2) (T := TA) (cH := cH) (cN := cN) (nums := [2, 2, 3]) (L := l2n 0 1) (r := 2) (S' := wT) rfl hM h.ts ta_rt ta_plant i32_3 (by kernel_rfl) (by decide)
  refine h1.mono fun e w' h2 => ?_
  unfold TurnOut at h2
  rw [if_pos (by decide), show imgs TA.f TA.n (md 4) = [(0, 0), (1, 0)] by decide +kernel] at h2
  obtain ⟨AI, cI, AN, cN, h3, ⟨h4, _⟩, h5⟩ := h2
  exact ⟨AI, cI, AN, cN, h3, h4, h5⟩
end
end Go.Proofs.YthgnjjpkmikokaaDoor
namespace Go.Proofs.YthgnjjpkmikokaaDoor
open Go.RowKit

def sel2 {α : Type} (a b : α) : Nat → α
  | 0 => a
  | _ => b
def cU : Nat → Tr := sel2 (TR 1 0) (TR 0 1)
def l4n : List Ndv := l2n 1 0 ++ [⟨1, [0, 1, 0, 0, 0, 0, 0, 0]⟩, ⟨2, [4, 4, 0, 0, 0, 0, 0, 0]⟩]
def l6n : List Ndv := l4n ++ [⟨1, [1, -1, 0, 0, 0, 0, 0, 0]⟩, ⟨2, [6, 6, 0, 0, 0, 0, 0, 0]⟩]
def l8n : List Ndv := l6n ++ [⟨1, [-1, 1, 0, 0, 0, 0, 0, 0]⟩, ⟨2, [8, 8, 0, 0, 0, 0, 0, 0]⟩]
def l10n : List Ndv := l8n ++ [⟨1, [1, 1, 0, 0, 0, 0, 0, 0]⟩, ⟨2, [10, 10, 0, 0, 0, 0, 0, 0]⟩]
def cLf : Nat → List Ndv
  | 0 => []
  | 1 => l2n 1 0
  | _ => l4n
def cLq : Nat → List Ndv
  | 0 => l4n
  | 1 => l6n
  | _ => l10n
def cqf : Nat → Int
  | 0 => -1
  | 1 => 7
  | _ => 11
theorem L2_of {w : World} {gq : Nat} {t : TypeId} {A0 N0 A1 N1 : Option Addr} {a0 n0 a1 n1 : Nat} (h : Blk w gq t #[.int .i64 2, .slice A0 2 a0, .slice N0 2 n0, .int .i64 2, .slice A1 2 a1, .slice N1 2 n1]) : L2 w gq 2 cU (sel2 A0 A1) (sel2 N0 N1) (sel2 a0 a1) (sel2 n0 n1) :=
  ⟨h.lt, fun i hi => by
    match i, hi with
    | 0, _ => exact ⟨h.cell 0, h.cell 1, h.cell 2⟩
    | 1, _ => exact ⟨h.cell 3, h.cell 4, h.cell 5⟩⟩
theorem ta_map : plantF ((2 : Nat) : Int) TA.lv (nxC TA.lv TA.nx 1 (fun l => [ig [0, 1] (ig l 0).toNat, ig [0, 1] (ig l 1).toNat]) 3) 3 [] = some ([2, 2, 3], l2n 0 1) := by kernel_rfl
theorem ta_elems : ∀ i, i < TA.m → TA.lv i = 1 → (0 ≤ ig (TA.nx i) 0 ∧ ig (TA.nx i) 0 < 2) ∧ (0 ≤ ig (TA.nx i) 1 ∧ ig (TA.nx i) 1 < 2) := by decide +kernel
theorem comb_1 : combF 2 4096 (fun a b => whF ((0 : Nat) : Int) a b) 5 (5, 3) ⟨l4n, []⟩ = some (7, ⟨l6n, [((5, 3), 7), ((4, 2), 6)]⟩) := by kernel_rfl
theorem comb_2 : combF 2 4096 (fun a b => max a b) 5 (-1, 7) ⟨l6n, []⟩ = some (7, ⟨l6n, []⟩) := by kernel_rfl
theorem comb_3 : combF 2 4096 (fun a b => whF ((1 : Nat) : Int) a b) 5 (5, 5) ⟨l6n, []⟩ = some (9, ⟨l8n, [((5, 5), 9), ((4, 4), 8)]⟩) := by kernel_rfl
theorem comb_4 : combF 2 4096 (fun a b => max a b) 5 (7, 9) ⟨l8n, []⟩ = some (11, ⟨l10n, [((7, 9), 11), ((6, 8), 10)]⟩) := by kernel_rfl
section
variable {w : World} {gl ga gb gc gn cH cN : Nat}
theorem choose_ta {gq : Nat} {A0 N0 A1 N1 : Option Addr} {a0 n0 a1 n1 : Nat} (h : LA w gl ga gb gc gn) (hq : Blk w gq 25 #[.int .i64 2, .slice A0 2 a0, .slice N0 2 n0, .int .i64 2, .slice A1 2 a1, .slice N1 2 n1]) (h0 : TS w A0 N0 (TR 1 0)) (h1 : TS w A1 N1 (TR 0 1)) :
    Calls Tryd.prog 18 #[.agg #[.int .i64 2, .slice (some ⟨gl, 0, none⟩) 2 cH, .slice (some ⟨gn, 0, none⟩) 3 cN], .slice (some ⟨gq, 0, none⟩) 2 2] w fun e w' => OkOut (TR 1 1) w e w' := by
  refine Choose_any (sn := 2) (T := TA) (U := cU) (AHs := sel2 A0 A1) (ANs := sel2 N0 N1) (cHs := sel2 a0 a1) (cNs := sel2 n0 n1) (root := 11) (rC := 1) (Lc := l10n) (SC := ⟨(), [(11, 1), (10, 0)], [(1, [1, 1]), (2, [0, 0])]⟩) rfl rfl h.ts ta_rt (L2_of hq) ?_ ?_ ⟨by omega, by omega⟩ (by kernel_rfl) (by decide)
  · intro i hi
    match i, hi with
    | 0, _ => exact ⟨rfl, h0, tr_rt10, by decide +kernel⟩
    | 1, _ => exact ⟨rfl, h1, tr_rt01, by decide +kernel⟩
  · intro w' fb G hb hf hG
    refine (choose_any (sn := 2) (T := TA) (U := cU) (AHs := sel2 A0 A1) (ANs := sel2 N0 N1) (cHs := sel2 a0 a1) (cNs := sel2 n0 n1) (B := w.heap.size) (kf := 5) (most := 4096) (Lf := cLf) (Lq := cLq) (rt := sel2 3 5) (qf := cqf) (nM := [2, 2, 3]) (LM := l2n 0 1) (rM := 1) (SM := w2n 0 1) (nV := [4, 5]) (sel := 5) rfl rfl (h.ts.1.below hb) (h.ts.2.below hb) ta_rt ta_two ta_elems (h.later hb).cap hb.size hf hG ?_ hq.lt ?_ ?_ (by decide)
      ⟨by decide, by decide, line2_hd, by decide, by decide, by decide +kernel, by decide⟩ ta_map i32_3 (by kernel_rfl) tr_rt01 (by decide) (by decide) (by decide +kernel) (by omega) (by kernel_rfl) rfl ⟨by omega, by omega⟩ rfl ?_).mono fun e w'' ⟨G', e1, _, e3, e4⟩ => ⟨G', e1, e3, e4⟩
    · intro i hi
      match i, hi with
      | 0, _ => exact ⟨rfl, h0.2.below hb, tr_rt10⟩
      | 1, _ => exact ⟨rfl, h1.2.below hb, tr_rt01⟩
    · intro i hi
      obtain ⟨c0, c1, c2⟩ := ((L2_of hq).later hb).2 i hi
      exact ⟨c0, c1, c2⟩
    · intro i hi
      match i, hi with
      | 0, _ => exact ⟨[2, 3], by kernel_rfl, rfl, by show I32 3; exact ⟨by omega, by omega⟩⟩
      | 1, _ => exact ⟨[4, 5], by kernel_rfl, rfl, by show I32 5; exact ⟨by omega, by omega⟩⟩
    · intro s hs
      match s, hs with
      | 0, _ => exact ⟨7, _, _, comb_1, comb_2, by decide, rfl⟩
      | 1, _ => exact ⟨9, _, _, comb_3, comb_4, by decide, rfl⟩
end
end Go.Proofs.YthgnjjpkmikokaaDoor
