/- The reference's values of all wires. -/
/- What the wires of a rule's circuit mean. -/
import Derived.Test.YtnhkgkpjkgifoaaMai
import Derived.Test.YtnhkgkpjkgifoaaMab
import Derived.Test.YtnhkgkpjkgifoaaMan
import Derived.Deep.AppendLies
import Derived.Deep.OwnRows
import Derived.Test.YtnhkgkpjkgifoaaMaq
namespace Go.Proofs.Ytnhkgkpjkgifoaa
open Go.RowKit

/-- append of one value onto a row of the call's own -/
theorem wpList_append1B {P : Program} {w : World} {ops : Array Oper} {rest : List Oper} {o : Oper} {a : Act} {Q : Exit → Act → World → Prop} (hgd : o.guard = none) (s x : Operand) (t : TypeId)
    (ho : o.op = .call { callee := .builtin .append, args := #[s, x], argTypes := #[t, t] })
    (base : Nat) (e : TypeId) (i : TypeInfo) (z : Value) (bytes : Nat) (ht : P.underlying t = some (.slice e)) (hi : P.info? e = some i) (hz : i.zero = some z)
    (hsize : i.size = 1) (hby : i.bytes = bytes) (hzs : z.cells.size = 1)
    (A : Option Addr) (n c : Nat) (xs : List Value) (hs : a.eval s = .slice A n c) (hown : w.ownsRow base e 1 (.slice A n c) n xs) (u : Value)
    (hx : a.eval x = .slice (some ⟨w.heap.size, 0, none⟩) 1 1) (h1 : u.oneCell' = true) (h63 : n + 1 ≤ maxLen) (hbytes : (n + 1) * bytes ≤ 140737488355328) (hbase : base ≤ w.heap.size)
    (h : ∀ g' c' w', w'.ownsRow base e 1 (.slice (some ⟨g', 0, none⟩) (n + 1) c') (n + 1) (xs ++ [u]) → Below base w w' → wpList P ops Q rest (a.put o.dst (.slice (some ⟨g', 0, none⟩) (n + 1) c')) w') :
    wpList P ops Q (o :: rest) a (w.alloc (.cells #[u] e)) :=
  wpList_append1F hgd s x t ho base e i z bytes ht hi hz hsize hby hzs A n c xs hs hown u hx h1 h63 hbytes hbase fun g' c' w' h2 h3 => h g' c' w' h2 (h3.below (fun k hk => (ob_ge hown k hk).1) hbase)
/-- an operation's result -/
def gop (op : Int) (x y : Bool) : Bool := if op = 1 then true else if op = 2 then !x else if op = 3 then x && y else if op = 4 then x || y else if op = 5 then x != y else false
/-- the values of the wires -/
def bvn (g : Nat → C3) (l : List Bool) : Nat → List Bool
  | 0 => l
  | j + 1 => bvn g l j ++ [gop (g j).1 (bg (bvn g l j) (g j).2.1.toNat) (bg (bvn g l j) (g j).2.2.toNat)]
theorem bvn_len (g : Nat → C3) (l : List Bool) (j : Nat) : (bvn g l j).length = l.length + j := by
  induction j with
  | zero => rfl
  | succ j ih => rw [bvn, List.length_append, ih]; rfl
theorem bl_add (l : List Bool) (x : Bool) : bl (l ++ [x]) = bl l ++ [.bool x] := by simp [bl]
theorem bl_row {w : World} {base n c : Nat} {e : TypeId} {A : Option Addr} {l : List Bool} (h : w.ownsRow base e 1 (.slice A n c) n (bl l)) (hl : l.length = n) (k : Nat) (hk : k < n) : ∃ g, A = some ⟨g, 0, none⟩ ∧ w.cell? ⟨g, k, none⟩ = some (.bool (bg l k)) ∧ g < w.heap.size := by
  obtain ⟨g, cap, hv, _, hg⟩ := h.form (by omega)
  injection hv with h1 _ h3
  subst h1 h3
  refine ⟨g, rfl, ?_, (h.lt g rfl).2⟩
  rw [h.cellAt k (by omega)]
  simp [bl, bg, List.getD_eq_getElem?_getD, hl, hk]
theorem info_boolV : (Try.prog.info? 4).map (fun i => (i.zero, i.size, i.bytes)) = some (some (.bool false), 1, 1) := by kernel_rfl
end Go.Proofs.Ytnhkgkpjkgifoaa
namespace Go.Proofs.Ytnhkgkpjkgifoaa
open Go.RowKit

theorem ig_app (l : List Int) (x : Int) (p n : Nat) (hl : l.length = n) : (p < n → ig (l ++ [x]) p = ig l p) ∧ ig (l ++ [x]) n = x := getD_app l x 0 p n hl
theorem bg_app (l : List Bool) (x : Bool) (p n : Nat) (hl : l.length = n) : (p < n → bg (l ++ [x]) p = bg l p) ∧ bg (l ++ [x]) n = x := getD_app l x false p n hl
/-- the values of all wires -/
def Vl (gs : List C3) (l : List Bool) : List Bool := bvn (fun k => gs.getD k (0, 0, 0)) l gs.length
theorem bvn_congr {g g' : Nat → C3} (l : List Bool) : ∀ j, (∀ k, k < j → g k = g' k) → bvn g l j = bvn g' l j
  | 0, _ => rfl
  | j + 1, h => by rw [bvn, bvn, bvn_congr l j (fun k hk => h k (by omega)), h j (by omega)]
theorem Vl_snoc (gs : List C3) (x : C3) (l : List Bool) : Vl (gs ++ [x]) l = Vl gs l ++ [gop x.1 (bg (Vl gs l) x.2.1.toNat) (bg (Vl gs l) x.2.2.toNat)] := by
  unfold Vl
  rw [List.length_append, List.length_singleton, bvn, bvn_congr (g' := fun k => gs.getD k (0, 0, 0)) l gs.length (fun k hk => by simp [List.getD_eq_getElem?_getD, List.getElem?_append_left hk])]
  simp [List.getD_eq_getElem?_getD]
theorem Vl_len (gs : List C3) (l : List Bool) : (Vl gs l).length = l.length + gs.length := bvn_len _ _ _
theorem Vl_app (l : List Bool) : ∀ (e gs : List C3) (k : Nat), k < l.length + gs.length → bg (Vl (gs ++ e) l) k = bg (Vl gs l) k
  | [], gs, k, _ => by rw [List.append_nil]
  | x :: e, gs, k, h => by
    rw [show gs ++ x :: e = (gs ++ [x]) ++ e by simp, Vl_app l e (gs ++ [x]) k (by simp; omega), Vl_snoc]
    simp only [bg, List.getD_eq_getElem?_getD]
    rw [List.getElem?_append_left (by rw [Vl_len]; exact h)]
theorem Vl_nil (l : List Bool) : Vl [] l = l := rfl
/-- valid gates -/
def Gd (N : Nat) (gs : List C3) : Prop := ∀ k, k < gs.length → rg (gs.getD k (0, 0, 0)) ((N : Int) + (k : Int)) = true
theorem Gd.snoc {N : Nat} {gs : List C3} (h : Gd N gs) {x : C3} (hx : rg x ((N : Int) + (gs.length : Int)) = true) : Gd N (gs ++ [x]) := fun k hk => by
  by_cases e : k < gs.length
  · have := h k e
    simpa [List.getD_eq_getElem?_getD, List.getElem?_append_left e] using this
  · obtain rfl : k = gs.length := by simp at hk; omega
    simpa [List.getD_eq_getElem?_getD] using hx
/-- more gates -/
def Ext (gs gs' : List C3) : Prop := ∃ e, gs' = gs ++ e
theorem Ext.refl (gs : List C3) : Ext gs gs := ⟨[], by simp⟩
theorem Ext.trans {a b c : List C3} (h : Ext a b) (k : Ext b c) : Ext a c := by
  obtain ⟨e, rfl⟩ := h
  obtain ⟨f, rfl⟩ := k
  exact ⟨e ++ f, by simp⟩
theorem Ext.one (gs : List C3) (x : C3) : Ext gs (gs ++ [x]) := ⟨[x], rfl⟩
/-- a wire with its value -/
def Sp (l : List Bool) (gs : List C3) (z : Int) (v : Bool) : Prop := 0 ≤ z ∧ z < (l.length : Int) + (gs.length : Int) ∧ bg (Vl gs l) z.toNat = v
theorem Sp.ext {l : List Bool} {gs gs' : List C3} {z : Int} {v : Bool} (h : Sp l gs z v) (he : Ext gs gs') : Sp l gs' z v := by
  obtain ⟨e, rfl⟩ := he
  obtain ⟨h1, h2, h3⟩ := h
  exact ⟨h1, by simp; omega, by rw [Vl_app l e gs z.toNat (by omega)]; exact h3⟩
theorem Sp.new (l : List Bool) (gs : List C3) (x : C3) : Sp l (gs ++ [x]) ((l.length : Int) + (gs.length : Int)) (gop x.1 (bg (Vl gs l) x.2.1.toNat) (bg (Vl gs l) x.2.2.toNat)) := by
  refine ⟨by omega, by simp; omega, ?_⟩
  rw [Vl_snoc, show ((l.length : Int) + (gs.length : Int)).toNat = (Vl gs l).length by rw [Vl_len]; omega]
  simp [bg, List.getD_eq_getElem?_getD]
/-- a gate of two wires -/
theorem Sp.gate {l : List Bool} {gs : List C3} {x y : Int} {u v : Bool} (hG : Gd l.length gs) (hx : Sp l gs x u) (hy : Sp l gs y v) (op : Int) (ho : op = 3 ∨ op = 4) :
    Gd l.length (gs ++ [(op, x, y)]) ∧ Sp l (gs ++ [(op, x, y)]) ((l.length : Int) + (gs.length : Int)) (gop op u v) := by
  obtain ⟨x1, x2, x3⟩ := hx
  obtain ⟨y1, y2, y3⟩ := hy
  refine ⟨hG.snoc ?_, ?_⟩
  · rcases ho with rfl | rfl <;> simp [rg, isw, x1, x2, y1, y2]
  · have := Sp.new l gs (op, x, y)
    simp only [x3, y3] at this
    exact this
/-- a chain of gates -/
theorem chF_sp (l : List Bool) (op : Int) (ho : op = 3 ∨ op = 4) (f : Bool → Bool → Bool) (hf : ∀ u v, gop op u v = f u v) : ∀ (r : List Int) (vs : List Bool) (x : Int) (u : Bool) (gs : List C3), Gd l.length gs → Sp l gs x u → r.length = vs.length → (∀ j, j < r.length → Sp l gs (ig r j) (bg vs j)) →
    Gd l.length (chF op l.length r x gs).2 ∧ Ext gs (chF op l.length r x gs).2 ∧ Sp l (chF op l.length r x gs).2 (chF op l.length r x gs).1 (vs.foldl f u)
  | [], [], x, u, gs, hG, hx, _, _ => ⟨hG, Ext.refl _, hx⟩
  | [], _ :: _, _, _, _, _, _, h, _ => by simp at h
  | _ :: _, [], _, _, _, _, _, h, _ => by simp at h
  | y :: r, v :: vs, x, u, gs, hG, hx, hl, hr => by
    have hy : Sp l gs y v := by have := hr 0 (by simp); simpa [ig, bg] using this
    obtain ⟨g1, s1⟩ := Sp.gate hG hx hy op ho
    rw [hf] at s1
    obtain ⟨g2, e2, s2⟩ := chF_sp l op ho f hf r vs _ (f u v) (gs ++ [(op, x, y)]) g1 s1 (by simpa using hl) (fun j hj => by
      have := hr (j + 1) (by simp; omega)
      have q : Sp l gs (ig r j) (bg vs j) := by simpa [ig, bg] using this
      exact q.ext (Ext.one _ _))
    exact ⟨g2, (Ext.one _ _).trans e2, s2⟩
theorem foldl_and : ∀ (vs : List Bool) (u : Bool), vs.foldl (fun a b => a && b) u = (u && vs.all id)
  | [], u => by simp
  | v :: vs, u => by rw [List.foldl_cons, foldl_and vs, List.all_cons, Bool.and_assoc]; rfl
theorem foldl_or : ∀ (vs : List Bool) (u : Bool), vs.foldl (fun a b => a || b) u = (u || vs.any id)
  | [], u => by simp
  | v :: vs, u => by rw [List.foldl_cons, foldl_or vs, List.any_cons, Bool.or_assoc]; rfl
/-- .. of any number of wires -/
theorem eiF_sp (l : List Bool) (r : List Int) (vs : List Bool) (gs : List C3) (hG : Gd l.length gs) (hl : r.length = vs.length) (hr : ∀ j, j < r.length → Sp l gs (ig r j) (bg vs j)) :
    Gd l.length (eiF l.length r gs).2 ∧ Ext gs (eiF l.length r gs).2 ∧ Sp l (eiF l.length r gs).2 (eiF l.length r gs).1 (vs.any id) := by
  cases r with
  | nil =>
    obtain rfl : vs = [] := by simpa using hl.symm
    refine ⟨hG.snoc (by simp [rg]), Ext.one _ _, ?_⟩
    exact Sp.new l gs (0, 0, 0)
  | cons x r =>
    cases vs with
    | nil => simp at hl
    | cons v vs =>
      have hx : Sp l gs x v := by have := hr 0 (by simp); simpa [ig, bg] using this
      obtain ⟨g2, e2, s2⟩ := chF_sp l 4 (.inr rfl) (fun a b => a || b) (fun u v => by simp [gop]) r vs x v gs hG hx (by simpa using hl) (fun j hj => by
        have := hr (j + 1) (by simp; omega)
        simpa [ig, bg] using this)
      rw [foldl_or] at s2
      exact ⟨g2, e2, by rw [List.any_cons]; exact s2⟩
/-- the wires of the numbers below n -/
theorem coF_sp (l : List Bool) (M : Nat → List C3 → Int × List C3) (f : Nat → Bool) (gs : List C3) (hG : Gd l.length gs) : ∀ n, (∀ i, i < n → ∀ gs', Ext gs gs' → Gd l.length gs' → Gd l.length (M i gs').2 ∧ Ext gs' (M i gs').2 ∧ Sp l (M i gs').2 (M i gs').1 (f i)) →
    Gd l.length (coF M n gs).2 ∧ Ext gs (coF M n gs).2 ∧ ∀ i, i < n → Sp l (coF M n gs).2 (ig (coF M n gs).1 i) (f i)
  | 0, _ => ⟨hG, Ext.refl _, fun i hi => absurd hi (Nat.not_lt_zero _)⟩
  | n + 1, hM => by
    obtain ⟨g1, e1, s1⟩ := coF_sp l M f gs hG n (fun i hi => hM i (by omega))
    obtain ⟨g2, e2, s2⟩ := hM n (by omega) (coF M n gs).2 e1 g1
    have hl := coF_len M gs n
    refine ⟨g2, e1.trans e2, fun i hi => ?_⟩
    rw [coF]
    simp only
    by_cases h : i < n
    · rw [(ig_app _ _ i n hl).1 h]
      exact (s1 i h).ext e2
    · obtain rfl : i = n := by omega
      rw [(ig_app _ _ i i hl).2]
      exact s2
/-- an input -/
theorem Sp.inp (l : List Bool) (gs : List C3) (k : Nat) (hk : k < l.length) : Sp l gs (k : Int) (bg l k) := by
  have h : Sp l [] (k : Int) (bg l k) := ⟨by omega, by simp; omega, by rw [Vl_nil]; rfl⟩
  exact h.ext ⟨gs, by simp⟩
/-- the gates of the first loop -/
theorem g1L_sp (l : List Bool) : ∀ j, j ≤ l.length → Gd l.length (g1L j) ∧ ∀ k, k < j → Sp l (g1L j) ((l.length : Int) + (k : Int)) (!bg l k)
  | 0, _ => ⟨fun k hk => absurd hk (by simp [g1L]), fun k hk => absurd hk (Nat.not_lt_zero _)⟩
  | j + 1, h => by
    obtain ⟨g1, s1⟩ := g1L_sp l j (by omega)
    rw [g1L_add]
    have hlen := g1L_len j
    have h0 := Sp.inp l (g1L j) j (by omega)
    refine ⟨g1.snoc ?_, fun k hk => ?_⟩
    · rw [hlen]
      simp [rg, isw]
      omega
    · by_cases e : k < j
      · exact (s1 k e).ext (Ext.one _ _)
      · obtain rfl : k = j := by omega
        have := Sp.new l (g1L k) (2, (k : Int), 0)
        rw [hlen] at this
        simp only [h0.2.2] at this
        simpa [gop] using this
/-- a literal -/
theorem liV_sp (l : List Bool) (gs : List C3) (he : Ext (g1L l.length) gs) (b i k : Nat) (one : Bool) (hk : i * b + k < l.length) : Sp l gs (liV (n1L l.length l.length) b i k one) (bg l (i * b + k) == one) := by
  unfold liV
  cases one with
  | true =>
    have := Sp.inp l gs (i * b + k) hk
    simpa using this
  | false =>
    have := ((g1L_sp l l.length (Nat.le_refl _)).2 (i * b + k) hk).ext he
    have e : ig (n1L l.length l.length) (i * b + k) = (l.length : Int) + ((i * b + k : Nat) : Int) := by
      simp [ig, n1L, List.getD_eq_getElem?_getD, hk]
    rw [if_neg (by decide), e]
    simpa using this
/-- whether a position has a state -/
def te (l : List Bool) (b i s : Nat) : Bool := (List.range b).all fun k => bg l (i * b + k) == bt s k
theorem teF_sp (l : List Bool) (gs : List C3) (hG : Gd l.length gs) (he : Ext (g1L l.length) gs) (b i s : Nat) (hb : 1 ≤ b) (hi : i * b + b ≤ l.length) :
    Gd l.length (teF l.length (n1L l.length l.length) b i s gs).2 ∧ Ext gs (teF l.length (n1L l.length l.length) b i s gs).2 ∧ Sp l (teF l.length (n1L l.length l.length) b i s gs).2 (teF l.length (n1L l.length l.length) b i s gs).1 (te l b i s) := by
  have hx := liV_sp l gs he b i 0 (bt s 0) (by omega)
  obtain ⟨c, rfl⟩ : ∃ c, b = c + 1 := ⟨b - 1, by omega⟩
  obtain ⟨g2, e2, s2⟩ := chF_sp l 3 (.inl rfl) (fun a b => a && b) (fun u v => by simp [gop]) (tr (n1L l.length l.length) (c + 1) i s) ((List.range c).map fun k => bg l (i * (c + 1) + (k + 1)) == bt s (k + 1)) (tx (n1L l.length l.length) (c + 1) i s) _ gs hG hx (by simp [tr]) (fun j hj => by
    have hj' : j < c := by simpa [tr] using hj
    have := liV_sp l gs he (c + 1) i (j + 1) (bt s (j + 1)) (by omega)
    simpa [tr, ig, bg, List.getD_eq_getElem?_getD, hj'] using this)
  refine ⟨g2, e2, ?_⟩
  have e : te l (c + 1) i s = List.foldl (fun a b => a && b) (bg l (i * (c + 1) + 0) == bt s 0) ((List.range c).map fun k => bg l (i * (c + 1) + (k + 1)) == bt s (k + 1)) := by
    rw [foldl_and, te, List.range_succ_eq_map, List.all_cons, List.all_map, List.all_map]
    rfl
  rw [e]
  exact s2
/-- the tests of i positions -/
theorem tsF_sp (l : List Bool) (b st : Nat) (hb : 1 ≤ b) : ∀ i, i * b ≤ l.length → 
    Gd l.length (tsF l.length (n1L l.length l.length) b st i (g1L l.length)).2 ∧ Ext (g1L l.length) (tsF l.length (n1L l.length l.length) b st i (g1L l.length)).2 ∧ ∀ p, p < i → ∀ s, s < st → Sp l (tsF l.length (n1L l.length l.length) b st i (g1L l.length)).2 (ig ((tsF l.length (n1L l.length l.length) b st i (g1L l.length)).1.getD p []) s) (te l b p s)
  | 0, _ => ⟨(g1L_sp l l.length (Nat.le_refl _)).1, Ext.refl _, fun p hp => absurd hp (Nat.not_lt_zero _)⟩
  | i + 1, h => by
    rw [Nat.succ_mul] at h
    obtain ⟨g1, e1, s1⟩ := tsF_sp l b st hb i (by omega)
    obtain ⟨g2, e2, s2⟩ := coF_sp l (fun s g => teF l.length (n1L l.length l.length) b i s g) (te l b i) _ g1 st (fun s _ gs' he hg => teF_sp l gs' hg (e1.trans he) b i s hb h)
    have hl := tsF_rows (l.length : Int) (n1L l.length l.length) b st (g1L l.length) i
    refine ⟨g2, e1.trans e2, fun p hp s hs => ?_⟩
    rw [tsF]
    simp only
    by_cases hpi : p < i
    · rw [(getD_app _ _ [] p i hl).1 hpi]
      exact (s1 p hpi s hs).ext e2
    · obtain rfl : p = i := by omega
      rw [(getD_app _ _ [] p p hl).2]
      exact s2 s hs
/-- the terms at the last position -/
theorem tlo_sp (l : List Bool) (gs : List C3) (TP : List Int) (b p k : Nat) (nx : List Nat) : ∀ j, (∀ s, s < j → Sp l gs (ig TP s) (te l b p s)) →
    ∃ vs : List Bool, (tlo TP k nx j).length = vs.length ∧ (∀ q, q < (tlo TP k nx j).length → Sp l gs (ig (tlo TP k nx j) q) (bg vs q)) ∧ vs.any id = (List.range j).any fun s => te l b p s && bt (nx.getD s 0) k
  | 0, _ => ⟨[], rfl, fun q hq => absurd hq (Nat.not_lt_zero _), rfl⟩
  | j + 1, h => by
    obtain ⟨vs, h1, h2, h3⟩ := tlo_sp l gs TP b p k nx j (fun s hs => h s (by omega))
    rw [tlo]
    by_cases hb : bt (nx.getD j 0) k = true
    · rw [if_pos hb]
      refine ⟨vs ++ [te l b p j], by simp [h1], fun q hq => ?_, ?_⟩
      · by_cases e : q < (tlo TP k nx j).length
        · rw [(ig_app _ _ q _ rfl).1 e, (bg_app vs _ q _ h1.symm).1 e]
          exact h2 q e
        · obtain rfl : q = (tlo TP k nx j).length := by simp at hq; omega
          rw [(ig_app _ _ 0 _ rfl).2, (bg_app vs _ 0 _ h1.symm).2]
          exact h j (by omega)
      · rw [List.any_append, h3, List.range_succ, List.any_append, List.any_cons, List.any_nil, List.any_cons, List.any_nil, hb, Bool.and_true]
        rfl
    · rw [if_neg hb, List.append_nil]
      refine ⟨vs, h1, h2, ?_⟩
      have hb' : bt (nx.getD j 0) k = false := by simpa using hb
      rw [h3, List.range_succ, List.any_append, List.any_cons, List.any_nil, hb', Bool.and_false, Bool.or_false, Bool.or_false]
/-- the terms at the other positions -/
theorem thi_sp (l : List Bool) (gs : List C3) (hG : Gd l.length gs) (TP : List Int) (RW : Nat → Int) (b p : Nat) (f : Nat → Bool) : ∀ j, (∀ s, s < j → Sp l gs (ig TP s) (te l b p s) ∧ Sp l gs (RW s) (f s)) →
    Gd l.length (thi l.length TP RW j gs).2 ∧ Ext gs (thi l.length TP RW j gs).2 ∧ ∀ s, s < j → Sp l (thi l.length TP RW j gs).2 (ig (thi l.length TP RW j gs).1 s) (te l b p s && f s)
  | 0, _ => ⟨hG, Ext.refl _, fun s hs => absurd hs (Nat.not_lt_zero _)⟩
  | j + 1, h => by
    obtain ⟨g1, e1, s1⟩ := thi_sp l gs hG TP RW b p f j (fun s hs => h s (by omega))
    obtain ⟨h1, h2⟩ := h j (by omega)
    obtain ⟨g2, s2⟩ := Sp.gate g1 (h1.ext e1) (h2.ext e1) 3 (.inl rfl)
    have hl := (thi_len (l.length : Int) TP RW gs j).1
    rw [thi]
    refine ⟨g2, e1.trans (Ext.one _ _), fun s hs => ?_⟩
    simp only
    by_cases e : s < j
    · rw [(ig_app _ _ s j hl).1 e]
      exact (s1 s e).ext (Ext.one _ _)
    · obtain rfl : s = j := by omega
      rw [(ig_app _ _ s s hl).2]
      simpa [gop] using s2
/-- the bit to which a node of the level f leads -/
def nv (l : List Bool) (b n : Nat) (nx : Nat → List Nat) : Nat → Nat → Nat → Bool
  | 0, _, _ => false
  | f + 1, p, k => (List.range (nx p).length).any fun j => te l b (n - (f + 1)) j && (if f = 0 then bt ((nx p).getD j 0) k else nv l b n nx f ((nx p).getD j 0) k)
/-- the nodes' wires -/
theorem rsF_sp (l : List Bool) (TS : List (List Int)) (b n m st : Nat) (lv : Nat → Nat) (nx : Nat → List Nat) (g0 : List C3) (hG : Gd l.length g0)
    (hT : ∀ p, p < n → ∀ s, s < st → Sp l g0 (ig (TS.getD p []) s) (te l b p s))
    (hlv : ∀ i, i < m → (nx i).length = st ∧ 1 ≤ lv i ∧ lv i ≤ n ∧ (1 < lv i → ∀ j, j < st → (nx i).getD j 0 < i ∧ lv ((nx i).getD j 0) = lv i - 1)) : ∀ i, i ≤ m →
    Gd l.length (rsF l.length TS b n lv nx i g0).2 ∧ Ext g0 (rsF l.length TS b n lv nx i g0).2 ∧ ∀ p, p < i → ∀ k, k < b → Sp l (rsF l.length TS b n lv nx i g0).2 (ig ((rsF l.length TS b n lv nx i g0).1.getD p []) k) (nv l b n nx (lv p) p k)
  | 0, _ => ⟨hG, Ext.refl _, fun p hp => absurd hp (Nat.not_lt_zero _)⟩
  | i + 1, him => by
    obtain ⟨g1, e1, s1⟩ := rsF_sp l TS b n m st lv nx g0 hG hT hlv i (by omega)
    obtain ⟨v1, v2, v3, v4⟩ := hlv i (by omega)
    have hl := rsF_rows (l.length : Int) TS b n lv nx g0 i
    obtain ⟨g2, e2, s2⟩ := coF_sp l (fun k g => noF l.length TS (rsF l.length TS b n lv nx i g0).1 n (lv i) (nx i) k g) (fun k => nv l b n nx (lv i) i k) _ g1 b (fun k hk gs' he hg => by
      have ht : ∀ s, s < st → Sp l gs' (ig (TS.getD (n - lv i) []) s) (te l b (n - lv i) s) := fun s hs => ((hT (n - lv i) (by omega) s hs).ext e1).ext he
      obtain ⟨f, hf⟩ : ∃ f, lv i = f + 1 := ⟨lv i - 1, by omega⟩
      unfold noF
      by_cases h1 : lv i = 1
      · rw [if_pos h1]
        obtain ⟨vs, q1, q2, q3⟩ := tlo_sp l gs' (TS.getD (n - 1) []) b (n - 1) k (nx i) (nx i).length (fun s hs => by
          have := ht s (by omega)
          rwa [h1] at this)
        obtain ⟨g3, e3, s3⟩ := eiF_sp l _ vs gs' hg q1 q2
        refine ⟨g3, e3, ?_⟩
        rw [q3] at s3
        have e : nv l b n nx (lv i) i k = (List.range (nx i).length).any fun s => te l b (n - 1) s && bt ((nx i).getD s 0) k := by
          rw [h1]; rfl
        rw [e]
        exact s3
      · rw [if_neg h1]
        have h2 : 1 < lv i := by omega
        obtain ⟨g3, e3, s3⟩ := thi_sp l gs' hg (TS.getD (n - lv i) []) (rw0 (rsF l.length TS b n lv nx i g0).1 (nx i) k) b (n - lv i) (fun j => nv l b n nx f ((nx i).getD j 0) k) (nx i).length (fun s hs => by
          obtain ⟨y1, y2⟩ := v4 h2 s (by omega)
          refine ⟨ht s (by omega), ?_⟩
          have := (s1 _ y1 k hk).ext he
          rwa [y2, hf, Nat.add_sub_cancel] at this)
        have hl3 := (thi_len (l.length : Int) (TS.getD (n - lv i) []) (rw0 (rsF l.length TS b n lv nx i g0).1 (nx i) k) gs' (nx i).length).1
        obtain ⟨g4, e4, s4⟩ := eiF_sp l _ ((List.range (nx i).length).map fun j => te l b (n - lv i) j && nv l b n nx f ((nx i).getD j 0) k) _ g3 (by rw [hl3]; simp) (fun j hj => by
          rw [hl3] at hj
          have := s3 j hj
          simpa [bg, List.getD_eq_getElem?_getD, hj] using this)
        refine ⟨g4, e3.trans e4, ?_⟩
        have e : nv l b n nx (lv i) i k = ((List.range (nx i).length).map fun j => te l b (n - lv i) j && nv l b n nx f ((nx i).getD j 0) k).any id := by
          rw [List.any_map, hf, nv]
          have hf0 : ¬ f = 0 := by omega
          simp only [if_neg hf0]
          rfl
        rw [e]
        exact s4)
    refine ⟨g2, e1.trans e2, fun p hp k hk => ?_⟩
    rw [rsF]
    simp only
    by_cases hpi : p < i
    · rw [(getD_app _ _ [] p i hl).1 hpi]
      exact (s1 p hpi k hk).ext e2
    · obtain rfl : p = i := by omega
      rw [(getD_app _ _ [] p p hl).2]
      exact s2 k hk
/-- a position without a state -/
theorem nv_wrong (l : List Bool) (b n st m i0 : Nat) (lv : Nat → Nat) (nx : Nat → List Nat) (hi0 : i0 < n) (hw : ∀ s, s < st → te l b i0 s = false)
    (hlv : ∀ i, i < m → (nx i).length = st ∧ 1 ≤ lv i ∧ lv i ≤ n ∧ (1 < lv i → ∀ j, j < st → (nx i).getD j 0 < i ∧ lv ((nx i).getD j 0) = lv i - 1)) (k : Nat) : ∀ (f p : Nat), p < m → lv p = f → n - f ≤ i0 → nv l b n nx f p k = false
  | 0, p, _, _, _ => rfl
  | f + 1, p, hp, hl, hn => by
    obtain ⟨v1, v2, v3, v4⟩ := hlv p hp
    rw [nv, List.any_eq_false]
    intro j hj
    rw [v1, List.mem_range] at hj
    by_cases e : n - (f + 1) = i0
    · rw [e, hw j hj]; simp
    · have hf : ¬ f = 0 := by omega
      obtain ⟨y1, y2⟩ := v4 (by omega) j hj
      rw [if_neg hf, nv_wrong l b n st m i0 lv nx hi0 hw hlv k f _ (by omega) (by omega) (by omega)]
      simp
end Go.Proofs.Ytnhkgkpjkgifoaa
