/- The walk of test and of the closure that calls it. -/
/- The walk of circuitOf's first closure: it calls test. -/
/- The walk of result at the last position. -/
import Derived.Test.YtnhkgkpjkgifoaaMam
import Derived.Shelf.Abstract
namespace Go.Proofs.Ytnhkgkpjkgifoaa
open Go.RowKit

theorem coF_pure {M : Nat → List C3 → Int × List C3} {f : Nat → Int} (h : ∀ k gs, M k gs = (f k, gs)) (gs : List C3) : ∀ j, coF M j gs = ((List.range j).map f, gs)
  | 0 => rfl
  | j + 1 => by rw [coF, coF_pure h gs j, h, List.range_succ, List.map_append]; rfl
/-- the first literal of a test, and the others -/
def tx (nots : List Int) (b i s : Nat) : Int := liV nots b i 0 (bt s 0)
def tr (nots : List Int) (b i s : Nat) : List Int := (List.range (b - 1)).map fun k => liV nots b i (k + 1) (bt s (k + 1))
theorem lits_eq (nots : List Int) (b i s : Nat) (hb : 1 ≤ b) : (List.range b).map (fun k => liV nots b i k (bt s k)) = tx nots b i s :: tr nots b i s := by
  obtain ⟨c, rfl⟩ : ∃ c, b = c + 1 := ⟨b - 1, by omega⟩
  rw [List.range_succ_eq_map, List.map_cons, List.map_map]
  rfl
/-- the gates of a test -/
def teF (I : Int) (nots : List Int) (b i s : Nat) (gs : List C3) : Int × List C3 := chF 3 I (tr nots b i s) (tx nots b i s) gs
theorem three_new (w : World) (c1 c2 c3 : Array Value) (t1 t2 t3 : TypeId) :
    Blk (((w.alloc (.cells c1 t1)).alloc (.cells c2 t2)).alloc (.cells c3 t3)) w.heap.size t1 c1 ∧ Blk (((w.alloc (.cells c1 t1)).alloc (.cells c2 t2)).alloc (.cells c3 t3)) (w.heap.size + 1) t2 c2 ∧ Blk (((w.alloc (.cells c1 t1)).alloc (.cells c2 t2)).alloc (.cells c3 t3)) (w.heap.size + 1 + 1) t3 c3 ∧ Below w.heap.size w (((w.alloc (.cells c1 t1)).alloc (.cells c2 t2)).alloc (.cells c3 t3)) ∧ (((w.alloc (.cells c1 t1)).alloc (.cells c2 t2)).alloc (.cells c3 t3)).heap.size = w.heap.size + 3 := by
  have k1 := Blk.new w t1 c1
  have k2 := Blk.new (w.alloc (.cells c1 t1)) t2 c2
  have k3 := Blk.new ((w.alloc (.cells c1 t1)).alloc (.cells c2 t2)) t3 c3
  simp only [World.size_alloc] at k2 k3
  exact ⟨(k1.alloc _).alloc _, k2.alloc _, k3, (((Below.refl _ w).alloc (Nat.le_refl _) _).alloc (by simp) _).alloc (by simp; omega) _, by simp⟩
set_option maxRecDepth 100000 in
set_option maxHeartbeats 4000000 in
theorem test_any (lb base : Nat) (I : Int) (O : Oc) (b i s no cO : Nat) (AO : Option Addr) (nots : List Int) (w : World) (A : Option Addr) (gs : List C3) (h : GSt lb base I O w A gs) (hlb : lb < base) (hb : base ≤ w.heap.size) (hn : gs.length ≤ 900000) (hI : 0 ≤ I) (hI2 : I ≤ 1000000)
    (hOe : O.e = .int .i64 (b : Int)) (hOf : O.f = .slice AO no cO) (hr : Reads w w.heap.size AO no (il nots)) (hdis : ∀ ad, AO = some ad → ¬ gb lb A ad.block) (hlt : i * b + b ≤ no) (hno : no ≤ 1000000) (hs8 : s < 8) (hb1 : 1 ≤ b) (hb3 : b ≤ 3) :
    Calls Try.prog 61 #[.pointer (some ⟨lb, 0, none⟩), .int .i64 (i : Int), .int .i64 (s : Int)] w fun e w' => ∃ A', e = .returned (.int .i64 (teF I nots b i s gs).1) ∧ GSt lb base I O w' A' (teF I nots b i s gs).2 ∧ Fr (gb lb A) w (gb lb A') w' := by
  obtain ⟨K0, K1, K2, B3, z3⟩ := three_new w #[.pointer (some ⟨lb, 0, none⟩)] #[.int .i64 (i : Int)] #[.int .i64 (s : Int)] 126 3 3
  have HS3 := Lib.hid (show GSt lb base I O (((w.alloc (.cells #[.pointer (some ⟨lb, 0, none⟩)] 126)).alloc (.cells #[.int .i64 (i : Int)] 3)).alloc (.cells #[.int .i64 (s : Int)] 3)) A gs from by
    obtain ⟨c, hk, ho⟩ := h
    exact ⟨c, ((hk.alloc _).alloc _).alloc _, ((ho.alloc _).alloc _).alloc _⟩)
  have HR := Lib.hid (hr.later B3)
  have HD := Lib.hid hdis
  have HLT := Lib.hid hlt
  have HOE := Lib.hid hOe
  have HOF := Lib.hid hOf
  have hAlt : ∀ k, gb lb A k → k < w.heap.size := fun k hk => by
    obtain ⟨c, hk2, ho⟩ := h
    rcases hk with e | e
    · rw [e]; exact hk2.lt
    · exact (ob_ge ho k e).2
  have HA := Lib.hid hAlt
  clear h hr hdis hlt hOe hOf hAlt
  have hrl : (tr nots b i s).length + 1 = b := by simp [tr]; omega
  have HLE := Lib.hid (lits_eq nots b i s hb1)
  unfold teF
  generalize tx nots b i s = x at HLE ⊢
  generalize tr nots b i s = r at HLE hrl ⊢
  have HRL := Lib.hid hrl
  clear hrl
  go_enter Try.func61, Try.ntmps61
  go_upto_region 1 with (fail)
  generalize ((w.alloc (.cells #[.pointer (some ⟨lb, 0, none⟩)] 126)).alloc (.cells #[.int .i64 (i : Int)] 3)).alloc (.cells #[.int .i64 (s : Int)] 3) = w3 at K0 K1 K2 B3 z3 HS3 HR ⊢
  have CO := Lib.hid (collected_any 96 #[.pointer (some ⟨w.heap.size, 0, none⟩), .pointer (some ⟨w.heap.size + 1, 0, none⟩), .pointer (some ⟨w.heap.size + 1 + 1, 0, none⟩)] (enters_of Try.func96 (by kernel_rfl) rfl) lb base I O (fun k gs => (liV nots b i k (bt s k), gs)) b w3 A gs HS3.out hlb (by omega) (by omega) (fun k w' A' G' hk hS hF => by
    rw [coF_pure (f := fun k => liV nots b i k (bt s k)) (fun _ _ => rfl)] at hS ⊢
    have q0 : Blk w' w.heap.size _ _ := hF.blk K0 (fun e => by have := HA.out _ e; omega)
    have q1 : Blk w' (w.heap.size + 1) _ _ := hF.blk K1 (fun e => by have := HA.out _ e; omega)
    have q2 : Blk w' (w.heap.size + 1 + 1) _ _ := hF.blk K2 (fun e => by have := HA.out _ e; omega)
    obtain ⟨c, hk2, ho⟩ := id hS
    obtain ⟨_, _, _, _, l6, l7, _, _⟩ := lwc_at hk2
    rw [HOE.out] at l6
    rw [HOF.out] at l7
    refine (test1_any lb w.heap.size (w.heap.size + 1) (w.heap.size + 1 + 1) b i k s no cO AO nots w' (q0.cell 0) (q1.cell 0) (q2.cell 0) l6 l7 (HR.out.fr hF HD.out) (by have := HLT.out; omega) hno hs8 (by omega)).mono fun e w'' ⟨he, hx⟩ => ⟨A', he, hS.keep (G := fun _ => False) (G' := fun _ => False) (Fr.of_below hx) (fun h => h) (fun _ _ h => h), Fr.of_below hx⟩))
  rw [coF_pure (f := fun k => liV nots b i k (bt s k)) (fun _ _ => rfl), HLE.out] at CO
  have p0 := (K0.cell 0)
  simp only [List.getElem?_toArray, List.getElem?_cons_zero] at p0
  obtain ⟨c3, hk3, _⟩ := HS3.out
  obtain ⟨_, _, _, _, l6, _, _, _⟩ := lwc_at hk3
  rw [HOE.out] at l6
  have KA := Lib.hid K0
  have BA := Lib.hid B3
  have HNA := Lib.hid (show ¬ gb lb A w.heap.size from fun e => by have := HA.out _ e; omega)
  clear K0 K1 K2 B3 hk3
  have HCH := Lib.hid (fun (g : Nat) (w4 : World) (A1 : Option Addr) (k4 : Blk w4 g 3 (il (x :: r)).toArray) (hg : w3.heap.size ≤ g) (hs : GSt lb base I O w4 A1 gs) =>
    chain_any lb base I O 3 g b x r w4 A1 gs hs hlb (by have := k4.lt; omega) (by have := HRL.out; omega) hI hI2 (by have := Reads.of_blk k4; rwa [show (il (x :: r)).length = r.length + 1 by simp [il]] at this) (by have := HRL.out; omega) (fun e => by
      rcases e with e | e
      · omega
      · obtain ⟨c, _, ho⟩ := hs
        exact own_ob_ne ho k4 (by decide) e))
  rw [HRL.out] at HCH
  exact (by
    go_wp2_with first
      | (with_reducible refine (CO.out).mono ?_; rintro e w4 ⟨g, A1, rfl, k4, hg, hs, hf⟩; have HC := Lib.hid (HCH.out g w4 A1 k4 hg hs); have F4 := Lib.hid hf; have p4 := (hf.blk KA.out HNA.out).cell 0; simp only [List.getElem?_toArray, List.getElem?_cons_zero] at p4; clear k4 hg hs hf)
      | (with_reducible refine (HC.out).mono ?_; rintro e w5 ⟨A2, rfl, hs, hf⟩; have S5 := Lib.hid hs; have F5 := Lib.hid hf; clear hs hf)
    go_ret
    exact ⟨_, rfl, S5.out, ((Fr.of_below BA.out).trans F4.out).trans F5.out⟩)
end Go.Proofs.Ytnhkgkpjkgifoaa
namespace Go.Proofs.Ytnhkgkpjkgifoaa
open Go.RowKit

set_option maxRecDepth 100000 in
set_option maxHeartbeats 4000000 in
theorem ci1_any (lb base : Nat) (I : Int) (O : Oc) (b i s no cO gi : Nat) (AO : Option Addr) (nots : List Int) (w : World) (A : Option Addr) (gs : List C3) (h : GSt lb base I O w A gs) (hlb : lb < base) (hb : base ≤ w.heap.size) (hn : gs.length ≤ 900000) (hI : 0 ≤ I) (hI2 : I ≤ 1000000)
    (hOe : O.e = .int .i64 (b : Int)) (hOf : O.f = .slice AO no cO) (hr : Reads w w.heap.size AO no (il nots)) (hdis : ∀ ad, AO = some ad → ¬ gb lb A ad.block) (hlt : i * b + b ≤ no) (hno : no ≤ 1000000) (hs8 : s < 8) (hb1 : 1 ≤ b) (hb3 : b ≤ 3)
    (hi : w.cell? ⟨gi, 0, none⟩ = some (.int .i64 (i : Int))) :
    Calls Try.prog 60 #[.int .i64 (s : Int), .pointer (some ⟨lb, 0, none⟩), .pointer (some ⟨gi, 0, none⟩)] w fun e w' => ∃ A', e = .returned (.int .i64 (teF I nots b i s gs).1) ∧ GSt lb base I O w' A' (teF I nots b i s gs).2 ∧ Fr (gb lb A) w (gb lb A') w' := by
  have TE := Lib.hid (test_any lb base I O b i s no cO AO nots w A gs h hlb hb hn hI hI2 hOe hOf hr hdis hlt hno hs8 hb1 hb3)
  clear h hr hdis hlt hOe hOf
  generalize teF I nots b i s gs = x at TE ⊢
  go_enter Try.func60, Try.ntmps60
  go_wp2_with (with_reducible refine (TE.out).mono ?_; rintro e w5 ⟨A2, rfl, hs, hf⟩; have S5 := Lib.hid hs; have F5 := Lib.hid hf; clear hs hf)
  go_ret
  exact ⟨_, rfl, S5.out, F5.out⟩
end Go.Proofs.Ytnhkgkpjkgifoaa
namespace Go.Proofs.Ytnhkgkpjkgifoaa
open Go.RowKit

/-- append of one value, and where the new row lies -/
theorem wpList_append1F {P : Program} {w : World} {ops : Array Oper} {rest : List Oper} {o : Oper} {a : Act} {Q : Exit → Act → World → Prop} (hgd : o.guard = none) (s x : Operand) (t : TypeId)
    (ho : o.op = .call { callee := .builtin .append, args := #[s, x], argTypes := #[t, t] })
    (base : Nat) (e : TypeId) (i : TypeInfo) (z : Value) (bytes : Nat) (ht : P.underlying t = some (.slice e)) (hi : P.info? e = some i) (hz : i.zero = some z)
    (hsize : i.size = 1) (hby : i.bytes = bytes) (hzs : z.cells.size = 1)
    (A : Option Addr) (n c : Nat) (xs : List Value) (hs : a.eval s = .slice A n c) (hown : w.ownsRow base e 1 (.slice A n c) n xs) (u : Value)
    (hx : a.eval x = .slice (some ⟨w.heap.size, 0, none⟩) 1 1) (h1 : u.oneCell' = true) (h63 : n + 1 ≤ maxLen) (hbytes : (n + 1) * bytes ≤ 140737488355328) (hbase : base ≤ w.heap.size)
    (h : ∀ g' c' w', w'.ownsRow base e 1 (.slice (some ⟨g', 0, none⟩) (n + 1) c') (n + 1) (xs ++ [u]) → Fr (ob A) w (ob (some ⟨g', 0, none⟩)) w' → wpList P ops Q rest (a.put o.dst (.slice (some ⟨g', 0, none⟩) (n + 1) c')) w') :
    wpList P ops Q (o :: rest) a (w.alloc (.cells #[u] e)) := by
  refine wpList_append_lies _ hgd s x t ho base e i z 1 bytes ht hi hz hsize hby hzs (by decide) _ n xs hs (hown.alloc _) ⟨w.heap.size, 0, none⟩ 1 1 [u] hx rfl ?_ ?_ (by decide) h63 hbytes (by simp; omega) (w.heap.size + 1) (by simp) ?_
  · intro j y hj
    match j, hj with
    | 0, hj => simp at hj; subst hj; simp [Addr.add]
  · intro y hy; simp at hy; subst hy; exact h1
  · intro g' c' w' hown' hg hat _
    have hs := hg.size
    rw [World.size_alloc] at hs
    refine h g' c' w' hown' ⟨hg.os, hg.tape, hg.output, by omega, fun k hk hn => ?_, fun k hk => ?_⟩
    · rw [hg.block k (by rw [World.size_alloc]; omega) (fun e => hn (ob_own.2 e.symm))]
      exact Below.heap_alloc w _ k hk
    · have e : g' = k := by simpa [ob, Value.ownBlock] using hk
      subst e
      rcases hat with q | q
      · exact .inl (ob_own.2 q)
      · right; omega
/-- a row that is owned from a bound on is owned from a lower one on -/
theorem own_lower {w : World} {base base' k n : Nat} {e : TypeId} {v : Value} {xs : List Value} (h : w.ownsRow base e k v n xs) (hb : base' ≤ base) : w.ownsRow base' e k v n xs := by
  refine ⟨h.1, ?_⟩
  rcases h.2 with hn | ⟨g, cap, cur, rfl, hbg, rest⟩
  · exact .inl hn
  · exact .inr ⟨g, cap, cur, rfl, by omega, rest⟩
/-- the terms of a node of level 1 -/
def tlo (TP : List Int) (k : Nat) (nx : List Nat) : Nat → List Int
  | 0 => []
  | j + 1 => tlo TP k nx j ++ (if bt (nx.getD j 0) k then [ig TP j] else [])
theorem tlo_len (TP : List Int) (k : Nat) (nx : List Nat) : ∀ j, (tlo TP k nx j).length ≤ j
  | 0 => Nat.le_refl _
  | j + 1 => by
    have := tlo_len TP k nx j
    rw [tlo, List.length_append]
    split <;> simp <;> omega
/-- numbers as cells -/
def nl (l : List Nat) : List Int := l.map fun (x : Nat) => (x : Int)
theorem nl_ig (l : List Nat) (j : Nat) : ig (nl l) j = ((l.getD j 0 : Nat) : Int) := by
  simp only [ig, nl, List.getD_eq_getElem?_getD, List.getElem?_map]
  cases l[j]? <;> rfl
set_option maxRecDepth 100000 in
set_option maxHeartbeats 8000000 in
theorem res_lo (lb base : Nat) (I : Int) (O : Oc) (AH : Option Addr) (nh cH : Nat) (adT : Addr) (nT cT p gt : Nat) (TP : List Int) (k : Nat) (adN : Addr) (cN : Nat) (nx : List Nat) (w : World) (A : Option Addr) (gs : List C3)
    (h : GSt lb base I O w A gs) (hlb : lb < base) (hb : base ≤ w.heap.size) (hn : gs.length ≤ 900000) (hI : 0 ≤ I) (hI2 : I ≤ 1000000)
    (hOc : O.c = .slice AH nh cH) (hOg : O.g = .slice (some adT) nT cT) (hp : nh = p + 1) (hpT : p < nT) (hnh : nh ≤ 1000)
    (hT : ∀ w' G', Fr (gb lb A) w G' w' → w'.cell? (adT.add p) = some (.slice (some ⟨gt, 0, none⟩) TP.length TP.length) ∧ Blk w' gt 3 (il TP).toArray)
    (hN : ∀ w' G', Fr (gb lb A) w G' w' → Reads w' w'.heap.size (some adN) nx.length (il (nl nx)))
    (hlt : nx.length ≤ TP.length) (hn8 : nx.length ≤ 8) (hx8 : ∀ j, nx.getD j 0 < 8) (hk : k < 3) :
    Calls Try.prog 63 #[.pointer (some ⟨lb, 0, none⟩), .agg #[.int .i64 1, .slice (some adN) nx.length cN], .int .i64 (k : Int)] w fun e w' => ∃ A', e = .returned (.int .i64 (eiF I (tlo TP k nx nx.length) gs).1) ∧ GSt lb base I O w' A' (eiF I (tlo TP k nx nx.length) gs).2 ∧ Fr (gb lb A) w (gb lb A') w' := by
  obtain ⟨ii, hii, hz0, hz1, hz2⟩ := info_parts Try.info_intL
  have K0 := Blk.new w 54 #[.int .i64 1, .slice (some adN) nx.length cN]
  have F0 : Fr (gb lb A) w (gb lb A) (w.alloc (.cells #[.int .i64 1, .slice (some adN) nx.length cN] 54)) := Fr.alloc _ _ _
  have HS0 := Lib.hid (show GSt lb base I O (w.alloc (.cells #[.int .i64 1, .slice (some adN) nx.length cN] 54)) A gs from by
    obtain ⟨c, hk, ho⟩ := h
    exact ⟨c, hk.alloc _, ho.alloc _⟩)
  have z0 : (w.alloc (.cells #[.int .i64 1, .slice (some adN) nx.length cN] 54)).heap.size = w.heap.size + 1 := by simp
  have HT := Lib.hid hT
  have HN := Lib.hid hN
  have HX := Lib.hid hx8
  have HL := Lib.hid hlt
  obtain ⟨m, hm⟩ : ∃ m, nx.length = m := ⟨_, rfl⟩
  have HM := Lib.hid hm
  rw [hm] at K0 F0 HS0 z0 hn8 ⊢
  have e1 : IntKind.i64.wrap ((nh : Int) - 1) = (p : Int) := by rw [hp, show ((p + 1 : Nat) : Int) - 1 = (p : Int) by omega]; exact IntWalk.i64_in _ ⟨by omega, by omega⟩
  have b1 : (p : Int) < (nT : Int) := by omega
  clear h hT hN hx8 hm hlt
  go_enter Try.func63, Try.ntmps63
  go_upto_region 1 with (fail)
  generalize w.alloc (.cells #[.int .i64 1, .slice (some adN) m cN] 54) = w0 at K0 F0 HS0 z0 ⊢
  have k0 : w0.cell? ⟨w.heap.size, 0, none⟩ = some (.int .i64 1) := (K0.cell 0).trans rfl
  have k1 : w0.cell? ⟨w.heap.size, 1, none⟩ = some (.slice (some adN) m cN) := (K0.cell 1).trans rfl
  obtain ⟨c3, hk3, _⟩ := id HS0.out
  obtain ⟨_, _, l4, _, _, _, l8, _⟩ := lwc_at hk3
  rw [hOc] at l4
  rw [hOg] at l8
  obtain ⟨t0, KT⟩ := HT.out w0 _ F0
  have KN := Lib.hid K0
  have FN := Lib.hid F0
  have HP := Lib.hid hp
  clear K0 F0 KT hk3 hp
  exact (by
    go_wp2_with fail
    go_region
    go_wp2_with fail
    have HS1 := Lib.hid (show GSt lb base I O w0.drew A gs from HS0.out)
    have F1 := Lib.hid (Fr.drew FN.out)
    have N1 := Lib.hid (Blk.drew KN.out)
    have z1 : w0.drew.heap.size = w.heap.size + 1 := z0
    clear HS0 FN KN z0
    generalize w0.drew = w1 at HS1 F1 N1 z1 ⊢
    have HF1 := Lib.hid (show Fr (gb lb A) w (fun b => gb lb A b ∨ ob none b) w1 from F1.out.weak (fun _ h => h) (fun b hb => by
      rcases hb with hb | hb
      · exact .inl hb
      · cases hb))
    clear F1
    exact (by
      go_loopw [8, 29] (fun tv iv wr => ∃ (j : Nat) (ts : List Int) (AW : Option Addr) (cW : Nat), j ≤ m ∧ ts.length ≤ j ∧ tv = .slice AW ts.length cW ∧ iv = .int .i64 (j : Int) ∧ Hid (tlo TP k nx j = ts) ∧ Hid (wr.ownsRow w1.heap.size 3 1 (.slice AW ts.length cW) ts.length (il ts)) ∧ Hid (GSt lb base I O wr A gs) ∧ Hid (Fr (gb lb A) w (fun b => gb lb A b ∨ ob AW b) wr) ∧ Hid (Blk wr w.heap.size 54 #[.int .i64 1, .slice (some adN) m cN]) ∧ w1.heap.size ≤ wr.heap.size) (fun _ iv _ => m - (intOf iv).toNat)
      case atStart => exact ⟨0, [], none, 0, Nat.zero_le _, Nat.le_refl _, rfl, rfl, Lib.hid rfl, Lib.hid (World.ownsRow_nil _ _ _ _), HS1, HF1, N1, Nat.le_refl _⟩
      case round =>
        obtain ⟨j, ts, AW, cW, hj, htl, rfl, rfl, HC, HW, HS, HF, HND, hsz⟩ := hrel
        by_cases hlt : j < m
        · have hjI : (j : Int) < (m : Int) := by omega
          have k0 : wr.cell? ⟨w.heap.size, 0, none⟩ = some (.int .i64 1) := (HND.out.cell 0).trans rfl
          obtain ⟨ad, e0, _, hcj⟩ := il_at (HN.out wr _ HF.out) (show j < nx.length by rw [HM.out]; exact hlt)
          injection e0 with e0
          subst e0
          rw [nl_ig] at hcj
          have h8 := HX.out j
          have DG := Lib.hid (fun w' => digit_any (nx.getD j 0) k w' h8 hk)
          have ct : wr.cell? ⟨gt, j, none⟩ = some (.int .i64 (ig TP j)) := by
            have q := ((HT.out wr _ HF.out).2.cell j)
            rw [q]
            have : j < TP.length := by have := HL.out; rw [HM.out] at this; omega
            simp [il, ig, List.getElem?_eq_getElem this, List.getD_eq_getElem?_getD]
          have bt1 : (j : Int) < (TP.length : Int) := by have := HL.out; rw [HM.out] at this; omega
          have HB := Lib.hid (show tlo TP k nx (j + 1) = ts ++ (if bt (nx.getD j 0) k then [ig TP j] else []) from by rw [tlo, HC.out])
          generalize nx.getD j 0 = x at DG hcj h8 HB
          generalize ig TP j = y at ct HB
          obtain ⟨n, hnn⟩ : ∃ n, ts.length = n := ⟨_, rfl⟩
          have HNN := Lib.hid hnn
          rw [hnn] at HW htl ⊢
          have hl1 : n + 1 ≤ maxLen ∧ (n + 1) * 8 ≤ 140737488355328 := by unfold maxLen; omega
          have HL1 := Lib.hid hl1
          clear hnn hl1
          generalize bt x k = tb at DG HB
          exact (by
            cases tb
            · go_wp2_with (go_at_call 34; (with_reducible refine (DG.out _).mono ?_); rintro e w2 ⟨rfl, rfl⟩)
              go_roundw
              case rel => exact ⟨j + 1, ts, AW, cW, by omega, by rw [HNN.out]; omega, by rw [HNN.out], by go_num, Lib.hid (by have := HB.out; simpa using this), Lib.hid (by rw [HNN.out]; exact HW.out), HS, HF, HND, hsz⟩
              case measure => simp [intOf]; omega
            · go_wp2_with (first | (go_at_call 34; (with_reducible refine (DG.out _).mono ?_); rintro e w2 ⟨rfl, rfl⟩) | (at_builtin; refine wpList_append1F rfl _ _ 26 rfl w1.heap.size 3 ii (.int .i64 0) 8 Try.underlying26 hii hz0 hz1 hz2 rfl AW n cW _ rfl HW.out (.int .i64 y) rfl rfl HL1.out.1 HL1.out.2 hsz ?_; intro g' c' w3 hown hfr; have OW := Lib.hid hown; have FR := Lib.hid hfr; clear hown hfr))
              go_roundw
              case rel =>
                have hAW : ∀ b, ob AW b → w1.heap.size ≤ b := fun b hb => (ob_ge HW.out b hb).1
                refine ⟨j + 1, ts ++ [y], some ⟨g', 0, none⟩, c', by omega, by rw [List.length_append, HNN.out]; simp; omega, by rw [List.length_append, HNN.out]; rfl, by go_num, Lib.hid (by have := HB.out; simpa using this), Lib.hid ?_, Lib.hid ?_, Lib.hid (HF.out.trans ?_), Lib.hid ?_, Nat.le_trans hsz FR.out.size⟩
                · rw [List.length_append, HNN.out, show il (ts ++ [y]) = il ts ++ [.int .i64 y] by simp [il]]
                  exact OW.out
                · refine HS.out.keep FR.out (fun e => by have := hAW _ e; omega) (fun b hA e => ?_)
                  obtain ⟨c, _, ho⟩ := HS.out
                  exact own_ne2 ho HW.out (by decide) (ob_own.1 hA) (ob_own.1 e)
                · refine FR.out.weak (fun _ h => .inr h) (fun b hb => ?_)
                  rcases hb with hb | hb
                  · exact .inl (.inl hb)
                  · exact (FR.out.new b hb).imp .inr id
                · exact FR.out.blk HND.out (fun e => by have := hAW _ e; omega)
              case measure => simp [intOf]; omega)
        · obtain rfl : j = m := by omega
          have EA := Lib.hid (either_any lb base I O AW cW ts wr A gs HS.out hlb (by omega) (by omega) hI hI2 (own_lower HW.out (by omega)))
          exact (by
            go_wp2_with (go_at_call 99; (with_reducible refine (EA.out).mono ?_); rintro e w2 ⟨A2, rfl, hs, hf⟩; have S2 := Lib.hid hs; have F2 := Lib.hid hf; clear hs hf)
            go_ret
            rw [HC.out]
            have F3 := HF.out.trans (F2.out.weak' (ob AW))
            exact ⟨A2, rfl, S2.out, ⟨F3.os, F3.tape, F3.output, F3.size, F3.block, fun b hb => F3.new b (.inl hb)⟩⟩)))
end Go.Proofs.Ytnhkgkpjkgifoaa
