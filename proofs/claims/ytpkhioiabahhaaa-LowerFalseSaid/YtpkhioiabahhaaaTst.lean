/- The walk of test and of the closure that calls it. -/
import Derived.Test.YtpkhioiabahhaaaTes
import Derived.Shelf.Abstract
namespace Go.Proofs.Ytpkhioiabahhaaa
open Go.RowKit

theorem coF_pure {M : Nat → List C3 → Int × List C3} {f : Nat → Int} (h : ∀ k gs, M k gs = (f k, gs)) (gs : List C3) : ∀ j, coF M j gs = ((List.range j).map f, gs)
  | 0 => rfl
  | j + 1 => by rw [coF, coF_pure h gs j, h, List.range_succ, List.map_append]; rfl
/-- the first literal of a test, and the others -/
def tx (nots : List Int) (b i s : Nat) : Int := liV nots b i 0 (bt s 0)
def tr (nots : List Int) (b i s : Nat) : List Int := (List.range (b - 1)).map fun k => liV nots b i (k + 1) (bt s (k + 1))
theorem lits_eq (nots : List Int) (b i s : Nat) (hb : 1 ≤ b) : (List.range b).map (fun k => liV nots b i k (bt s k)) = tx nots b i s :: tr nots b i s := by
  obtain ⟨c, rfl⟩ : ∃ c, b = c + 1 := ⟨b - 1, by omega⟩
  rw [List.range_succ_eq_map, List.map_cons, List.map_map]
  rfl
/-- the gates of a test -/
def teF (I : Int) (nots : List Int) (b i s : Nat) (gs : List C3) : Int × List C3 := chF 3 I (tr nots b i s) (tx nots b i s) gs
theorem three_new (w : World) (c1 c2 c3 : Array Value) (t1 t2 t3 : TypeId) :
    Blk (((w.alloc (.cells c1 t1)).alloc (.cells c2 t2)).alloc (.cells c3 t3)) w.heap.size t1 c1 ∧ Blk (((w.alloc (.cells c1 t1)).alloc (.cells c2 t2)).alloc (.cells c3 t3)) (w.heap.size + 1) t2 c2 ∧ Blk (((w.alloc (.cells c1 t1)).alloc (.cells c2 t2)).alloc (.cells c3 t3)) (w.heap.size + 1 + 1) t3 c3 ∧ Below w.heap.size w (((w.alloc (.cells c1 t1)).alloc (.cells c2 t2)).alloc (.cells c3 t3)) ∧ (((w.alloc (.cells c1 t1)).alloc (.cells c2 t2)).alloc (.cells c3 t3)).heap.size = w.heap.size + 3 := by
  have k1 := Blk.new w t1 c1
  have k2 := Blk.new (w.alloc (.cells c1 t1)) t2 c2
  have k3 := Blk.new ((w.alloc (.cells c1 t1)).alloc (.cells c2 t2)) t3 c3
  simp only [World.size_alloc] at k2 k3
  exact ⟨(k1.alloc _).alloc _, k2.alloc _, k3, (((Below.refl _ w).alloc (Nat.le_refl _) _).alloc (by simp) _).alloc (by simp; omega) _, by simp⟩
set_option maxRecDepth 100000 in
set_option maxHeartbeats 4000000 in
theorem test_any (lb base : Nat) (I : Int) (O : Oc) (b i s no cO : Nat) (AO : Option Addr) (nots : List Int) (w : World) (A : Option Addr) (gs : List C3) (h : GSt lb base I O w A gs) (hlb : lb < base) (hb : base ≤ w.heap.size) (hn : gs.length ≤ 900000) (hI : 0 ≤ I) (hI2 : I ≤ 1000000)
    (hOe : O.e = .int .i64 (b : Int)) (hOf : O.f = .slice AO no cO) (hr : Reads w w.heap.size AO no (il nots)) (hdis : ∀ ad, AO = some ad → ¬ gb lb A ad.block) (hlt : i * b + b ≤ no) (hno : no ≤ 1000000) (hs8 : s < 8) (hb1 : 1 ≤ b) (hb3 : b ≤ 3) :
    Calls Try.prog 46 #[.pointer (some ⟨lb, 0, none⟩), .int .i64 (i : Int), .int .i64 (s : Int)] w fun e w' => ∃ A', e = .returned (.int .i64 (teF I nots b i s gs).1) ∧ GSt lb base I O w' A' (teF I nots b i s gs).2 ∧ Fr (gb lb A) w (gb lb A') w' := by
  obtain ⟨K0, K1, K2, B3, z3⟩ := three_new w #[.pointer (some ⟨lb, 0, none⟩)] #[.int .i64 (i : Int)] #[.int .i64 (s : Int)] 92 3 3
  have HS3 := Lib.hid (show GSt lb base I O (((w.alloc (.cells #[.pointer (some ⟨lb, 0, none⟩)] 92)).alloc (.cells #[.int .i64 (i : Int)] 3)).alloc (.cells #[.int .i64 (s : Int)] 3)) A gs from by
    obtain ⟨c, hk, ho⟩ := h
    exact ⟨c, ((hk.alloc _).alloc _).alloc _, ((ho.alloc _).alloc _).alloc _⟩)
  have HR := Lib.hid (hr.later B3)
  have HD := Lib.hid hdis
  have HLT := Lib.hid hlt
  have HOE := Lib.hid hOe
  have HOF := Lib.hid hOf
  have hAlt : ∀ k, gb lb A k → k < w.heap.size := fun k hk => by
    obtain ⟨c, hk2, ho⟩ := h
    rcases hk with e | e
    · rw [e]; exact hk2.lt
    · exact (ob_ge ho k e).2
  have HA := Lib.hid hAlt
  clear h hr hdis hlt hOe hOf hAlt
  have hrl : (tr nots b i s).length + 1 = b := by simp [tr]; omega
  have HLE := Lib.hid (lits_eq nots b i s hb1)
  unfold teF
  generalize tx nots b i s = x at HLE ⊢
  generalize tr nots b i s = r at HLE hrl ⊢
  have HRL := Lib.hid hrl
  clear hrl
  go_enter Try.func46, Try.ntmps46
  go_upto_region 1 with (fail)
  generalize ((w.alloc (.cells #[.pointer (some ⟨lb, 0, none⟩)] 92)).alloc (.cells #[.int .i64 (i : Int)] 3)).alloc (.cells #[.int .i64 (s : Int)] 3) = w3 at K0 K1 K2 B3 z3 HS3 HR ⊢
  have CO := Lib.hid (collected_any 62 #[.pointer (some ⟨w.heap.size, 0, none⟩), .pointer (some ⟨w.heap.size + 1, 0, none⟩), .pointer (some ⟨w.heap.size + 1 + 1, 0, none⟩)] (enters_of Try.func62 (by kernel_rfl) rfl) lb base I O (fun k gs => (liV nots b i k (bt s k), gs)) b w3 A gs HS3.out hlb (by omega) (by omega) (fun k w' A' G' hk hS hF => by
    rw [coF_pure (f := fun k => liV nots b i k (bt s k)) (fun _ _ => rfl)] at hS ⊢
    have q0 : Blk w' w.heap.size _ _ := hF.blk K0 (fun e => by have := HA.out _ e; omega)
    have q1 : Blk w' (w.heap.size + 1) _ _ := hF.blk K1 (fun e => by have := HA.out _ e; omega)
    have q2 : Blk w' (w.heap.size + 1 + 1) _ _ := hF.blk K2 (fun e => by have := HA.out _ e; omega)
    obtain ⟨c, hk2, ho⟩ := id hS
    obtain ⟨_, _, _, _, l6, l7, _, _⟩ := lwc_at hk2
    rw [HOE.out] at l6
    rw [HOF.out] at l7
    refine (test1_any lb w.heap.size (w.heap.size + 1) (w.heap.size + 1 + 1) b i k s no cO AO nots w' (q0.cell 0) (q1.cell 0) (q2.cell 0) l6 l7 (HR.out.fr hF HD.out) (by have := HLT.out; omega) hno hs8 (by omega)).mono fun e w'' ⟨he, hx⟩ => ⟨A', he, hS.keep (G := fun _ => False) (G' := fun _ => False) (Fr.of_below hx) (fun h => h) (fun _ _ h => h), Fr.of_below hx⟩))
  rw [coF_pure (f := fun k => liV nots b i k (bt s k)) (fun _ _ => rfl), HLE.out] at CO
  have p0 := (K0.cell 0)
  simp only [List.getElem?_toArray, List.getElem?_cons_zero] at p0
  obtain ⟨c3, hk3, _⟩ := HS3.out
  obtain ⟨_, _, _, _, l6, _, _, _⟩ := lwc_at hk3
  rw [HOE.out] at l6
  have KA := Lib.hid K0
  have BA := Lib.hid B3
  have HNA := Lib.hid (show ¬ gb lb A w.heap.size from fun e => by have := HA.out _ e; omega)
  clear K0 K1 K2 B3 hk3
  have HCH := Lib.hid (fun (g : Nat) (w4 : World) (A1 : Option Addr) (k4 : Blk w4 g 3 (il (x :: r)).toArray) (hg : w3.heap.size ≤ g) (hs : GSt lb base I O w4 A1 gs) =>
    chain_any lb base I O 3 g b x r w4 A1 gs hs hlb (by have := k4.lt; omega) (by have := HRL.out; omega) hI hI2 (by have := Reads.of_blk k4; rwa [show (il (x :: r)).length = r.length + 1 by simp [il]] at this) (by have := HRL.out; omega) (fun e => by
      rcases e with e | e
      · omega
      · obtain ⟨c, _, ho⟩ := hs
        exact own_ob_ne ho k4 (by decide) e))
  rw [HRL.out] at HCH
  exact (by
    go_wp2_with first
      | (with_reducible refine (CO.out).mono ?_; rintro e w4 ⟨g, A1, rfl, k4, hg, hs, hf⟩; have HC := Lib.hid (HCH.out g w4 A1 k4 hg hs); have F4 := Lib.hid hf; have p4 := (hf.blk KA.out HNA.out).cell 0; simp only [List.getElem?_toArray, List.getElem?_cons_zero] at p4; clear k4 hg hs hf)
      | (with_reducible refine (HC.out).mono ?_; rintro e w5 ⟨A2, rfl, hs, hf⟩; have S5 := Lib.hid hs; have F5 := Lib.hid hf; clear hs hf)
    go_ret
    exact ⟨_, rfl, S5.out, ((Fr.of_below BA.out).trans F4.out).trans F5.out⟩)
end Go.Proofs.Ytpkhioiabahhaaa
