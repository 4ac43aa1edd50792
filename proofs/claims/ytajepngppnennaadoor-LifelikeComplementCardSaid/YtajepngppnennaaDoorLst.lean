/- The walks of list and of exchanged. -/
import Derived.Test.YtajepngppnennaaDoorArr
import Derived.Test.YtajepngppnennaaDoorColl
namespace Go.Proofs.YtajepngppnennaaDoor
open Go.RowKit

/-- the numbers below n that a table has -/
def nl (p : Nat → Bool) (n : Nat) : List Int := ((List.range n).filter p).map fun (k : Nat) => (k : Int)
theorem nl_succ (p : Nat → Bool) (n : Nat) : nl p (n + 1) = if p n = true then nl p n ++ [(n : Int)] else nl p n := by
  unfold nl
  rw [List.range_succ, List.filter_append]
  by_cases h : p n = true <;> simp [h]
theorem nl_len (p : Nat → Bool) (n : Nat) : (nl p n).length ≤ n := by
  have := List.length_filter_le p (List.range n)
  simpa [nl] using this
set_option maxRecDepth 100000 in
set_option maxHeartbeats 2000000 in
theorem list_any (p : Nat → Bool) (w : World) :
    Calls Tryd.prog 26 #[.agg (bls p)] w fun e w' => ∃ A c, e = .returned (.slice A (nl p 10).length c) ∧ w'.ownsRow w.heap.size 3 1 (.slice A (nl p 10).length c) (nl p 10).length (il (nl p 10)) ∧ Below w.heap.size w w' := by
  obtain ⟨i0, hi, hz0, hz1, hz2⟩ := info_parts Tryd.info_int
  have X := fun k h w => run_bls p k h w
  have HB := Lib.hid ((Below.refl w.heap.size w).alloc (Nat.le_refl _) (.cells (bls p) 45))
  have K := Lib.hid (Blk.new w 45 (bls p))
  have hpos : w.heap.size ≤ (w.alloc (.cells (bls p) 45)).heap.size := by simp
  simp only [bls] at X HB K hpos ⊢
  have zz := Lib.hid X
  (try clear X)
  have X := zz
  clear zz
  go_enter Tryd.func26, Tryd.ntmps26
  go_wp2
  generalize w.alloc (.cells #[.bool (p 0), .bool (p 1), .bool (p 2), .bool (p 3), .bool (p 4), .bool (p 5), .bool (p 6), .bool (p 7), .bool (p 8), .bool (p 9)] 45) = w0 at HB K hpos ⊢
  go_loopw [3, 7] (fun lv jv wr => ∃ (j m : Nat) (l : List Int) (A : Option Addr) (c : Nat), j ≤ 10 ∧ jv = .int .i64 (j : Int) ∧ l = nl p j ∧ m = l.length ∧ m ≤ j ∧ lv = .slice A m c ∧ wr.ownsRow w.heap.size 3 1 (.slice A m c) m (il l) ∧ Below w.heap.size w wr) (fun _ jv _ => 10 - (intOf jv).toNat)
  case atStart => exact ⟨0, 0, [], none, 0, Nat.zero_le _, rfl, rfl, rfl, Nat.zero_le _, rfl, World.ownsRow_nil _ _ _ _, HB.out⟩
  case round =>
    obtain ⟨j, m, l, A, c, hj, rfl, hl, hm, hmj, rfl, hown, hbel⟩ := hrel
    have HL := Lib.hid hl
    have HM := Lib.hid hm
    have HE := Lib.hid hbel
    have hs := hbel.size
    clear hl hm hbel
    by_cases hjn : j < 10
    · have X1 := fun w => X.out j hjn w
      have step := fun (l' : List Int) (e : l' = if p j = true then l ++ [(j : Int)] else l) => (show l' = nl p (j + 1) by rw [e, nl_succ, ← HL.out])
      generalize p j = q at X1 step
      have STEP := Lib.hid step
      clear step
      cases q with
      | true =>
        go_wp2_with (at_builtin; refine wpList_append1 rfl _ _ 23 rfl w.heap.size 3 i0 (.int .i64 0) 8 Tryd.underlying23 hi hz0 hz1 hz2 rfl A m c _ rfl hown (.int .i64 (j : Int)) rfl rfl (by unfold maxLen; omega) (by omega) hs ?_; intro g' c' w2 hown' hbel')
        go_roundw
        case rel => exact ⟨j + 1, m + 1, l ++ [(j : Int)], some ⟨g', 0, none⟩, c', by omega, by go_num, STEP.out _ rfl, by rw [HM.out]; simp, by omega, rfl, by rw [il_add]; exact hown', HE.out.trans hbel'⟩
        case measure => simp [intOf]; omega
      | false =>
        go_wp2
        go_roundw
        case rel => exact ⟨j + 1, m, l, A, c, by omega, by go_num, STEP.out _ rfl, HM.out, by omega, rfl, hown, HE.out⟩
        case measure => simp [intOf]; omega
    · obtain rfl : j = 10 := by omega
      have hl := HL.out
      have hm := HM.out
      clear HL HM
      subst hl
      subst hm
      go_wp2
      go_ret
      exact ⟨A, c, rfl, hown, HE.out⟩
/-- the numbers k up to m for which a list does not have m - k -/
def exq (l : List Int) (m : Nat) (k : Nat) : Bool := decide (k < m + 1) && !decide ((m : Int) - (k : Int) ∈ l)
def ex (l : List Int) (m : Nat) : List Int := nl (exq l m) 10
/-- the table when the numbers below j have been looked at -/
def exj (l : List Int) (m j : Nat) (k : Nat) : Bool := decide (k < j) && !decide ((m : Int) - (k : Int) ∈ l)
theorem exj_upd (l : List Int) (m j : Nat) : upd (exj l m j) j (!decide ((m : Int) - (j : Int) ∈ l)) = exj l m (j + 1) := by
  funext k
  unfold upd exj
  by_cases h : k = j
  · subst h
    simp
  · rw [if_neg h]
    congr 1
    rw [Bool.eq_iff_iff]
    simp only [decide_eq_true_iff]
    omega
theorem bls_none (l : List Int) (m : Nat) : bls (exj l m 0) = #[.bool false, .bool false, .bool false, .bool false, .bool false, .bool false, .bool false, .bool false, .bool false, .bool false] := by
  simp [bls, exj]
theorem Blk.ten {w : World} {g : Nat} {t : TypeId} {c0 c1 c2 c3 c4 c5 c6 c7 c8 c9 : Value} (h : Blk w g t #[c0, c1, c2, c3, c4, c5, c6, c7, c8, c9]) :
    w.cell? ⟨g, 0, none⟩ = some c0 ∧ w.cell? ⟨g, 1, none⟩ = some c1 ∧ w.cell? ⟨g, 2, none⟩ = some c2 ∧ w.cell? ⟨g, 3, none⟩ = some c3 ∧ w.cell? ⟨g, 4, none⟩ = some c4 ∧ w.cell? ⟨g, 5, none⟩ = some c5 ∧ w.cell? ⟨g, 6, none⟩ = some c6 ∧ w.cell? ⟨g, 7, none⟩ = some c7 ∧ w.cell? ⟨g, 8, none⟩ = some c8 ∧ w.cell? ⟨g, 9, none⟩ = some c9 ∧ g < w.heap.size :=
  ⟨by rw [h.cell]; rfl, by rw [h.cell]; rfl, by rw [h.cell]; rfl, by rw [h.cell]; rfl, by rw [h.cell]; rfl, by rw [h.cell]; rfl, by rw [h.cell]; rfl, by rw [h.cell]; rfl, by rw [h.cell]; rfl, by rw [h.cell]; rfl, h.lt⟩
set_option maxRecDepth 100000 in
set_option maxHeartbeats 2000000 in
theorem exchanged_any (A : Option Addr) (n c m : Nat) (l : List Int) (w : World) (h : Reads w w.heap.size A n (il l)) (hn : n ≤ 1000000) (hm : m ≤ 8) :
    Calls Tryd.prog 16 #[.slice A n c, .int .i64 (m : Int)] w fun e w' => ∃ A' c', e = .returned (.slice A' (ex l m).length c') ∧ w'.ownsRow w.heap.size 3 1 (.slice A' (ex l m).length c') (ex l m).length (il (ex l m)) ∧ Below w.heap.size w w' := by
  have LI := Lib.hid (fun w => list_any (exj l m (m + 1)) w)
  have HX := Lib.hid (show nl (exj l m (m + 1)) 10 = ex l m from rfl)
  rw [HX.out] at LI
  have CO := Lib.hid (fun k w' (hb : Below w.heap.size w w') => contains_any A n c _ l k w' (h.later hb) hn)
  have K0 := Lib.hid (Blk.new w 45 (bls (exj l m 0)))
  have B0 := Lib.hid ((Below.refl w.heap.size w).alloc (Nat.le_refl _) (.cells (bls (exj l m 0)) 45))
  rw [bls_none] at K0 B0
  clear h
  go_enter Tryd.func16, Tryd.ntmps16
  go_wp2
  generalize w.alloc (.cells #[.bool false, .bool false, .bool false, .bool false, .bool false, .bool false, .bool false, .bool false, .bool false, .bool false] 45) = w0 at K0 B0 ⊢
  go_loopw [9] (fun jv wr => ∃ j : Nat, j ≤ m + 1 ∧ jv = .int .i64 (j : Int) ∧ Blk wr w.heap.size 45 (bls (exj l m j)) ∧ Below w.heap.size w wr) (fun jv _ => m + 1 - (intOf jv).toNat)
  case atStart => exact ⟨0, Nat.zero_le _, rfl, by rw [bls_none]; exact K0.out, B0.out⟩
  case round =>
    obtain ⟨j, hj, rfl, hk, hbel⟩ := hrel
    have HK := Lib.hid hk
    have HE := Lib.hid hbel
    clear hk hbel
    by_cases hjm : j < m + 1
    · have h1 : (j : Int) < (m : Int) + 1 := by omega
      have h10 : j < 10 := by omega
      have hd := HK.out.cell j
      rw [bls_at _ _ h10] at hd
      have hf := HK.out.frozen j
      have hlt := HK.out.lt
      have C1 := CO.out ((m : Int) - (j : Int)) wr HE.out
      have HU := Lib.hid (exj_upd l m j)
      generalize decide ((m : Int) - (j : Int) ∈ l) = q at C1 HU
      have zz := Lib.hid C1
      (try clear C1)
      have C1 := zz
      clear zz
      go_wp2_with (go_at_call 30; (with_reducible refine C1.out.mono ?_); rintro e w2 ⟨rfl, rfl⟩)
      go_roundw
      case rel => exact ⟨j + 1, by omega, by go_num, by rw [← HU.out, ← bls_set _ _ _ h10]; exact HK.out.set_ j _, HE.out.setCell (p := ⟨w.heap.size, j, none⟩) (Nat.le_refl _) _⟩
      case measure => simp [intOf]; omega
    · obtain rfl : j = m + 1 := by omega
      have hk := HK.out
      simp only [bls] at hk LI
      obtain ⟨k0, k1, k2, k3, k4, k5, k6, k7, k8, k9, k10⟩ := hk.ten
      clear hk
      go_wp2_with (go_at_call 26; (with_reducible refine (LI.out _).mono ?_); rintro e w2 ⟨A2, c2, rfl, ho, hb⟩; have HO := Lib.hid ho; have HB := Lib.hid (HE.out.trans (hb.mono HE.out.size)); clear ho hb)
      go_ret
      exact ⟨A2, c2, rfl, own_base HO.out HE.out.size, HB.out⟩
end Go.Proofs.YtajepngppnennaaDoor
