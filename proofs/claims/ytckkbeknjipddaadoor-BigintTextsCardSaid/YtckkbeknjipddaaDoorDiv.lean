/- The walks of Div64 (at a high half of 0) and of divide. -/
import Derived.Test.YtckkbeknjipddaaDoorNum
import Derived.Deep.QuietTactic
import Derived.BigQuiet
namespace Go.Proofs.YtckkbeknjipddaaDoor
open Go.RowKit

theorem div64_any (lo y : Nat) (w : World) (hlo : lo < 18446744073709551616) (hy : 0 < y) (hy2 : y < 18446744073709551616) :
    Calls Tryd.prog 50 #[.int .u64 0, .int .u64 (lo : Nat), .int .u64 (y : Nat)] w fun e w' => e = .returned (.tuple #[.int .u64 (lo / y : Nat), .int .u64 (lo % y : Nat)]) ∧ ∃ k, w' = w.drewN k := by
  have h1 : ((y : Int) == 0) = false := by rw [← Bool.not_eq_true, beq_iff_eq]; omega
  go_enter Tryd.func50, Tryd.ntmps50
  go_wp2
  go_quiet (fail)
  go_wp2
  go_ret2
  have hle : lo / y ≤ lo := Nat.div_le_self _ _
  have hc : ((lo : Int) / (y : Int)) = ((lo / y : Nat) : Int) := by simp
  have hw : IntKind.u64.wrap ((lo : Int) / (y : Int)) = ((lo / y : Nat) : Int) := by
    rw [hc]
    obtain ⟨q, hq⟩ : ∃ q, q = lo / y := ⟨_, rfl⟩
    rw [← hq] at hle ⊢
    exact IntWalk.u64_in _ (by omega)
  exact ⟨ret2_int hw (by simp), _, rfl⟩

theorem below_drewN {B : Nat} {a w : World} (h : Below B a w) (n : Nat) : Below B a (w.drewN n) := ⟨h.os, h.tape, h.output, h.size, h.block⟩

/-- one step of the long division -/
theorem div_step (b y r x V : Nat) (hy : 0 < y) (hr : r = V % y) : (x + b * V) / y = (r * b + x) / y + b * (V / y) ∧ (x + b * V) % y = (r * b + x) % y := by
  have hV := Nat.div_add_mod V y
  have e : x + b * V = (r * b + x) + y * (b * (V / y)) := by
    rw [hr]
    conv => lhs; rw [← hV, Nat.mul_add]
    rw [Nat.mul_comm b (V % y), ← Nat.mul_assoc b y, Nat.mul_comm b y, Nat.mul_assoc]
    omega
  rw [e, Nat.add_mul_div_left _ _ hy, Nat.add_mul_mod_self_left]
  exact ⟨rfl, rfl⟩
theorem shl_or (r x : Nat) (hr : r < 4294967296) (hx : x < 4294967296) : (r * 4294967296) ||| x = r * 4294967296 + x := by
  have h := Nat.two_pow_add_eq_or_of_lt (i := 32) hx r
  rw [Nat.mul_comm] at h
  simpa using h.symm

set_option maxRecDepth 100000 in
set_option maxHeartbeats 800000 in
theorem divide_any (A : Option Addr) (n c B y : Nat) (xs : List Nat) (w : World) (h : Reads w B A n (u32s xs)) (hB : B ≤ w.heap.size) (hn : n ≤ 100000) (hx : ∀ d ∈ xs, d < 4294967296) (hy : 0 < y) (hy2 : y < 4294967296) :
    Calls Tryd.prog 37 #[.slice A n c, .int .u64 (y : Nat)] w fun e w' => ∃ g c' L r, e = .returned (.tuple #[.slice (some ⟨g, 0, none⟩) n c', .int .u64 (r : Nat)]) ∧ w'.ownsRow w.heap.size 42 1 (.slice (some ⟨g, 0, none⟩) n c') n (u32s L) ∧
      (∀ d ∈ L, d < 4294967296) ∧ val 4294967296 L = val 4294967296 xs / y ∧ r = val 4294967296 xs % y ∧ Below w.heap.size w w' := by
  have HL := Lib.hid (u32s_len h)
  obtain ⟨i0, hi, hz0, hz1, hz2⟩ := info_parts Tryd.info_u32
  go_enter Tryd.func37, Tryd.ntmps37
  go_wp2_with (at_make; refine wpList_make_full _ rfl _ _ 22 rfl w.heap.size 42 i0 (.int .u32 0) 1 Tryd.underlying22 hi hz0 hz1 .i64 .i64 _ _ n rfl rfl rfl rfl (by rw [hz2]; omega) (by unfold maxLen; omega) (Nat.le_refl _) ?_; intro w1 hown1 hgrow1)
  go_loopw [5, 6] (fun rv iv wr => ∃ (p r : Nat) (L : List Nat), p ≤ n ∧ iv = .int .i64 ((p : Int) - 1) ∧ rv = .int .u64 r ∧ L.length = n ∧ (∀ d ∈ L, d < 4294967296) ∧ val 4294967296 (L.drop p) = val 4294967296 (xs.drop p) / y ∧ r = val 4294967296 (xs.drop p) % y ∧
      wr.ownsRow w.heap.size 42 1 (.slice (some ⟨w.heap.size, 0, none⟩) n n) n (u32s L) ∧ Below w.heap.size w wr)
    (fun _ iv _ => (intOf iv + 1).toNat)
  case atStart =>
    refine ⟨n, 0, List.replicate n 0, Nat.le_refl _, rfl, rfl, List.length_replicate, ?_, ?_, ?_, ?_, (Below.refl _ _).grown hgrow1 (Nat.le_refl _) (fun k hk => by cases hk)⟩
    · intro d hd
      have := (List.mem_replicate.1 hd).2
      omega
    · rw [List.drop_eq_nil_of_le (by simp), List.drop_eq_nil_of_le (by rw [HL.out]; exact Nat.le_refl _)]
      simp [val]
    · rw [List.drop_eq_nil_of_le (by rw [HL.out]; exact Nat.le_refl _)]
      simp [val]
    · have e : u32s (List.replicate n 0) = (madeCells (Value.int .u32 0).cells (n * 1)).toList := by
        rw [u32s, List.map_replicate]
        apply List.ext_getElem
        · simp [madeCells, Value.cells]
        · intro i h1 h2
          simp [madeCells, Value.cells, Nat.mod_one]
      rw [e]
      exact hown1
  case round =>
    obtain ⟨p, r, L, hp, rfl, rfl, hLl, hLb, hLv, hr, hown, hbel⟩ := hrel
    have hry : r < y := by rw [hr]; exact Nat.mod_lt _ hy
    have HLL := Lib.hid hLl
    have HLV := Lib.hid hLv
    have HR := Lib.hid hr
    clear hLl hLv hr
    cases p with
    | zero =>
      go_wp2
      go_ret2
      exact ⟨w.heap.size, n, L, r, rfl, hown, hLb, by simpa using HLV.out, by simpa using HR.out, hbel⟩
    | succ p =>
      rw [show (((p + 1 : Nat) : Int) - 1) = (p : Int) by omega]
      obtain ⟨ad, rfl, _, hcell⟩ := u32s_at ((h.more hB).below hbel) (k := p) (by omega)
      have hpl : p < xs.length := by rw [HL.out]; omega
      obtain ⟨x, hxe⟩ : ∃ x, x = xs.getD p 0 := ⟨_, rfl⟩
      have hxe2 : x = xs[p] := by rw [hxe]; simp [List.getD, hpl]
      have hxb : x < 4294967296 := by rw [hxe2]; exact hx _ (List.getElem_mem hpl)
      rw [← hxe] at hcell
      have HX := Lib.hid hxe2
      clear hxe hxe2
      have hsh : (r : Int) / 4294967296 = 0 := by omega
      have hor : bits BinOp.or IntKind.u64 ((r : Int) * 4294967296) (x : Int) = ((r * 4294967296 + x : Nat) : Int) := by
        have e := u64_or_nat (r * 4294967296) x (by omega) (by omega)
        rw [shl_or r x (by omega) hxb] at e
        rw [← e]; rfl
      have hst := div_step 4294967296 y r x (val 4294967296 (xs.drop (p + 1))) hy HR.out
      have hlt : r * 4294967296 + x < 4294967296 * y := by
        have := Nat.mul_le_mul_right 4294967296 (show r + 1 ≤ y by omega)
        rw [Nat.add_mul] at this
        omega
      have hqb : (r * 4294967296 + x) / y < 4294967296 := by
        rw [Nat.div_lt_iff_lt_mul hy]; exact hlt
      have hd := div64_any (r * 4294967296 + x) y wr (by omega) hy (by omega)
      obtain ⟨q, hq⟩ : ∃ q, q = (r * 4294967296 + x) / y := ⟨_, rfl⟩
      obtain ⟨r2, hr2⟩ : ∃ r2, r2 = (r * 4294967296 + x) % y := ⟨_, rfl⟩
      rw [← hq, ← hr2] at hd
      rw [← hq, ← hr2] at hst
      rw [← hq] at hqb
      have hcell2 : wr.cell? ⟨w.heap.size, p, none⟩ = some (.int .u32 (L.getD p 0 : Nat)) := by
        rw [hown.cellAt p (by omega)]
        rw [u32s_at' L p (d := L.getD p 0)]
        have hpL : p < L.length := by rw [HLL.out]; omega
        simp [List.getD, List.getElem?_eq_getElem hpL]
      have hfr : wr.frozen? ⟨w.heap.size, p, none⟩ = false := hown.frozenAt p
      have HD := Lib.hid hd
      have HST := Lib.hid hst
      clear hq hr2 hst hd hlt
      go_wp2_with (go_at_call 50; refine HD.out.mono ?_; rintro e w' ⟨rfl, kk, rfl⟩)
      go_roundw
      case rel =>
        have hpL : p < L.length := by rw [HLL.out]; omega
        have hdx : xs.drop p = x :: xs.drop (p + 1) := by rw [List.drop_eq_getElem_cons hpl, HX.out]
        have hdL : (L.set p q).drop p = q :: L.drop (p + 1) := by
          rw [List.drop_eq_getElem_cons (by simpa using hpL)]
          simp [List.drop_set]
        refine ⟨p, r2, L.set p q, by omega, rfl, rfl, by rw [List.length_set, HLL.out], ?_, ?_, ?_, ?_, ?_⟩
        · intro d hd
          rcases List.mem_or_eq_of_mem_set hd with hd | hd
          · exact hLb d hd
          · omega
        · rw [hdL, hdx, val, val, HST.out.1, HLV.out]
        · rw [hdx, val, HST.out.2]
        · have := ((show (wr.drewN kk).ownsRow w.heap.size 42 1 (.slice (some ⟨w.heap.size, 0, none⟩) n n) n (u32s L) from hown).stored p (.int .u32 (q : Int))).1
          rw [u32s_set] at this
          exact this
        · exact Below.setCell (below_drewN hbel kk) (p := ⟨w.heap.size, p, none⟩) (Nat.le_refl _) _
      case measure => simp [intOf]

end Go.Proofs.YtckkbeknjipddaaDoor
