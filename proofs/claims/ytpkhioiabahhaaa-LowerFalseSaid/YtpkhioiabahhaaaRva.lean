/- The reference's values of all wires. -/
import Derived.Test.YtpkhioiabahhaaaRri
import Derived.Test.YtpkhioiabahhaaaTInts
import Derived.Test.YtpkhioiabahhaaaRes
import Derived.Deep.AppendLies
import Derived.Deep.OwnRows
namespace Go.Proofs.Ytpkhioiabahhaaa
open Go.RowKit

/-- append of one value onto a row of the call's own -/
theorem wpList_append1B {P : Program} {w : World} {ops : Array Oper} {rest : List Oper} {o : Oper} {a : Act} {Q : Exit → Act → World → Prop} (hgd : o.guard = none) (s x : Operand) (t : TypeId)
    (ho : o.op = .call { callee := .builtin .append, args := #[s, x], argTypes := #[t, t] })
    (base : Nat) (e : TypeId) (i : TypeInfo) (z : Value) (bytes : Nat) (ht : P.underlying t = some (.slice e)) (hi : P.info? e = some i) (hz : i.zero = some z)
    (hsize : i.size = 1) (hby : i.bytes = bytes) (hzs : z.cells.size = 1)
    (A : Option Addr) (n c : Nat) (xs : List Value) (hs : a.eval s = .slice A n c) (hown : w.ownsRow base e 1 (.slice A n c) n xs) (u : Value)
    (hx : a.eval x = .slice (some ⟨w.heap.size, 0, none⟩) 1 1) (h1 : u.oneCell' = true) (h63 : n + 1 ≤ maxLen) (hbytes : (n + 1) * bytes ≤ 140737488355328) (hbase : base ≤ w.heap.size)
    (h : ∀ g' c' w', w'.ownsRow base e 1 (.slice (some ⟨g', 0, none⟩) (n + 1) c') (n + 1) (xs ++ [u]) → Below base w w' → wpList P ops Q rest (a.put o.dst (.slice (some ⟨g', 0, none⟩) (n + 1) c')) w') :
    wpList P ops Q (o :: rest) a (w.alloc (.cells #[u] e)) :=
  wpList_append1F hgd s x t ho base e i z bytes ht hi hz hsize hby hzs A n c xs hs hown u hx h1 h63 hbytes hbase fun g' c' w' h2 h3 => h g' c' w' h2 (h3.below (fun k hk => (ob_ge hown k hk).1) hbase)
/-- an operation's result -/
def gop (op : Int) (x y : Bool) : Bool := if op = 1 then true else if op = 2 then !x else if op = 3 then x && y else if op = 4 then x || y else if op = 5 then x != y else false
/-- the values of the wires -/
def bvn (g : Nat → C3) (l : List Bool) : Nat → List Bool
  | 0 => l
  | j + 1 => bvn g l j ++ [gop (g j).1 (bg (bvn g l j) (g j).2.1.toNat) (bg (bvn g l j) (g j).2.2.toNat)]
theorem bvn_len (g : Nat → C3) (l : List Bool) (j : Nat) : (bvn g l j).length = l.length + j := by
  induction j with
  | zero => rfl
  | succ j ih => rw [bvn, List.length_append, ih]; rfl
theorem bl_add (l : List Bool) (x : Bool) : bl (l ++ [x]) = bl l ++ [.bool x] := by simp [bl]
theorem bl_row {w : World} {base n c : Nat} {e : TypeId} {A : Option Addr} {l : List Bool} (h : w.ownsRow base e 1 (.slice A n c) n (bl l)) (hl : l.length = n) (k : Nat) (hk : k < n) : ∃ g, A = some ⟨g, 0, none⟩ ∧ w.cell? ⟨g, k, none⟩ = some (.bool (bg l k)) ∧ g < w.heap.size := by
  obtain ⟨g, cap, hv, _, hg⟩ := h.form (by omega)
  injection hv with h1 _ h3
  subst h1 h3
  refine ⟨g, rfl, ?_, (h.lt g rfl).2⟩
  rw [h.cellAt k (by omega)]
  simp [bl, bg, List.getD_eq_getElem?_getD, hl, hk]
theorem info_boolV : (Try.prog.info? 4).map (fun i => (i.zero, i.size, i.bytes)) = some (some (.bool false), 1, 1) := by kernel_rfl
theorem oper_0 (x y : Bool) (w : World) : Calls Try.prog 50 #[.int .i64 0, .bool x, .bool y] w fun e w' => e = .returned (.bool (gop 0 x y)) ∧ w = w' := by
  cases x <;> cases y <;>
    (go_enter Try.func50, Try.ntmps50
     go_wp2
     go_ret
     exact ⟨rfl, rfl⟩)
theorem oper_1 (x y : Bool) (w : World) : Calls Try.prog 50 #[.int .i64 1, .bool x, .bool y] w fun e w' => e = .returned (.bool (gop 1 x y)) ∧ w = w' := by
  cases x <;> cases y <;>
    (go_enter Try.func50, Try.ntmps50
     go_wp2
     go_ret
     exact ⟨rfl, rfl⟩)
theorem oper_2 (x y : Bool) (w : World) : Calls Try.prog 50 #[.int .i64 2, .bool x, .bool y] w fun e w' => e = .returned (.bool (gop 2 x y)) ∧ w = w' := by
  cases x <;> cases y <;>
    (go_enter Try.func50, Try.ntmps50
     go_wp2
     go_ret
     exact ⟨rfl, rfl⟩)
theorem oper_3 (x y : Bool) (w : World) : Calls Try.prog 50 #[.int .i64 3, .bool x, .bool y] w fun e w' => e = .returned (.bool (gop 3 x y)) ∧ w = w' := by
  cases x <;> cases y <;>
    (go_enter Try.func50, Try.ntmps50
     go_wp2
     go_ret
     exact ⟨rfl, rfl⟩)
theorem oper_4 (x y : Bool) (w : World) : Calls Try.prog 50 #[.int .i64 4, .bool x, .bool y] w fun e w' => e = .returned (.bool (gop 4 x y)) ∧ w = w' := by
  cases x <;> cases y <;>
    (go_enter Try.func50, Try.ntmps50
     go_wp2
     go_ret
     exact ⟨rfl, rfl⟩)
theorem oper_5 (x y : Bool) (w : World) : Calls Try.prog 50 #[.int .i64 5, .bool x, .bool y] w fun e w' => e = .returned (.bool (gop 5 x y)) ∧ w = w' := by
  cases x <;> cases y <;>
    (go_enter Try.func50, Try.ntmps50
     go_wp2
     go_ret
     exact ⟨rfl, rfl⟩)
set_option maxRecDepth 100000 in
set_option maxHeartbeats 8000000 in
theorem rvalues_any (AG AO : Option Addr) (ai : Addr) (cG cO cI : Nat) (C : Cr) (l : List Bool) (w : World) (h : CS w AG AO C) (hi : Reads w w.heap.size (some ai) l.length (bl l)) (hr : rt C = true) (hl : C.ins = (l.length : Int)) (hl0 : 0 < l.length) :
    Calls Try.prog 26 #[.agg #[.int .i64 C.ins, .slice AG C.n cG, .slice AO C.o.length cO], .slice (some ai) l.length cI] w fun e w' => ∃ A c, e = .returned (.slice A (l.length + C.n) c) ∧ Reads w' w'.heap.size A (l.length + C.n) (bl (bvn C.g l C.n)) ∧ Below w.heap.size w w' := by
  obtain ⟨i0, hi0, hz0, hz1, hz2⟩ := info_parts info_boolV
  obtain ⟨hok, hgs, -⟩ := (rt_iff C).1 hr
  obtain ⟨HG, -⟩ := h
  obtain ⟨I, n, g, o⟩ := C
  clear hr
  simp only at *
  obtain ⟨q, hq⟩ : ∃ q, q = o.length := ⟨_, rfl⟩
  rw [← hq] at hok ⊢
  clear hq
  subst hl
  obtain ⟨-, h1, h2, -⟩ := hok
  have hbl : (bl l).length = l.length := hi.1
  obtain ⟨m, hm⟩ : ∃ m, l.length = m := ⟨_, rfl⟩
  have HML := Lib.hid hm
  rw [hm] at hi hbl h1 hl0 hgs ⊢
  have B1 := (Below.refl w.heap.size w).alloc (Nat.le_refl _) (.cells #[.int .i64 (m : Int), .slice AG n cG, .slice AO q cO] 34)
  have K1 := Lib.hid (Blk.new w 34 #[.int .i64 (m : Int), .slice AG n cG, .slice AO q cO])
  have HG := Lib.hid (CReads.later HG B1)
  have HI := Lib.hid (Reads.later hi B1)
  have B1 := Lib.hid B1
  have HGS := Lib.hid hgs
  have HBL := Lib.hid hbl
  clear hi hgs hm hbl
  go_enter Try.func26, Try.ntmps26
  go_upto_region 1 with (fail)
  generalize w.alloc (.cells #[.int .i64 (m : Int), .slice AG n cG, .slice AO q cO] 34) = w1 at *
  have HNW := Lib.hid (show ∀ j u, (bl l)[j]? = some u → w1.cell? (ai.add j) = some u from fun j u hu => by
    obtain ⟨ad, e, _, hc⟩ := HI.out.2 hl0
    injection e with e
    subst e
    exact hc j u hu)
  have HON := Lib.hid (show ∀ u ∈ bl l, u.oneCell' = true from fun u hu => by
    simp only [bl, List.mem_map] at hu
    obtain ⟨x, _, rfl⟩ := hu
    rfl)
  go_wp2_with (at_builtin; refine wpList_append_lies _ rfl _ _ 26 rfl w1.heap.size 4 i0 (.bool false) 1 1 Try.underlying26 hi0 hz0 hz1 hz2 rfl (by decide) (.slice none 0 0) 0 [] rfl (World.ownsRow_nil _ _ _ _) ai m cI (bl l) rfl (by rw [HBL.out]; omega) HNW.out HON.out hl0 (by unfold maxLen; omega) (by omega) (Nat.le_refl _) w1.heap.size rfl ?_; intro g2 c2 w2 hown2 hg2 hat2 hlt2; have O2 := Lib.hid hown2; have B2 := Lib.hid (show Below w1.heap.size w1 w2 from ⟨hg2.os, hg2.tape, hg2.output, hg2.size, fun k hk => hg2.block k hk (by simp [Value.ownBlock])⟩); clear hown2 hg2 hat2 hlt2)
  exact (by
    have K2 := Lib.hid (K1.out.below B2.out K1.out.lt)
    go_loopw [5, 6] (fun vv iv wr => ∃ (j : Nat) (A : Option Addr) (c M : Nat), j ≤ n ∧ vv = .slice A M c ∧ iv = .int .i64 (j : Int) ∧ Hid (M = m + j) ∧ Hid (wr.ownsRow w1.heap.size 4 1 (.slice A M c) M (bl (bvn g l j))) ∧ Hid (Below w1.heap.size w1 wr)) (fun _ iv _ => n - (intOf iv).toNat)
    case atStart => exact ⟨0, some ⟨g2, 0, none⟩, c2, m, Nat.zero_le _, by simp, rfl, Lib.hid rfl, by simpa [bvn] using O2, B2⟩
    case round =>
      obtain ⟨j, A, c, M, hj, rfl, rfl, HM, HO, HB⟩ := hrel
      obtain ⟨a0, a1, a2, _, _, _, a6⟩ := (K1.out.below HB.out K1.out.lt).three6
      have hM := HM.out
      obtain ⟨V, hV⟩ : ∃ V, bvn g l j = V := ⟨_, rfl⟩
      have hVl : V.length = M := by rw [← hV, bvn_len, HML.out]; omega
      rw [hV] at HO
      have HV := Lib.hid hV
      obtain ⟨ga, hA, _, hga⟩ := bl_row HO.out hVl 0 (by omega)
      subst hA
      have hVA : ∀ k, k < M → wr.cell? ⟨ga, k, none⟩ = some (.bool (bg V k)) := fun k hk => by
        obtain ⟨g', e, hc, _⟩ := bl_row HO.out hVl k hk
        injection e with e
        injection e with e _ _
        subst e
        exact hc
      have hMb : M ≤ 21000 := by omega
      clear hV hVl
      by_cases hk : j < n
      · obtain ⟨gg, o1, rfl, hb1, hc1⟩ := HG.out.below HB.out (by omega)
        obtain ⟨c0, c1, c2'⟩ := hc1 j hk
        have hv := HGS.out j hk
        have hgw : gg < wr.heap.size := Nat.lt_of_lt_of_le hb1 HB.out.size
        clear hc1
        obtain ⟨x, hx⟩ : ∃ x, x = g j := ⟨_, rfl⟩
        rw [← hx] at c0 c1 c2' hv
        have HX := Lib.hid hx
        clear hx
        obtain ⟨op, a, b⟩ := x
        simp only at c0 c1 c2'
        rcases rg_ops hv with rfl | rfl | rfl | rfl | rfl | rfl
        · obtain ⟨rfl, rfl⟩ : a = 0 ∧ b = 0 := by simpa [rg] using hv
          have HEQ : Hid (gop 0 (bg V (0 : Int).toNat) (bg V (0 : Int).toNat) = gop 0 false false) := Lib.hid (rfl)
          obtain ⟨r, hr⟩ : ∃ r, gop 0 false false = r := ⟨_, rfl⟩
          have OPR := Lib.hid (oper_0 false false)
          rw [hr] at HEQ OPR
          have OPS := Lib.hid (fun w => rop_0 w)
          have HO2 := Lib.hid (HO.out.alloc (.cells #[.int .i64 0, .int .i64 0, .int .i64 0] 53))
          have BY := Lib.hid ((Below.refl wr.heap.size wr).alloc (Nat.le_refl _) (.cells #[.int .i64 0, .int .i64 0, .int .i64 0] 53))
          have SZ : w1.heap.size ≤ (wr.alloc (.cells #[.int .i64 0, .int .i64 0, .int .i64 0] 53)).heap.size := by have := HB.out.size; simp; omega
          clear hv hr hVA hM 
          have G4 := Blk.new wr 53 #[.int .i64 0, .int .i64 0, .int .i64 0]
          go_upto_region 7 with (fail)
          generalize wr.alloc (.cells #[.int .i64 0, .int .i64 0, .int .i64 0] 53) = w4 at *
          obtain ⟨d0, d1, d2, _, _, _, d6⟩ := G4.three6
          clear G4
          go_wp2_with (first
            | (go_at_call 49; (with_reducible refine (OPS.out _).mono ?_); rintro e w3 ⟨rfl, rfl⟩)
            | (go_at_call 50; (with_reducible refine (OPR.out _).mono ?_); rintro e w3 ⟨rfl, rfl⟩)
            | (at_builtin; refine wpList_append1B rfl _ _ 26 rfl w1.heap.size 4 i0 (.bool false) 1 Try.underlying26 hi0 hz0 hz1 hz2 rfl _ M c _ rfl HO2.out (.bool r) rfl rfl (by unfold maxLen; omega) (by omega) SZ ?_; intro g' c5 w5 hown5 hbel5; have O5 := Lib.hid hown5; have B5 := Lib.hid hbel5; clear hown5 hbel5))
          go_roundw
          case rel => exact ⟨j + 1, some ⟨g', 0, none⟩, c5, M + 1, by omega, by go_num, by go_num, Lib.hid (by have := HM.out; omega), Lib.hid (by rw [bvn, HV.out, ← HX.out]; simp only; rw [HEQ.out, bl_add]; exact O5.out), Lib.hid (HB.out.trans ((BY.out.mono HB.out.size).trans B5.out))⟩
          case measure => simp [intOf]; omega
        · obtain ⟨rfl, rfl⟩ : a = 0 ∧ b = 0 := by simpa [rg] using hv
          have HEQ : Hid (gop 1 (bg V (0 : Int).toNat) (bg V (0 : Int).toNat) = gop 1 false false) := Lib.hid (rfl)
          obtain ⟨r, hr⟩ : ∃ r, gop 1 false false = r := ⟨_, rfl⟩
          have OPR := Lib.hid (oper_1 false false)
          rw [hr] at HEQ OPR
          have OPS := Lib.hid (fun w => rop_1 w)
          have HO2 := Lib.hid (HO.out.alloc (.cells #[.int .i64 1, .int .i64 0, .int .i64 0] 53))
          have BY := Lib.hid ((Below.refl wr.heap.size wr).alloc (Nat.le_refl _) (.cells #[.int .i64 1, .int .i64 0, .int .i64 0] 53))
          have SZ : w1.heap.size ≤ (wr.alloc (.cells #[.int .i64 1, .int .i64 0, .int .i64 0] 53)).heap.size := by have := HB.out.size; simp; omega
          clear hv hr hVA hM 
          have G4 := Blk.new wr 53 #[.int .i64 1, .int .i64 0, .int .i64 0]
          go_upto_region 7 with (fail)
          generalize wr.alloc (.cells #[.int .i64 1, .int .i64 0, .int .i64 0] 53) = w4 at *
          obtain ⟨d0, d1, d2, _, _, _, d6⟩ := G4.three6
          clear G4
          go_wp2_with (first
            | (go_at_call 49; (with_reducible refine (OPS.out _).mono ?_); rintro e w3 ⟨rfl, rfl⟩)
            | (go_at_call 50; (with_reducible refine (OPR.out _).mono ?_); rintro e w3 ⟨rfl, rfl⟩)
            | (at_builtin; refine wpList_append1B rfl _ _ 26 rfl w1.heap.size 4 i0 (.bool false) 1 Try.underlying26 hi0 hz0 hz1 hz2 rfl _ M c _ rfl HO2.out (.bool r) rfl rfl (by unfold maxLen; omega) (by omega) SZ ?_; intro g' c5 w5 hown5 hbel5; have O5 := Lib.hid hown5; have B5 := Lib.hid hbel5; clear hown5 hbel5))
          go_roundw
          case rel => exact ⟨j + 1, some ⟨g', 0, none⟩, c5, M + 1, by omega, by go_num, by go_num, Lib.hid (by have := HM.out; omega), Lib.hid (by rw [bvn, HV.out, ← HX.out]; simp only; rw [HEQ.out, bl_add]; exact O5.out), Lib.hid (HB.out.trans ((BY.out.mono HB.out.size).trans B5.out))⟩
          case measure => simp [intOf]; omega
        · obtain ⟨⟨p1, p2⟩, rfl⟩ : (0 ≤ a ∧ a < (m : Int) + (j : Int)) ∧ b = 0 := by simpa [rg, isw] using hv
          obtain ⟨a, rfl⟩ : ∃ k : Nat, a = (k : Int) := ⟨a.toNat, by omega⟩
          have ca := hVA a (by omega)
          have la : (a : Int) < (M : Int) := by omega
          obtain ⟨x, hx⟩ : ∃ x, bg V a = x := ⟨_, rfl⟩
          rw [hx] at ca
          have HEQ : Hid (gop 2 (bg V ((a : Int)).toNat) (bg V (0 : Int).toNat) = gop 2 x false) := Lib.hid (by simp [gop, hx])
          obtain ⟨r, hr⟩ : ∃ r, gop 2 x false = r := ⟨_, rfl⟩
          have OPR := Lib.hid (oper_2 x false)
          rw [hr] at HEQ OPR
          have OPS := Lib.hid (fun w => rop_2 w)
          have HO2 := Lib.hid (HO.out.alloc (.cells #[.int .i64 2, .int .i64 (a : Int), .int .i64 0] 53))
          have BY := Lib.hid ((Below.refl wr.heap.size wr).alloc (Nat.le_refl _) (.cells #[.int .i64 2, .int .i64 (a : Int), .int .i64 0] 53))
          have SZ : w1.heap.size ≤ (wr.alloc (.cells #[.int .i64 2, .int .i64 (a : Int), .int .i64 0] 53)).heap.size := by have := HB.out.size; simp; omega
          clear hv hr hVA hM hx
          have ca4 : (wr.alloc (.cells #[.int .i64 2, .int .i64 (a : Int), .int .i64 0] 53)).cell? ⟨ga, a, none⟩ = some (.bool x) := (BY.out.cell (p := ⟨ga, a, none⟩) hga).trans ca
          have G4 := Blk.new wr 53 #[.int .i64 2, .int .i64 (a : Int), .int .i64 0]
          go_upto_region 7 with (fail)
          generalize wr.alloc (.cells #[.int .i64 2, .int .i64 (a : Int), .int .i64 0] 53) = w4 at *
          obtain ⟨d0, d1, d2, _, _, _, d6⟩ := G4.three6
          clear G4
          go_wp2_with (first
            | (go_at_call 49; (with_reducible refine (OPS.out _).mono ?_); rintro e w3 ⟨rfl, rfl⟩)
            | (go_at_call 50; (with_reducible refine (OPR.out _).mono ?_); rintro e w3 ⟨rfl, rfl⟩)
            | (at_builtin; refine wpList_append1B rfl _ _ 26 rfl w1.heap.size 4 i0 (.bool false) 1 Try.underlying26 hi0 hz0 hz1 hz2 rfl _ M c _ rfl HO2.out (.bool r) rfl rfl (by unfold maxLen; omega) (by omega) SZ ?_; intro g' c5 w5 hown5 hbel5; have O5 := Lib.hid hown5; have B5 := Lib.hid hbel5; clear hown5 hbel5))
          go_roundw
          case rel => exact ⟨j + 1, some ⟨g', 0, none⟩, c5, M + 1, by omega, by go_num, by go_num, Lib.hid (by have := HM.out; omega), Lib.hid (by rw [bvn, HV.out, ← HX.out]; simp only; rw [HEQ.out, bl_add]; exact O5.out), Lib.hid (HB.out.trans ((BY.out.mono HB.out.size).trans B5.out))⟩
          case measure => simp [intOf]; omega
        · obtain ⟨⟨p1, p2⟩, q1, q2⟩ : (0 ≤ a ∧ a < (m : Int) + (j : Int)) ∧ 0 ≤ b ∧ b < (m : Int) + (j : Int) := by simpa [rg, isw] using hv
          obtain ⟨a, rfl⟩ : ∃ k : Nat, a = (k : Int) := ⟨a.toNat, by omega⟩
          obtain ⟨b, rfl⟩ : ∃ k : Nat, b = (k : Int) := ⟨b.toNat, by omega⟩
          have ca := hVA a (by omega)
          have cb := hVA b (by omega)
          have la : (a : Int) < (M : Int) := by omega
          have lb : (b : Int) < (M : Int) := by omega
          obtain ⟨x, hx⟩ : ∃ x, bg V a = x := ⟨_, rfl⟩
          rw [hx] at ca
          obtain ⟨y, hy⟩ : ∃ y, bg V b = y := ⟨_, rfl⟩
          rw [hy] at cb
          have HEQ : Hid (gop 3 (bg V ((a : Int)).toNat) (bg V ((b : Int)).toNat) = gop 3 x y) := Lib.hid (by simp [gop, hx, hy])
          obtain ⟨r, hr⟩ : ∃ r, gop 3 x y = r := ⟨_, rfl⟩
          have OPR := Lib.hid (oper_3 x y)
          rw [hr] at HEQ OPR
          have OPS := Lib.hid (fun w => rop_3 w)
          have HO2 := Lib.hid (HO.out.alloc (.cells #[.int .i64 3, .int .i64 (a : Int), .int .i64 (b : Int)] 53))
          have BY := Lib.hid ((Below.refl wr.heap.size wr).alloc (Nat.le_refl _) (.cells #[.int .i64 3, .int .i64 (a : Int), .int .i64 (b : Int)] 53))
          have SZ : w1.heap.size ≤ (wr.alloc (.cells #[.int .i64 3, .int .i64 (a : Int), .int .i64 (b : Int)] 53)).heap.size := by have := HB.out.size; simp; omega
          clear hv hr hVA hM hx hy
          have ca4 : (wr.alloc (.cells #[.int .i64 3, .int .i64 (a : Int), .int .i64 (b : Int)] 53)).cell? ⟨ga, a, none⟩ = some (.bool x) := (BY.out.cell (p := ⟨ga, a, none⟩) hga).trans ca
          have cb4 : (wr.alloc (.cells #[.int .i64 3, .int .i64 (a : Int), .int .i64 (b : Int)] 53)).cell? ⟨ga, b, none⟩ = some (.bool y) := (BY.out.cell (p := ⟨ga, b, none⟩) hga).trans cb
          have G4 := Blk.new wr 53 #[.int .i64 3, .int .i64 (a : Int), .int .i64 (b : Int)]
          go_upto_region 7 with (fail)
          generalize wr.alloc (.cells #[.int .i64 3, .int .i64 (a : Int), .int .i64 (b : Int)] 53) = w4 at *
          obtain ⟨d0, d1, d2, _, _, _, d6⟩ := G4.three6
          clear G4
          go_wp2_with (first
            | (go_at_call 49; (with_reducible refine (OPS.out _).mono ?_); rintro e w3 ⟨rfl, rfl⟩)
            | (go_at_call 50; (with_reducible refine (OPR.out _).mono ?_); rintro e w3 ⟨rfl, rfl⟩)
            | (at_builtin; refine wpList_append1B rfl _ _ 26 rfl w1.heap.size 4 i0 (.bool false) 1 Try.underlying26 hi0 hz0 hz1 hz2 rfl _ M c _ rfl HO2.out (.bool r) rfl rfl (by unfold maxLen; omega) (by omega) SZ ?_; intro g' c5 w5 hown5 hbel5; have O5 := Lib.hid hown5; have B5 := Lib.hid hbel5; clear hown5 hbel5))
          go_roundw
          case rel => exact ⟨j + 1, some ⟨g', 0, none⟩, c5, M + 1, by omega, by go_num, by go_num, Lib.hid (by have := HM.out; omega), Lib.hid (by rw [bvn, HV.out, ← HX.out]; simp only; rw [HEQ.out, bl_add]; exact O5.out), Lib.hid (HB.out.trans ((BY.out.mono HB.out.size).trans B5.out))⟩
          case measure => simp [intOf]; omega
        · obtain ⟨⟨p1, p2⟩, q1, q2⟩ : (0 ≤ a ∧ a < (m : Int) + (j : Int)) ∧ 0 ≤ b ∧ b < (m : Int) + (j : Int) := by simpa [rg, isw] using hv
          obtain ⟨a, rfl⟩ : ∃ k : Nat, a = (k : Int) := ⟨a.toNat, by omega⟩
          obtain ⟨b, rfl⟩ : ∃ k : Nat, b = (k : Int) := ⟨b.toNat, by omega⟩
          have ca := hVA a (by omega)
          have cb := hVA b (by omega)
          have la : (a : Int) < (M : Int) := by omega
          have lb : (b : Int) < (M : Int) := by omega
          obtain ⟨x, hx⟩ : ∃ x, bg V a = x := ⟨_, rfl⟩
          rw [hx] at ca
          obtain ⟨y, hy⟩ : ∃ y, bg V b = y := ⟨_, rfl⟩
          rw [hy] at cb
          have HEQ : Hid (gop 4 (bg V ((a : Int)).toNat) (bg V ((b : Int)).toNat) = gop 4 x y) := Lib.hid (by simp [gop, hx, hy])
          obtain ⟨r, hr⟩ : ∃ r, gop 4 x y = r := ⟨_, rfl⟩
          have OPR := Lib.hid (oper_4 x y)
          rw [hr] at HEQ OPR
          have OPS := Lib.hid (fun w => rop_4 w)
          have HO2 := Lib.hid (HO.out.alloc (.cells #[.int .i64 4, .int .i64 (a : Int), .int .i64 (b : Int)] 53))
          have BY := Lib.hid ((Below.refl wr.heap.size wr).alloc (Nat.le_refl _) (.cells #[.int .i64 4, .int .i64 (a : Int), .int .i64 (b : Int)] 53))
          have SZ : w1.heap.size ≤ (wr.alloc (.cells #[.int .i64 4, .int .i64 (a : Int), .int .i64 (b : Int)] 53)).heap.size := by have := HB.out.size; simp; omega
          clear hv hr hVA hM hx hy
          have ca4 : (wr.alloc (.cells #[.int .i64 4, .int .i64 (a : Int), .int .i64 (b : Int)] 53)).cell? ⟨ga, a, none⟩ = some (.bool x) := (BY.out.cell (p := ⟨ga, a, none⟩) hga).trans ca
          have cb4 : (wr.alloc (.cells #[.int .i64 4, .int .i64 (a : Int), .int .i64 (b : Int)] 53)).cell? ⟨ga, b, none⟩ = some (.bool y) := (BY.out.cell (p := ⟨ga, b, none⟩) hga).trans cb
          have G4 := Blk.new wr 53 #[.int .i64 4, .int .i64 (a : Int), .int .i64 (b : Int)]
          go_upto_region 7 with (fail)
          generalize wr.alloc (.cells #[.int .i64 4, .int .i64 (a : Int), .int .i64 (b : Int)] 53) = w4 at *
          obtain ⟨d0, d1, d2, _, _, _, d6⟩ := G4.three6
          clear G4
          go_wp2_with (first
            | (go_at_call 49; (with_reducible refine (OPS.out _).mono ?_); rintro e w3 ⟨rfl, rfl⟩)
            | (go_at_call 50; (with_reducible refine (OPR.out _).mono ?_); rintro e w3 ⟨rfl, rfl⟩)
            | (at_builtin; refine wpList_append1B rfl _ _ 26 rfl w1.heap.size 4 i0 (.bool false) 1 Try.underlying26 hi0 hz0 hz1 hz2 rfl _ M c _ rfl HO2.out (.bool r) rfl rfl (by unfold maxLen; omega) (by omega) SZ ?_; intro g' c5 w5 hown5 hbel5; have O5 := Lib.hid hown5; have B5 := Lib.hid hbel5; clear hown5 hbel5))
          go_roundw
          case rel => exact ⟨j + 1, some ⟨g', 0, none⟩, c5, M + 1, by omega, by go_num, by go_num, Lib.hid (by have := HM.out; omega), Lib.hid (by rw [bvn, HV.out, ← HX.out]; simp only; rw [HEQ.out, bl_add]; exact O5.out), Lib.hid (HB.out.trans ((BY.out.mono HB.out.size).trans B5.out))⟩
          case measure => simp [intOf]; omega
        · obtain ⟨⟨p1, p2⟩, q1, q2⟩ : (0 ≤ a ∧ a < (m : Int) + (j : Int)) ∧ 0 ≤ b ∧ b < (m : Int) + (j : Int) := by simpa [rg, isw] using hv
          obtain ⟨a, rfl⟩ : ∃ k : Nat, a = (k : Int) := ⟨a.toNat, by omega⟩
          obtain ⟨b, rfl⟩ : ∃ k : Nat, b = (k : Int) := ⟨b.toNat, by omega⟩
          have ca := hVA a (by omega)
          have cb := hVA b (by omega)
          have la : (a : Int) < (M : Int) := by omega
          have lb : (b : Int) < (M : Int) := by omega
          obtain ⟨x, hx⟩ : ∃ x, bg V a = x := ⟨_, rfl⟩
          rw [hx] at ca
          obtain ⟨y, hy⟩ : ∃ y, bg V b = y := ⟨_, rfl⟩
          rw [hy] at cb
          have HEQ : Hid (gop 5 (bg V ((a : Int)).toNat) (bg V ((b : Int)).toNat) = gop 5 x y) := Lib.hid (by simp [gop, hx, hy])
          obtain ⟨r, hr⟩ : ∃ r, gop 5 x y = r := ⟨_, rfl⟩
          have OPR := Lib.hid (oper_5 x y)
          rw [hr] at HEQ OPR
          have OPS := Lib.hid (fun w => rop_5 w)
          have HO2 := Lib.hid (HO.out.alloc (.cells #[.int .i64 5, .int .i64 (a : Int), .int .i64 (b : Int)] 53))
          have BY := Lib.hid ((Below.refl wr.heap.size wr).alloc (Nat.le_refl _) (.cells #[.int .i64 5, .int .i64 (a : Int), .int .i64 (b : Int)] 53))
          have SZ : w1.heap.size ≤ (wr.alloc (.cells #[.int .i64 5, .int .i64 (a : Int), .int .i64 (b : Int)] 53)).heap.size := by have := HB.out.size; simp; omega
          clear hv hr hVA hM hx hy
          have ca4 : (wr.alloc (.cells #[.int .i64 5, .int .i64 (a : Int), .int .i64 (b : Int)] 53)).cell? ⟨ga, a, none⟩ = some (.bool x) := (BY.out.cell (p := ⟨ga, a, none⟩) hga).trans ca
          have cb4 : (wr.alloc (.cells #[.int .i64 5, .int .i64 (a : Int), .int .i64 (b : Int)] 53)).cell? ⟨ga, b, none⟩ = some (.bool y) := (BY.out.cell (p := ⟨ga, b, none⟩) hga).trans cb
          have G4 := Blk.new wr 53 #[.int .i64 5, .int .i64 (a : Int), .int .i64 (b : Int)]
          go_upto_region 7 with (fail)
          generalize wr.alloc (.cells #[.int .i64 5, .int .i64 (a : Int), .int .i64 (b : Int)] 53) = w4 at *
          obtain ⟨d0, d1, d2, _, _, _, d6⟩ := G4.three6
          clear G4
          go_wp2_with (first
            | (go_at_call 49; (with_reducible refine (OPS.out _).mono ?_); rintro e w3 ⟨rfl, rfl⟩)
            | (go_at_call 50; (with_reducible refine (OPR.out _).mono ?_); rintro e w3 ⟨rfl, rfl⟩)
            | (at_builtin; refine wpList_append1B rfl _ _ 26 rfl w1.heap.size 4 i0 (.bool false) 1 Try.underlying26 hi0 hz0 hz1 hz2 rfl _ M c _ rfl HO2.out (.bool r) rfl rfl (by unfold maxLen; omega) (by omega) SZ ?_; intro g' c5 w5 hown5 hbel5; have O5 := Lib.hid hown5; have B5 := Lib.hid hbel5; clear hown5 hbel5))
          go_roundw
          case rel => exact ⟨j + 1, some ⟨g', 0, none⟩, c5, M + 1, by omega, by go_num, by go_num, Lib.hid (by have := HM.out; omega), Lib.hid (by rw [bvn, HV.out, ← HX.out]; simp only; rw [HEQ.out, bl_add]; exact O5.out), Lib.hid (HB.out.trans ((BY.out.mono HB.out.size).trans B5.out))⟩
          case measure => simp [intOf]; omega
      · obtain rfl : j = n := by omega
        have HR := Lib.hid (Reads.of_own HO.out)
        clear hVA
        have hM2 := HM.out
        subst hM2
        go_wp2
        go_ret
        exact ⟨_, ⟨_, rfl⟩, by rw [HV.out]; exact HR.out, B1.out.trans (HB.out.mono B1.out.size)⟩)
end Go.Proofs.Ytpkhioiabahhaaa
