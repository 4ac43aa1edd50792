/- A rule's circuit is valid, and what its outputs are. -/
/- Bits and State of the reference, State of the program, bools. -/
/- The walk of Inputs. -/
import Derived.Test.YtnhkgkpjkgifoaaMaw
import Derived.Test.YtnhkgkpjkgifoaaMar
import Derived.Test.YtnhkgkpjkgifoaaMas
import Derived.Test.YtnhkgkpjkgifoaaMau
import Derived.Test.YtnhkgkpjkgifoaaMad
namespace Go.Proofs.Ytnhkgkpjkgifoaa
open Go.RowKit

theorem tr_lv {T : Tr} (ht : Rt T) {st : Nat} (hst : T.st = (st : Int)) : ∀ i, i < T.m → (nxN T i).length = st ∧ 1 ≤ lvN T i ∧ lvN T i ≤ T.n ∧ (1 < lvN T i → ∀ j, j < st → (nxN T i).getD j 0 < i ∧ lvN T ((nxN T i).getD j 0) = lvN T i - 1) := fun i hi => by
  obtain ⟨q1, q2, q3, q4⟩ := ht.nd i hi
  have hlen : (T.nx i).length = st := by omega
  refine ⟨by rw [nxN_len]; exact hlen, by unfold lvN; omega, by unfold lvN; omega, fun h1 j hj => ?_⟩
  obtain ⟨e1, _, e3⟩ := q4 j (by omega)
  obtain ⟨e4, e5⟩ := e3 (by unfold lvN at h1; omega)
  rw [nxN_at]
  refine ⟨by omega, ?_⟩
  unfold lvN
  rw [e5]
  omega
theorem crO_sem {T : Tr} (ht : Rt T) {st : Nat} (hst : T.st = (st : Int)) (hn : T.n ≤ 40) (hm : T.m ≤ 60) (l : List Bool) (hl : l.length = T.n * bs st) :
    rt (crO T st) = true ∧ bo17 (bvn (crO T st).g l (crO T st).n) (crO T st).o = (List.range (bs st)).map fun k => nv l (bs st) T.n (nxN T) T.n (T.m - 1) k := by
  have s1 := ht.s1
  have s2 := ht.s2
  have m1 := ht.m1
  have hb3 : bs st ≤ 3 := by unfold bs; split <;> (try split) <;> omega
  have hb1 : 1 ≤ bs st := by unfold bs; split <;> (try split) <;> omega
  have hN : T.n * bs st ≤ 120 := by have := Nat.mul_le_mul hn hb3; omega
  obtain ⟨g1, e1, t1⟩ := tsF_sp l (bs st) st hb1 T.n (by omega)
  have hlv := tr_lv ht hst
  obtain ⟨g2, e2, r2⟩ := rsF_sp l (tsF l.length (n1L l.length l.length) (bs st) st T.n (g1L l.length)).1 (bs st) T.n T.m st (lvN T) (nxN T) _ g1 t1 hlv T.m (Nat.le_refl _)
  have hng := crO_n ht hst hn hm
  have hol := crO_outs ht st
  have htop : lvN T (T.m - 1) = T.n := by unfold lvN; rw [ht.top]; omega
  have hR := fun k hk => r2 (T.m - 1) (by omega) k hk
  rw [htop] at hR
  have hrs : rsF l.length (tsF l.length (n1L l.length l.length) (bs st) st T.n (g1L l.length)).1 (bs st) T.n (lvN T) (nxN T) T.m (tsF l.length (n1L l.length l.length) (bs st) st T.n (g1L l.length)).2 = crRS T st := by
    rw [hl]; rfl
  rw [hrs] at g2 hR
  clear hrs e1 t1 g1 e2 r2
  have hins : (crO T st).ins = ((T.n * bs st : Nat) : Int) := rfl
  have hnn : (crO T st).n = (crRS T st).2.length := rfl
  have hgg : (crO T st).g = fun k => (crRS T st).2.getD k (0, 0, 0) := rfl
  have hoo : (crO T st).o = (crRS T st).1.getD (T.m - 1) [] := rfl
  have hv : bvn (crO T st).g l (crO T st).n = Vl (crRS T st).2 l := by rw [hgg, hnn]; rfl
  rw [← hoo] at hR
  refine ⟨(rt_iff _).2 ⟨⟨by rw [hins]; omega, by rw [hins]; omega, by omega, by omega⟩, fun k hk => ?_, fun k hk => ?_⟩, ?_⟩
  · rw [hgg, hins, ← hl]
    exact g2 k (by rw [← hnn]; exact hk)
  · obtain ⟨q1, q2, _⟩ := hR k (by omega)
    rw [isw_iff, hins, hnn, ← hl]
    exact ⟨q1, q2⟩
  · rw [hv]
    apply List.ext_getElem
    · rw [bo17_len, hol]; simp
    · intro k h1 h2
      have hk : k < bs st := by simpa using h2
      obtain ⟨q1, q2, q3⟩ := hR k hk
      have hk' : k < (crO T st).o.length := by rw [hol]; exact hk
      have e : ig (crO T st).o k = (crO T st).o[k] := by simp [ig, List.getD_eq_getElem?_getD, hk']
      rw [e] at q3
      simp only [bo17, List.getElem_map, List.getElem_range]
      exact q3
/-- a position that has no state -/
theorem crO_wrong {T : Tr} (ht : Rt T) {st : Nat} (hst : T.st = (st : Int)) (l : List Bool) (i0 : Nat) (hi : i0 < T.n) (hw : ∀ s, s < st → te l (bs st) i0 s = false) :
    ((List.range (bs st)).map fun k => nv l (bs st) T.n (nxN T) T.n (T.m - 1) k) = List.replicate (bs st) false := by
  have m1 := ht.m1
  have htop : lvN T (T.m - 1) = T.n := by unfold lvN; rw [ht.top]; omega
  rw [List.eq_replicate_iff]
  refine ⟨by simp, fun b hb => ?_⟩
  simp only [List.mem_map, List.mem_range] at hb
  obtain ⟨k, _, rfl⟩ := hb
  exact nv_wrong l (bs st) T.n st T.m i0 (lvN T) (nxN T) hi hw (tr_lv ht hst) k T.n (T.m - 1) (by omega) htop (by omega)
/-- the number of bits -/
def nmv : List Bool → Nat
  | [] => 0
  | x :: r => (if x then 1 else 0) + 2 * nmv r
/-- a number that is no state has no test -/
theorem te_wrong (l : List Bool) (st i : Nat) (h1 : 2 ≤ st) (h2 : st ≤ 8) (hl : i * bs st + bs st ≤ l.length) (hw : st ≤ nmv ((l.drop (i * bs st)).take (bs st))) (s : Nat) (hs : s < st) : te l (bs st) i s = false := by
  rw [← Bool.not_eq_true]
  intro h
  rw [te, List.all_eq_true] at h
  have hb : ∀ k, k < bs st → bg l (i * bs st + k) = bt s k := fun k hk => by
    have := h k (by simpa using hk)
    simpa using this
  have e : (l.drop (i * bs st)).take (bs st) = (List.range (bs st)).map (bt s) := by
    apply List.ext_getElem
    · simp; omega
    · intro k q1 q2
      have hk : k < bs st := by simpa using q2
      have := hb k hk
      simp only [List.getElem_take, List.getElem_drop, List.getElem_map, List.getElem_range]
      rw [← this, bg, List.getD_eq_getElem?_getD, List.getElem?_eq_getElem (by omega)]
      rfl
  rw [e] at hw
  have key : ∀ st, st < 9 → 2 ≤ st → ∀ s, s < st → nmv ((List.range (bs st)).map (bt s)) = s := by decide
  rw [key st (by omega) h1 s hs] at hw
  omega
end Go.Proofs.Ytnhkgkpjkgifoaa
namespace Go.Proofs.Ytnhkgkpjkgifoaa
open Go.RowKit

theorem spot_of_cell {w : World} {a : Addr} {u : Value} (h : w.cell? a = some u) : a = ⟨a.block, a.off, none⟩ := by
  obtain ⟨b, o, s⟩ := a
  cases s with
  | none => rfl
  | some s =>
    unfold World.cell? at h
    split at h
    · simp at h
    · cases h
theorem lst_0 (B cI : Nat) (ad : Addr) (w : World) (h : Reads w B (some ad) 1 (bl [false])) : Calls Try.prog 13 #[.slice (some ad) 1 cI] w fun e w' => e = .returned (.int .i64 0) ∧ w = w' := by
  have c0 : w.cell? (ad.add 0) = some (.bool false) := by obtain ⟨ad', e, _, hc⟩ := bl_at h (show 0 < 1 by decide); injection e with e; subst e; exact hc
  have c0 : w.cell? ad = some (.bool false) := by simpa [Addr.add] using c0
  obtain ⟨g, o, rfl⟩ : ∃ g o, ad = ⟨g, o, none⟩ := ⟨_, _, spot_of_cell c0⟩
  have c0 : w.cell? ⟨g, o, none⟩ = some (.bool false) := c0
  clear h
  go_enter Try.func13, Try.ntmps13
  go_wp2_with fail
  refine wp_loop_rounds 2 ?_
  rw [rounds_succ]
  go_wp2
  rw [rounds_succ]
  go_wp2
  go_ret
  exact ⟨rfl, rfl⟩
theorem lst_00 (B cI : Nat) (ad : Addr) (w : World) (h : Reads w B (some ad) 2 (bl [false, false])) : Calls Try.prog 13 #[.slice (some ad) 2 cI] w fun e w' => e = .returned (.int .i64 0) ∧ w = w' := by
  have c0 : w.cell? (ad.add 0) = some (.bool false) := by obtain ⟨ad', e, _, hc⟩ := bl_at h (show 0 < 2 by decide); injection e with e; subst e; exact hc
  have c1 : w.cell? (ad.add 1) = some (.bool false) := by obtain ⟨ad', e, _, hc⟩ := bl_at h (show 1 < 2 by decide); injection e with e; subst e; exact hc
  have c0 : w.cell? ad = some (.bool false) := by simpa [Addr.add] using c0
  obtain ⟨g, o, rfl⟩ : ∃ g o, ad = ⟨g, o, none⟩ := ⟨_, _, spot_of_cell c0⟩
  have c0 : w.cell? ⟨g, o, none⟩ = some (.bool false) := c0
  have c1 : w.cell? ⟨g, o + 1, none⟩ = some (.bool false) := by simpa [Addr.add] using c1
  clear h
  go_enter Try.func13, Try.ntmps13
  go_wp2_with fail
  refine wp_loop_rounds 3 ?_
  rw [rounds_succ]
  go_wp2
  rw [rounds_succ]
  go_wp2
  rw [rounds_succ]
  go_wp2
  go_ret
  exact ⟨rfl, rfl⟩
theorem lst_000 (B cI : Nat) (ad : Addr) (w : World) (h : Reads w B (some ad) 3 (bl [false, false, false])) : Calls Try.prog 13 #[.slice (some ad) 3 cI] w fun e w' => e = .returned (.int .i64 0) ∧ w = w' := by
  have c0 : w.cell? (ad.add 0) = some (.bool false) := by obtain ⟨ad', e, _, hc⟩ := bl_at h (show 0 < 3 by decide); injection e with e; subst e; exact hc
  have c1 : w.cell? (ad.add 1) = some (.bool false) := by obtain ⟨ad', e, _, hc⟩ := bl_at h (show 1 < 3 by decide); injection e with e; subst e; exact hc
  have c2 : w.cell? (ad.add 2) = some (.bool false) := by obtain ⟨ad', e, _, hc⟩ := bl_at h (show 2 < 3 by decide); injection e with e; subst e; exact hc
  have c0 : w.cell? ad = some (.bool false) := by simpa [Addr.add] using c0
  obtain ⟨g, o, rfl⟩ : ∃ g o, ad = ⟨g, o, none⟩ := ⟨_, _, spot_of_cell c0⟩
  have c0 : w.cell? ⟨g, o, none⟩ = some (.bool false) := c0
  have c1 : w.cell? ⟨g, o + 1, none⟩ = some (.bool false) := by simpa [Addr.add] using c1
  have c2 : w.cell? ⟨g, o + 2, none⟩ = some (.bool false) := by simpa [Addr.add] using c2
  clear h
  go_enter Try.func13, Try.ntmps13
  go_wp2_with fail
  refine wp_loop_rounds 4 ?_
  rw [rounds_succ]
  go_wp2
  rw [rounds_succ]
  go_wp2
  rw [rounds_succ]
  go_wp2
  rw [rounds_succ]
  go_wp2
  go_ret
  exact ⟨rfl, rfl⟩
theorem lst_011 (B cI : Nat) (ad : Addr) (w : World) (h : Reads w B (some ad) 3 (bl [false, true, true])) : Calls Try.prog 13 #[.slice (some ad) 3 cI] w fun e w' => e = .returned (.int .i64 6) ∧ w = w' := by
  have c0 : w.cell? (ad.add 0) = some (.bool false) := by obtain ⟨ad', e, _, hc⟩ := bl_at h (show 0 < 3 by decide); injection e with e; subst e; exact hc
  have c1 : w.cell? (ad.add 1) = some (.bool true) := by obtain ⟨ad', e, _, hc⟩ := bl_at h (show 1 < 3 by decide); injection e with e; subst e; exact hc
  have c2 : w.cell? (ad.add 2) = some (.bool true) := by obtain ⟨ad', e, _, hc⟩ := bl_at h (show 2 < 3 by decide); injection e with e; subst e; exact hc
  have c0 : w.cell? ad = some (.bool false) := by simpa [Addr.add] using c0
  obtain ⟨g, o, rfl⟩ : ∃ g o, ad = ⟨g, o, none⟩ := ⟨_, _, spot_of_cell c0⟩
  have c0 : w.cell? ⟨g, o, none⟩ = some (.bool false) := c0
  have c1 : w.cell? ⟨g, o + 1, none⟩ = some (.bool true) := by simpa [Addr.add] using c1
  have c2 : w.cell? ⟨g, o + 2, none⟩ = some (.bool true) := by simpa [Addr.add] using c2
  clear h
  go_enter Try.func13, Try.ntmps13
  go_wp2_with fail
  refine wp_loop_rounds 4 ?_
  rw [rounds_succ]
  go_wp2
  rw [rounds_succ]
  go_wp2
  rw [rounds_succ]
  go_wp2
  rw [rounds_succ]
  go_wp2
  go_ret
  exact ⟨rfl, rfl⟩
theorem lstate_any (B cI b : Nat) (ad : Addr) (w : World) (h1 : 1 ≤ b) (h2 : b ≤ 3) (h : Reads w B (some ad) b (bl (List.replicate b false))) : Calls Try.prog 13 #[.slice (some ad) b cI] w fun e w' => e = .returned (.int .i64 0) ∧ w = w' := by
  have hb : b = 1 ∨ b = 2 ∨ b = 3 := by omega
  rcases hb with rfl | rfl | rfl
  · exact lst_0 B cI ad w h
  · exact lst_00 B cI ad w h
  · exact lst_000 B cI ad w h
end Go.Proofs.Ytnhkgkpjkgifoaa
namespace Go.Proofs.Ytnhkgkpjkgifoaa
open Go.RowKit

/-- the inputs of states -/
def bitsl (b : Nat) (ns : List Nat) : List Bool := ns.flatMap fun s => (List.range b).map (bt s)
theorem bitsl_len (b : Nat) (ns : List Nat) : (bitsl b ns).length = ns.length * b := by
  induction ns with
  | nil => simp [bitsl]
  | cons x r ih => simp only [bitsl, List.flatMap_cons, List.length_append, List.length_map, List.length_range, List.length_cons] at ih ⊢; rw [ih, Nat.succ_mul]; omega
theorem bitsl_take (b : Nat) (ns : List Nat) (j : Nat) (h : j < ns.length) : bitsl b (ns.take (j + 1)) = bitsl b (ns.take j) ++ (List.range b).map (bt (ns.getD j 0)) := by
  unfold bitsl
  rw [List.take_add_one, List.getElem?_eq_getElem h, List.flatMap_append]
  simp [List.getD_eq_getElem?_getD, h]
section
variable (AH AN : Option Addr) (cH cN : Nat) (T : Tr) (st : Nat) (w : World)
set_option maxRecDepth 100000 in
set_option maxHeartbeats 4000000 in
theorem linp_err (AI : Option Addr) (cI q : Nat) (l : List Int) (er : Int) (h : TS w AH AN T) (ht : Rt T) (hI : Reads w w.heap.size AI q (il l)) (hq : q ≤ 1000000) (he : (ev T.st T.n l (fo T.nx ((T.m - 1 : Nat) : Int) l)).2 = er) (hne : er ≠ 0) :
    Calls Try.prog 10 #[.agg #[.int .i64 T.st, .slice AH T.n cH, .slice AN T.m cN], .slice AI q cI] w fun e w' => e = .returned (.tuple #[.slice none 0 0, .int .i64 er]) ∧ Below w.heap.size w w' := by
  have EV := Lib.hid (fun w' (hb : Below w.heap.size w w') => eval_any AH cH AN cN T AI cI l w' q (h.later hb) ht (hI.later hb) hq)
  rw [he] at EV
  generalize (ev T.st T.n l (fo T.nx ((T.m - 1 : Nat) : Int) l)).1 = x at EV
  have hne' : (er != 0) = true := by rw [bne_iff_ne]; exact hne
  generalize T.st = st' at *
  generalize T.n = n at *
  generalize T.m = m at *
  have B1 := Lib.hid ((Below.refl w.heap.size w).alloc (Nat.le_refl _) (.cells #[.int .i64 st', .slice AH n cH, .slice AN m cN] 25))
  clear h ht hI he hne
  go_enter Try.func10, Try.ntmps10
  go_wp2_with (go_at_call 8; (with_reducible refine (EV.out _ B1.out).mono ?_); rintro e w1 ⟨rfl, hb⟩; have B2 := Lib.hid (B1.out.trans (hb.mono B1.out.size)); clear hb)
  go_ret2
  exact ⟨rfl, B2.out⟩
set_option maxRecDepth 100000 in
set_option maxHeartbeats 8000000 in
theorem linp_ok (AI : Option Addr) (cI : Nat) (ns : List Nat) (h : TS w AH AN T) (ht : Rt T) (hst : T.st = (st : Int)) (hn : ns.length = T.n) (hs : ∀ j, j < ns.length → ns.getD j 0 < st) (hI : Reads w w.heap.size AI ns.length (il (nl ns))) :
    Calls Try.prog 10 #[.agg #[.int .i64 T.st, .slice AH T.n cH, .slice AN T.m cN], .slice AI ns.length cI] w fun e w' => ∃ A c, e = .returned (.tuple #[.slice A (ns.length * bs st) c, .int .i64 0]) ∧ Reads w' w'.heap.size A (ns.length * bs st) (bl (bitsl (bs st) ns)) ∧ Below w.heap.size w w' := by
  obtain ⟨i0, hi0, hz0, hz1, hz2⟩ := info_parts info_boolV
  have n2 := ht.hd.1.2
  have s1 := ht.s1
  have s2 := ht.s2
  have EV := Lib.hid (fun w' (hb : Below w.heap.size w w') => eval_any AH cH AN cN T AI cI (nl ns) w' ns.length (h.later hb) ht (hI.later hb) (by omega))
  have he : (ev T.st T.n (nl ns) (fo T.nx ((T.m - 1 : Nat) : Int) (nl ns))).2 = 0 := by
    have hal : als T.st (nl ns) = true := (als_iff _ _).2 fun i hi => by
      have hi' : i < ns.length := by simpa [nl] using hi
      have := hs i hi'
      rw [nl_ig]
      omega
    rw [ev, if_pos (by simp [nl, hn]), if_pos hal]
  rw [he] at EV
  generalize (ev T.st T.n (nl ns) (fo T.nx ((T.m - 1 : Nat) : Int) (nl ns))).1 = x at EV
  have BI := Lib.hid (fun w' => bits_any st w' (by omega) (by omega))
  have hb3 : bs st ≤ 3 := by unfold bs; split <;> (try split) <;> omega
  have hst8 : st ≤ 8 := by omega
  generalize bs st = b at *
  rw [hst] at EV ⊢
  generalize T.n = n at *
  generalize T.m = m at *
  obtain ⟨q, hq⟩ : ∃ q, ns.length = q := ⟨_, rfl⟩
  rw [hq] at EV hn hs hI ⊢
  have hq25 : q ≤ 25 := by omega
  have B1 := Lib.hid ((Below.refl w.heap.size w).alloc (Nat.le_refl _) (.cells #[.int .i64 (st : Int), .slice AH n cH, .slice AN m cN] 25))
  have K1 := Lib.hid (Blk.new w 25 #[.int .i64 (st : Int), .slice AH n cH, .slice AN m cN])
  have HQ := Lib.hid hq
  have HS := Lib.hid hs
  have HI := Lib.hid hI
  obtain ⟨P, hP⟩ : ∃ P, q * b = P := ⟨_, rfl⟩
  have HP := Lib.hid hP
  rw [hP]
  clear h ht hI he hs hq hn n2 s1 s2 hst hP
  go_enter Try.func10, Try.ntmps10
  go_upto_region 1 with (fail)
  generalize w.alloc (.cells #[.int .i64 (st : Int), .slice AH n cH, .slice AN m cN] 25) = w1 at *
  obtain ⟨a0, a1, a2, _, _, _, a6⟩ := K1.out.three6
  go_upto_region 2 with (go_at_call 8; (with_reducible refine (EV.out _ B1.out).mono ?_); rintro e w2 ⟨rfl, hb⟩; have B2 := Lib.hid (B1.out.trans (hb.mono B1.out.size)); have K2 := Lib.hid (K1.out.below hb K1.out.lt); clear hb)
  have HI2 := Lib.hid (HI.out.later B2.out)
  clear a0 a1 a2
  exact (by
    go_wp2_with fail
    go_loopw [8, 23] (fun vv iv wr => ∃ (j : Nat) (A : Option Addr) (c M : Nat), j ≤ q ∧ vv = .slice A M c ∧ iv = .int .i64 (j : Int) ∧ Hid (M = j * b) ∧ Hid (wr.ownsRow w2.heap.size 4 1 (.slice A M c) M (bl (bitsl b (ns.take j)))) ∧ Hid (Below w2.heap.size w2 wr)) (fun _ iv _ => q - (intOf iv).toNat)
    case atStart => exact ⟨0, none, 0, 0, Nat.zero_le _, rfl, rfl, Lib.hid (by omega), Lib.hid (World.ownsRow_nil _ _ _ _), Lib.hid (Below.refl _ _)⟩
    case round =>
      obtain ⟨j, A, c, M, hj, rfl, rfl, HM, HW, HB⟩ := hrel
      by_cases hk : j < q
      · obtain ⟨k0, k1, k2, _, _, _, k6⟩ := (K2.out.below HB.out K2.out.lt).three6
        obtain ⟨ad, hA, _, hc⟩ := il_at (HI2.out.below HB.out) hk
        subst hA
        rw [nl_ig] at hc
        have hs8 := HS.out j hk
        have HT := Lib.hid (bitsl_take b ns j (by rw [HQ.out]; exact hk))
        generalize ns.getD j 0 = s at hc hs8 HT
        have hMb : M ≤ 100 := by
          have h1 := HM.out
          have : j * b ≤ 25 * 3 := Nat.mul_le_mul (by omega) hb3
          omega
        have hs9 : s < 8 := by omega
        clear k1 k2 hs8
        exact (by
          go_wp2_with (go_at_call 33; (with_reducible refine (BI.out _).mono ?_); rintro e w4 ⟨rfl, rfl⟩)
          go_loopw [8, 30] (fun vv iv wx => ∃ (k : Nat) (A' : Option Addr) (c' M' : Nat), k ≤ b ∧ vv = .slice A' M' c' ∧ iv = .int .i64 (k : Int) ∧ Hid (M' = M + k) ∧ Hid (wx.ownsRow w2.heap.size 4 1 (.slice A' M' c') M' (bl (bitsl b (ns.take j) ++ (List.range k).map (bt s)))) ∧ Hid (Below w2.heap.size w2 wx)) (fun _ iv _ => b - (intOf iv).toNat)
          case atStart => exact ⟨0, A, c, M, Nat.zero_le _, rfl, rfl, Lib.hid rfl, by simpa using HW, HB⟩
          case round =>
            obtain ⟨k, A', c', M', hk', rfl, rfl, HM', HW', HB'⟩ := hrel
            by_cases hkb : k < b
            · have DG := Lib.hid (fun w' => digit_any s k w' hs9 (by omega))
              obtain ⟨y, hy⟩ : ∃ y, bt s k = y := ⟨_, rfl⟩
              rw [hy] at DG
              have HY := Lib.hid hy
              have SZ := HB'.out.size
              have hM2 : M' ≤ 110 := by have := HM'.out; omega
              clear hy
              go_wp2_with (first
                | (go_at_call 34; (with_reducible refine (DG.out _).mono ?_); rintro e w5 ⟨rfl, rfl⟩)
                | (at_builtin; refine wpList_append1B rfl _ _ 37 rfl w2.heap.size 4 i0 (.bool false) 1 Try.underlying37 hi0 hz0 hz1 hz2 rfl _ M' c' _ rfl HW'.out (.bool y) rfl rfl (by unfold maxLen; omega) (by omega) SZ ?_; intro g' c5 w5 hown5 hbel5; have O5 := Lib.hid hown5; have B5 := Lib.hid hbel5; clear hown5 hbel5))
              go_roundw
              case rel => exact ⟨k + 1, some ⟨g', 0, none⟩, c5, M' + 1, by omega, rfl, by go_num, Lib.hid (by have := HM'.out; omega), Lib.hid (by rw [List.range_succ, List.map_append, ← List.append_assoc, List.map_cons, List.map_nil, HY.out, bl_add]; exact O5.out), Lib.hid (HB'.out.trans B5.out)⟩
              case measure => simp [intOf]; omega
            · obtain rfl : k = b := by omega
              go_wp2_with fail
              go_roundw
              case rel => exact ⟨j + 1, A', c', M', by omega, rfl, by go_num, Lib.hid (by have := HM'.out; have := HM.out; rw [Nat.succ_mul]; omega), Lib.hid (by rw [HT.out]; exact HW'.out), HB'⟩
              case measure => simp [intOf]; omega)
      · obtain rfl : j = q := by omega
        have HR := Lib.hid (Reads.of_own HW.out)
        have hMP : M = P := by have := HM.out; have := HP.out; omega
        subst hMP
        go_wp2
        go_ret2
        exact ⟨A, c, rfl, by have := HR.out; rwa [show ns.take j = ns by rw [← HQ.out]; exact List.take_length] at this, B2.out.trans (HB.out.mono B2.out.size)⟩)
end
end Go.Proofs.Ytnhkgkpjkgifoaa
