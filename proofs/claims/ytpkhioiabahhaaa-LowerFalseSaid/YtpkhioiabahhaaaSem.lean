/- A rule's circuit is valid, and what its outputs are. -/
import Derived.Test.YtpkhioiabahhaaaCor
import Derived.Test.YtpkhioiabahhaaaMea
import Derived.Test.YtpkhioiabahhaaaRev
namespace Go.Proofs.Ytpkhioiabahhaaa
open Go.RowKit

theorem tr_lv {T : Tr} (ht : Rt T) {st : Nat} (hst : T.st = (st : Int)) : ∀ i, i < T.m → (nxN T i).length = st ∧ 1 ≤ lvN T i ∧ lvN T i ≤ T.n ∧ (1 < lvN T i → ∀ j, j < st → (nxN T i).getD j 0 < i ∧ lvN T ((nxN T i).getD j 0) = lvN T i - 1) := fun i hi => by
  obtain ⟨q1, q2, q3, q4⟩ := ht.nd i hi
  have hlen : (T.nx i).length = st := by omega
  refine ⟨by rw [nxN_len]; exact hlen, by unfold lvN; omega, by unfold lvN; omega, fun h1 j hj => ?_⟩
  obtain ⟨e1, _, e3⟩ := q4 j (by omega)
  obtain ⟨e4, e5⟩ := e3 (by unfold lvN at h1; omega)
  rw [nxN_at]
  refine ⟨by omega, ?_⟩
  unfold lvN
  rw [e5]
  omega
theorem crO_sem {T : Tr} (ht : Rt T) {st : Nat} (hst : T.st = (st : Int)) (hn : T.n ≤ 40) (hm : T.m ≤ 60) (l : List Bool) (hl : l.length = T.n * bs st) :
    rt (crO T st) = true ∧ bo17 (bvn (crO T st).g l (crO T st).n) (crO T st).o = (List.range (bs st)).map fun k => nv l (bs st) T.n (nxN T) T.n (T.m - 1) k := by
  have s1 := ht.s1
  have s2 := ht.s2
  have m1 := ht.m1
  have hb3 : bs st ≤ 3 := by unfold bs; split <;> (try split) <;> omega
  have hb1 : 1 ≤ bs st := by unfold bs; split <;> (try split) <;> omega
  have hN : T.n * bs st ≤ 120 := by have := Nat.mul_le_mul hn hb3; omega
  obtain ⟨g1, e1, t1⟩ := tsF_sp l (bs st) st hb1 T.n (by omega)
  have hlv := tr_lv ht hst
  obtain ⟨g2, e2, r2⟩ := rsF_sp l (tsF l.length (n1L l.length l.length) (bs st) st T.n (g1L l.length)).1 (bs st) T.n T.m st (lvN T) (nxN T) _ g1 t1 hlv T.m (Nat.le_refl _)
  have hng := crO_n ht hst hn hm
  have hol := crO_outs ht st
  have htop : lvN T (T.m - 1) = T.n := by unfold lvN; rw [ht.top]; omega
  have hR := fun k hk => r2 (T.m - 1) (by omega) k hk
  rw [htop] at hR
  have hrs : rsF l.length (tsF l.length (n1L l.length l.length) (bs st) st T.n (g1L l.length)).1 (bs st) T.n (lvN T) (nxN T) T.m (tsF l.length (n1L l.length l.length) (bs st) st T.n (g1L l.length)).2 = crRS T st := by
    rw [hl]; rfl
  rw [hrs] at g2 hR
  clear hrs e1 t1 g1 e2 r2
  have hins : (crO T st).ins = ((T.n * bs st : Nat) : Int) := rfl
  have hnn : (crO T st).n = (crRS T st).2.length := rfl
  have hgg : (crO T st).g = fun k => (crRS T st).2.getD k (0, 0, 0) := rfl
  have hoo : (crO T st).o = (crRS T st).1.getD (T.m - 1) [] := rfl
  have hv : bvn (crO T st).g l (crO T st).n = Vl (crRS T st).2 l := by rw [hgg, hnn]; rfl
  rw [← hoo] at hR
  refine ⟨(rt_iff _).2 ⟨⟨by rw [hins]; omega, by rw [hins]; omega, by omega, by omega⟩, fun k hk => ?_, fun k hk => ?_⟩, ?_⟩
  · rw [hgg, hins, ← hl]
    exact g2 k (by rw [← hnn]; exact hk)
  · obtain ⟨q1, q2, _⟩ := hR k (by omega)
    rw [isw_iff, hins, hnn, ← hl]
    exact ⟨q1, q2⟩
  · rw [hv]
    apply List.ext_getElem
    · rw [bo17_len, hol]; simp
    · intro k h1 h2
      have hk : k < bs st := by simpa using h2
      obtain ⟨q1, q2, q3⟩ := hR k hk
      have hk' : k < (crO T st).o.length := by rw [hol]; exact hk
      have e : ig (crO T st).o k = (crO T st).o[k] := by simp [ig, List.getD_eq_getElem?_getD, hk']
      rw [e] at q3
      simp only [bo17, List.getElem_map, List.getElem_range]
      exact q3
/-- a position that has no state -/
theorem crO_wrong {T : Tr} (ht : Rt T) {st : Nat} (hst : T.st = (st : Int)) (l : List Bool) (i0 : Nat) (hi : i0 < T.n) (hw : ∀ s, s < st → te l (bs st) i0 s = false) :
    ((List.range (bs st)).map fun k => nv l (bs st) T.n (nxN T) T.n (T.m - 1) k) = List.replicate (bs st) false := by
  have m1 := ht.m1
  have htop : lvN T (T.m - 1) = T.n := by unfold lvN; rw [ht.top]; omega
  rw [List.eq_replicate_iff]
  refine ⟨by simp, fun b hb => ?_⟩
  simp only [List.mem_map, List.mem_range] at hb
  obtain ⟨k, _, rfl⟩ := hb
  exact nv_wrong l (bs st) T.n st T.m i0 (lvN T) (nxN T) hi hw (tr_lv ht hst) k T.n (T.m - 1) (by omega) htop (by omega)
/-- the number of bits -/
def nmv : List Bool → Nat
  | [] => 0
  | x :: r => (if x then 1 else 0) + 2 * nmv r
/-- a number that is no state has no test -/
theorem te_wrong (l : List Bool) (st i : Nat) (h1 : 2 ≤ st) (h2 : st ≤ 8) (hl : i * bs st + bs st ≤ l.length) (hw : st ≤ nmv ((l.drop (i * bs st)).take (bs st))) (s : Nat) (hs : s < st) : te l (bs st) i s = false := by
  rw [← Bool.not_eq_true]
  intro h
  rw [te, List.all_eq_true] at h
  have hb : ∀ k, k < bs st → bg l (i * bs st + k) = bt s k := fun k hk => by
    have := h k (by simpa using hk)
    simpa using this
  have e : (l.drop (i * bs st)).take (bs st) = (List.range (bs st)).map (bt s) := by
    apply List.ext_getElem
    · simp; omega
    · intro k q1 q2
      have hk : k < bs st := by simpa using q2
      have := hb k hk
      simp only [List.getElem_take, List.getElem_drop, List.getElem_map, List.getElem_range]
      rw [← this, bg, List.getD_eq_getElem?_getD, List.getElem?_eq_getElem (by omega)]
      rfl
  rw [e] at hw
  have key : ∀ st, st < 9 → 2 ≤ st → ∀ s, s < st → nmv ((List.range (bs st)).map (bt s)) = s := by decide
  rw [key st (by omega) h1 s hs] at hw
  omega
end Go.Proofs.Ytpkhioiabahhaaa
