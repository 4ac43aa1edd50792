/- What the law wants of a rule and states, in one statement. -/
import Derived.Test.YtnhkgkpjkgifoaaMbp
import Derived.Test.YtnhkgkpjkgifoaaMbf
import Derived.Test.YtnhkgkpjkgifoaaMbg
namespace Go.Proofs.Ytnhkgkpjkgifoaa
open Go.RowKit

theorem rt_cok {N : Nat} {gs : List C3} {os : List Int} (h : rt (crL N gs os) = true) : COk N gs os ∧ os.length ≤ 1000 := by
  rw [rt_iff] at h
  obtain ⟨⟨h0, h1, h2, h3⟩, h4, h5⟩ := h
  refine ⟨⟨by have : (N : Int) ≤ 1000 := h1; omega, h2, fun k hk => h4 k hk, fun k hk => ?_⟩, h3⟩
  have := (isw_iff _ _).1 (h5 k hk)
  exact this
/-- the law's calls at a rule and states -/
def RPk (AH AN AI : Option Addr) (cH cN cI q : Nat) (T : Tr) (w : World) (V : Int) : Prop :=
  ∃ (N n b : Nat) (C : Cr) (bits vs : List Bool), vs.length = b ∧ 1 ≤ b ∧ b ≤ 3 ∧ (nmv vs : Int) = V ∧
    (∀ W, Below w.heap.size w W → Calls Try.prog 9 #[.agg #[.int .i64 T.st, .slice AH T.n cH, .slice AN T.m cN]] W fun e W' => ∃ A AO c cO, e = .returned (.tuple #[.agg #[.int .i64 (N : Int), .slice A n c, .slice AO b cO], .int .i64 0]) ∧ CS W' A AO C ∧ Below W.heap.size W W') ∧
    (∀ W, Below w.heap.size w W → Calls Try.prog 10 #[.agg #[.int .i64 T.st, .slice AH T.n cH, .slice AN T.m cN], .slice AI q cI] W fun e W' => ∃ A c, e = .returned (.tuple #[.slice A N c, .int .i64 0]) ∧ Reads W' W'.heap.size A N (bl bits) ∧ Below W.heap.size W W') ∧
    (∀ W A AO c cO, CS W A AO C → Calls Try.prog 12 #[.agg #[.int .i64 (N : Int), .slice A n c, .slice AO b cO]] W fun e W' => ∃ C' n' A' AO' c' cO', e = .returned (.agg #[.int .i64 (N : Int), .slice A' n' c', .slice AO' b cO']) ∧ CS W' A' AO' C' ∧ Below W.heap.size W W' ∧
      ∀ W2 AB cB, CS W2 A' AO' C' → Reads W2 W2.heap.size AB N (bl bits) → Calls Try.prog 11 #[.agg #[.int .i64 (N : Int), .slice A' n' c', .slice AO' b cO'], .slice AB N cB] W2 fun e W3 => ∃ A2 c2, e = .returned (.tuple #[.slice A2 b c2, .int .i64 0]) ∧ Reads W3 W3.heap.size A2 b (bl vs) ∧ Below W2.heap.size W2 W3)
theorem rules_pk (AH AN AI : Option Addr) (cH cN cI q : Nat) (T : Tr) (l : List Int) (w : World) (V : Int) (h : TS w AH AN T) (hn : T.n ≤ 40) (hm : T.m ≤ 40) (ht : Rt T) (hI : Reads w w.heap.size AI q (il l)) (he : ev T.st T.n l (fo T.nx ((T.m - 1 : Nat) : Int) l) = (V, 0)) : RPk AH AN AI cH cN cI q T w V := by
  have s1 := ht.s1
  have s2 := ht.s2
  obtain ⟨st, hst⟩ : ∃ st : Nat, T.st = (st : Int) := ⟨T.st.toNat, by omega⟩
  have hb3 : bs st ≤ 3 := by unfold bs; split <;> (try split) <;> omega
  have hb1 : 1 ≤ bs st := by unfold bs; split <;> (try split) <;> omega
  have hql : l.length = q := by simpa [il] using hI.1
  obtain ⟨hln, hal, hV⟩ : l.length = T.n ∧ als T.st l = true ∧ fo T.nx ((T.m - 1 : Nat) : Int) l = V := by
    unfold ev at he
    split at he
    · rename_i h1
      split at he
      · rename_i h2
        injection he with e1 _
        exact ⟨h1, h2, e1⟩
      · injection he with _ e2
        exact absurd e2 (by decide)
    · injection he with _ e2
      exact absurd e2 (by decide)
  rw [als_iff] at hal
  obtain ⟨ns, hns⟩ : ∃ ns : List Nat, ns = l.map Int.toNat := ⟨_, rfl⟩
  have hnsl : ns.length = T.n := by rw [hns, List.length_map, hln]
  have hnl : nl ns = l := by
    rw [hns]
    unfold nl
    rw [List.map_map]
    conv => rhs; rw [← List.map_id l]
    apply List.map_congr_left
    intro x hx
    obtain ⟨i, hi, rfl⟩ := List.getElem_of_mem hx
    have := hal i hi
    simp [ig, List.getD_eq_getElem?_getD, hi] at this
    simp
    omega
  have hs : ∀ j, j < ns.length → ns.getD j 0 < st := fun j hj => by
    have := hal j (by omega)
    rw [← hnl, nl_ig] at this
    omega
  obtain ⟨hrt, hval⟩ := crO_val ht hst hn (by omega) hnsl hs
  rw [hnl, hV] at hval
  obtain ⟨hc, hol⟩ := rt_cok (N := T.n * bs st) (gs := (crRS T st).2) (os := (crRS T st).1.getD (T.m - 1) []) hrt
  have hob : ((crRS T st).1.getD (T.m - 1) []).length = bs st := crO_outs ht st
  have hbl : (bitsl (bs st) ns).length = T.n * bs st := by rw [bitsl_len, hnsl]
  refine ⟨T.n * bs st, (crRS T st).2.length, bs st, crO T st, bitsl (bs st) ns, bo17 (bvn (crO T st).g (bitsl (bs st) ns) (crO T st).n) (crO T st).o, by rw [bo17_len]; exact crO_outs ht st, hb1, hb3, hval, fun W hb => ?_, fun W hb => ?_, fun W A AO c cO hcs => ?_⟩
  · refine (lower_ok AH AN cH cN T st W (h.later hb) ht hst hn (by omega)).mono fun e W' ⟨A, AO, c, cO, he, h1, h2⟩ => ⟨A, AO, c, cO, ?_, h1, h2⟩
    rw [crO_outs ht st] at he
    exact he
  · have q := linp_ok AH AN cH cN T st W AI cI ns (h.later hb) ht hst hnsl hs (by rw [hnl, hnsl, ← hln, hql]; exact hI.later hb)
    rw [hnsl] at q
    rw [← hql, hln]
    exact q
  · have q := oAll_any (T.n * bs st) (crRS T st).2 ((crRS T st).1.getD (T.m - 1) []) A AO c cO W hcs hc hol
    rw [hob] at q
    refine q.mono fun e W' ⟨k, hk, A', O', cA', cO', he, h1, h2⟩ => ?_
    have K := keeps_it hc k
    obtain ⟨k1, k2, k3, _, _⟩ := K
    rw [hob] at k2
    rw [k2] at he
    refine ⟨_, _, A', O', cA', cO', he, h1, h2, fun W2 AB cB hc2 hr2 => ?_⟩
    have r := ceval_any A' O' AB cA' cO' cB (crL (T.n * bs st) (itC (T.n * bs st) k ((crRS T st).2, (crRS T st).1.getD (T.m - 1) [])).1 (itC (T.n * bs st) k ((crRS T st).2, (crRS T st).1.getD (T.m - 1) [])).2) (bitsl (bs st) ns) W2 hc2 (by rw [hbl]; exact hr2) (crL_rt k1 (by omega)) (by rw [hbl]; rfl)
    rw [evb_eq] at r
    have e3 := k3 (bitsl (bs st) ns) hbl
    have e4 : bo17 (bvn (crL (T.n * bs st) (itC (T.n * bs st) k ((crRS T st).2, (crRS T st).1.getD (T.m - 1) [])).1 (itC (T.n * bs st) k ((crRS T st).2, (crRS T st).1.getD (T.m - 1) [])).2).g (bitsl (bs st) ns) (crL (T.n * bs st) (itC (T.n * bs st) k ((crRS T st).2, (crRS T st).1.getD (T.m - 1) [])).1 (itC (T.n * bs st) k ((crRS T st).2, (crRS T st).1.getD (T.m - 1) [])).2).n) (crL (T.n * bs st) (itC (T.n * bs st) k ((crRS T st).2, (crRS T st).1.getD (T.m - 1) [])).1 (itC (T.n * bs st) k ((crRS T st).2, (crRS T st).1.getD (T.m - 1) [])).2).o = bo17 (bvn (crO T st).g (bitsl (bs st) ns) (crO T st).n) (crO T st).o := e3
    rw [e4, hbl] at r
    have e5 : (crL (T.n * bs st) (itC (T.n * bs st) k ((crRS T st).2, (crRS T st).1.getD (T.m - 1) [])).1 (itC (T.n * bs st) k ((crRS T st).2, (crRS T st).1.getD (T.m - 1) [])).2).o.length = bs st := k2
    rw [e5] at r
    exact r
end Go.Proofs.Ytnhkgkpjkgifoaa
