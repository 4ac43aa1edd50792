/- The walk of the reference's Complement. -/
import Derived.Test.YtajepngppnennaaDoorComp
namespace Go.Proofs.YtajepngppnennaaDoor
open Go.RowKit

/-- append of one value onto a row of the call's own, and where the new row lies -/
theorem wpList_append1L {P : Program} {w : World} {ops : Array Oper} {rest : List Oper} {o : Oper} {a : Act} {Q : Exit → Act → World → Prop} (hgd : o.guard = none) (s x : Operand) (t : TypeId)
    (ho : o.op = .call { callee := .builtin .append, args := #[s, x], argTypes := #[t, t] })
    (base : Nat) (e : TypeId) (i : TypeInfo) (z : Value) (bytes : Nat) (ht : P.underlying t = some (.slice e)) (hi : P.info? e = some i) (hz : i.zero = some z)
    (hsize : i.size = 1) (hby : i.bytes = bytes) (hzs : z.cells.size = 1)
    (A : Option Addr) (n c : Nat) (xs : List Value) (hs : a.eval s = .slice A n c) (hown : w.ownsRow base e 1 (.slice A n c) n xs) (u : Value)
    (hx : a.eval x = .slice (some ⟨w.heap.size, 0, none⟩) 1 1) (h1 : u.oneCell' = true) (h63 : n + 1 ≤ maxLen) (hbytes : (n + 1) * bytes ≤ 140737488355328) (hbase : base ≤ w.heap.size)
    (h : ∀ g' c' w', w'.ownsRow base e 1 (.slice (some ⟨g', 0, none⟩) (n + 1) c') (n + 1) (xs ++ [u]) → Below base w w' → (w.alloc (.cells #[u] e)).grownBy w' (Value.slice A n c).ownBlock → ((Value.slice A n c).ownBlock = some g' ∨ g' = w.heap.size + 1) → wpList P ops Q rest (a.put o.dst (.slice (some ⟨g', 0, none⟩) (n + 1) c')) w') :
    wpList P ops Q (o :: rest) a (w.alloc (.cells #[u] e)) := by
  refine wpList_append_lies _ hgd s x t ho base e i z 1 bytes ht hi hz hsize hby hzs (by decide) _ n xs hs (hown.alloc _) ⟨w.heap.size, 0, none⟩ 1 1 [u] hx rfl ?_ ?_ (by decide) h63 hbytes (by simp; omega) (w.heap.size + 1) (by simp) ?_
  · intro j v hj
    match j, hj with
    | 0, hj => simp at hj; subst hj; simp [Addr.add]
  · intro v hv; simp at hv; subst hv; exact h1
  · intro g' c' w' hown' hg hat _
    refine h g' c' w' hown' (Below.grown ((Below.refl base w).alloc hbase _) hg (by simp; omega) ?_) hg hat
    intro k hk
    exact (hown.lt k hk).1
/-- two rows of the call's own, in different blocks -/
def Two (w : World) (base : Nat) (e : TypeId) (v1 : Value) (n1 : Nat) (x1 : List Value) (v2 : Value) (n2 : Nat) (x2 : List Value) : Prop :=
  w.ownsRow base e 1 v1 n1 x1 ∧ w.ownsRow base e 1 v2 n2 x2 ∧ ∀ k, v1.ownBlock = some k → v2.ownBlock ≠ some k
section
variable {w w' : World} {base : Nat} {e : TypeId} {v1 v2 : Value} {n1 n2 : Nat} {x1 x2 : List Value}
theorem Two.swap (h : Two w base e v1 n1 x1 v2 n2 x2) : Two w base e v2 n2 x2 v1 n1 x1 := ⟨h.2.1, h.1, fun k h2 h1 => h.2.2 k h1 h2⟩
theorem Two.left {o : Obj} {g n c : Nat} {x : List Value} (h : Two w base e v1 n1 x1 v2 n2 x2) (ho : w'.ownsRow base e 1 (.slice (some ⟨g, 0, none⟩) n c) n x) (hg : (w.alloc o).grownBy w' v1.ownBlock) (ha : v1.ownBlock = some g ∨ g = w.heap.size + 1) :
    Two w' base e (.slice (some ⟨g, 0, none⟩) n c) n x v2 n2 x2 := by
  refine ⟨ho, (h.2.1.alloc o).kept hg ?_, fun k hk => ?_⟩
  · cases hv : v2.ownBlock with
    | none => exact .inl rfl
    | some k => exact .inr fun e1 => h.2.2 k e1.symm hv
  · have hk : g = k := by simpa [Value.ownBlock] using hk
    subst hk
    intro h2
    rcases ha with ha | ha
    · exact h.2.2 _ ha h2
    · have := (h.2.1.lt _ h2).2
      omega
theorem Two.far {g i : Nat} (h : Two w base e v1 n1 x1 v2 n2 x2) (hg : g < base) (u : Value) : Two (w.setCell ⟨g, i, none⟩ u) base e v1 n1 x1 v2 n2 x2 := ⟨own_far h.1 hg u, own_far h.2.1 hg u, h.2.2⟩
theorem Two.alloc (h : Two w base e v1 n1 x1 v2 n2 x2) (o : Obj) : Two (w.alloc o) base e v1 n1 x1 v2 n2 x2 := ⟨h.1.alloc o, h.2.1.alloc o, h.2.2⟩
end
theorem nl_stop (l : List Int) (m k : Nat) : nl (exq l m) (m + 1 + k) = nl (exq l m) (m + 1) := by
  induction k with
  | zero => rfl
  | succ k ih =>
    rw [show m + 1 + (k + 1) = m + 1 + k + 1 by omega, nl_succ, ih]
    have : exq l m (m + 1 + k) = false := by simp [exq]; omega
    rw [this]
    rfl
theorem nl_ex (l : List Int) (m : Nat) (hm : m ≤ 8) : nl (exq l m) (m + 1) = ex l m := by
  have := nl_stop l m (9 - m)
  rw [show m + 1 + (9 - m) = 10 by omega] at this
  exact this.symm
theorem exq_at (l : List Int) (m j : Nat) (h : j < m + 1) : exq l m j = !decide ((m : Int) - (j : Int) ∈ l) := by
  simp [exq, h]
section
variable (A : Option Addr) (n c : Nat) (f : Nat → P2) (s : Int) (Ab : Option Addr) (nb cb : Nat) (b : List Int) (As : Option Addr) (ns cs : Nat) (l : List Int)
set_option maxRecDepth 100000 in
set_option maxHeartbeats 2000000 in
theorem rcomplement_no (w : World) (h : TR w A n f Ab nb b As ns l) (hn : n ≤ 1000) (hnb : nb ≤ 1000) (hns : ns ≤ 1000) (hq : (rt f n s b l && (s == 2)) = false) :
    Calls Tryd.prog 7 #[.agg #[.slice A n c, .int .i64 s, .slice Ab nb cb, .slice As ns cs]] w fun e w' => e = .returned (.tuple #[.agg #[.slice none 0 0, .int .i64 0, .slice none 0 0, .slice none 0 0], .int .i64 2]) ∧ Below w.heap.size w w' := by
  have PL := fun w' (hb : Below w.heap.size w w') => rright_any A n c f s Ab nb cb b As ns cs l w' (h.later hb) hn hnb hns
  obtain ⟨K1, K2, B0⟩ := two_blk w #[.slice A n c, .int .i64 s, .slice Ab nb cb, .slice As ns cs] #[.slice none 0 0, .int .i64 0, .slice none 0 0, .slice none 0 0] 25 25
  clear h
  generalize rt f n s b l = q at PL hq
  have zz := Lib.hid PL
  (try clear PL)
  have PL := zz
  clear zz
  cases q
  rotate_left
  · have hs : (s != 2) = true := by simpa using hq
    clear hq
    go_enter Tryd.func7, Tryd.ntmps7
    go_wp2_with fail
    generalize (w.alloc (.cells #[.slice A n c, .int .i64 s, .slice Ab nb cb, .slice As ns cs] 25)).alloc (.cells #[.slice none 0 0, .int .i64 0, .slice none 0 0, .slice none 0 0] 25) = w0 at K1 K2 B0 ⊢
    obtain ⟨p0, p1, p2, p3, p4⟩ := K1.four
    have K1 := Lib.hid K1
    have K2 := Lib.hid K2
    have B0 := Lib.hid B0
    go_wp2_with (go_at_call 17; (with_reducible refine (PL.out _ B0.out).mono ?_); rintro e w1 ⟨rfl, hb⟩; have B1 := Lib.hid (B0.out.trans (hb.mono B0.out.size)); have K12 := Lib.hid (K2.out.below hb K2.out.lt); obtain ⟨x0, x1, x2, x3, x4⟩ := (K1.out.below hb K1.out.lt).four; obtain ⟨u0, u1, u2, u3, u4, u5, u6, u7, u8⟩ := K12.out.four8; clear hb)
    have E := K12.out.all4 (.slice none 0 0) (.int .i64 0) (.slice none 0 0) (.slice none 0 0)
    have E2 := Below.all4 B1.out (Nat.le_succ _) (.slice none 0 0) (.int .i64 0) (.slice none 0 0) (.slice none 0 0)
    generalize (((w1.setCell ⟨w.heap.size + 1, 0, none⟩ (.slice none 0 0)).setCell ⟨w.heap.size + 1, 1, none⟩ (.int .i64 0)).setCell ⟨w.heap.size + 1, 2, none⟩ (.slice none 0 0)).setCell ⟨w.heap.size + 1, 3, none⟩ (.slice none 0 0) = wz at E E2 ⊢
    obtain ⟨j0, j1, j2, j3, j4⟩ := E.four
    exact bodyPost_ret (v := .tuple #[.agg #[.slice none 0 0, .int .i64 0, .slice none 0 0, .slice none 0 0], .int .i64 2]) (by simp [results, Tryd.results7, go_sem, j0, j1, j2, j3]) rfl ⟨rfl, E2⟩
  · clear hq
    go_enter Tryd.func7, Tryd.ntmps7
    go_wp2_with fail
    generalize (w.alloc (.cells #[.slice A n c, .int .i64 s, .slice Ab nb cb, .slice As ns cs] 25)).alloc (.cells #[.slice none 0 0, .int .i64 0, .slice none 0 0, .slice none 0 0] 25) = w0 at K1 K2 B0 ⊢
    obtain ⟨p0, p1, p2, p3, p4⟩ := K1.four
    have K1 := Lib.hid K1
    have K2 := Lib.hid K2
    have B0 := Lib.hid B0
    go_wp2_with (go_at_call 17; (with_reducible refine (PL.out _ B0.out).mono ?_); rintro e w1 ⟨rfl, hb⟩; have B1 := Lib.hid (B0.out.trans (hb.mono B0.out.size)); have K12 := Lib.hid (K2.out.below hb K2.out.lt); obtain ⟨x0, x1, x2, x3, x4⟩ := (K1.out.below hb K1.out.lt).four; obtain ⟨u0, u1, u2, u3, u4, u5, u6, u7, u8⟩ := K12.out.four8; clear hb)
    have E := K12.out.all4 (.slice none 0 0) (.int .i64 0) (.slice none 0 0) (.slice none 0 0)
    have E2 := Below.all4 B1.out (Nat.le_succ _) (.slice none 0 0) (.int .i64 0) (.slice none 0 0) (.slice none 0 0)
    generalize (((w1.setCell ⟨w.heap.size + 1, 0, none⟩ (.slice none 0 0)).setCell ⟨w.heap.size + 1, 1, none⟩ (.int .i64 0)).setCell ⟨w.heap.size + 1, 2, none⟩ (.slice none 0 0)).setCell ⟨w.heap.size + 1, 3, none⟩ (.slice none 0 0) = wz at E E2 ⊢
    obtain ⟨j0, j1, j2, j3, j4⟩ := E.four
    exact bodyPost_ret (v := .tuple #[.agg #[.slice none 0 0, .int .i64 0, .slice none 0 0, .slice none 0 0], .int .i64 2]) (by simp [results, Tryd.results7, go_sem, j0, j1, j2, j3]) rfl ⟨rfl, E2⟩
set_option maxRecDepth 100000 in
set_option maxHeartbeats 4000000 in
theorem rcomplement_yes (m : Nat) (w : World) (h : TR w A n f Ab nb b As ns l) (hm : m ≤ 8) (hn : n = m + 1) (hnb : nb ≤ 1000) (hns : ns ≤ 1000) (hq : rt f n 2 b l = true) :
    Calls Tryd.prog 7 #[.agg #[.slice A n c, .int .i64 2, .slice Ab nb cb, .slice As ns cs]] w fun e w' => ∃ A1 c1 A2 c2, e = .returned (.tuple #[.agg #[.slice A n c, .int .i64 2, .slice A1 (ex l m).length c1, .slice A2 (ex b m).length c2], .int .i64 0]) ∧ TR w' A n f A1 (ex l m).length (ex l m) A2 (ex b m).length (ex b m) ∧ Below w.heap.size w w' := by
  obtain ⟨i0, hi, hz0, hz1, hz2⟩ := info_parts Tryd.info_int
  have PL := fun w' (hb : Below w.heap.size w w') => rright_any A n c f 2 Ab nb cb b As ns cs l w' (h.later hb) (by omega) hnb hns
  rw [hq] at PL
  have PL := Lib.hid PL
  have HS := Lib.hid (fun k w' (hb : Below w.heap.size w w') => rhas_any As ns cs _ l k w' (h.later hb).2.2 (by omega))
  have HH := Lib.hid (fun k w' (hb : Below w.heap.size w w') => rhas_any Ab nb cb _ b k w' (h.later hb).2.1 (by omega))
  have HR := Lib.hid h
  obtain ⟨K1, K2, B0⟩ := two_blk w #[.slice A n c, .int .i64 2, .slice Ab nb cb, .slice As ns cs] #[.slice none 0 0, .int .i64 0, .slice none 0 0, .slice none 0 0] 25 25
  have e1 : (n : Int) - 1 = (m : Int) := by omega
  have hw1 : IntKind.i64.wrap ((n : Int) - 1) = (m : Int) := by rw [e1]; exact IntWalk.i64_in _ (by omega)
  clear h hq hn
  go_enter Tryd.func7, Tryd.ntmps7
  go_wp2_with fail
  generalize (w.alloc (.cells #[.slice A n c, .int .i64 2, .slice Ab nb cb, .slice As ns cs] 25)).alloc (.cells #[.slice none 0 0, .int .i64 0, .slice none 0 0, .slice none 0 0] 25) = w0 at K1 K2 B0 ⊢
  obtain ⟨p0, p1, p2, p3, p4⟩ := K1.four
  have K1 := Lib.hid K1
  have K2 := Lib.hid K2
  have B0 := Lib.hid B0
  go_wp2_with (go_at_call 17; (with_reducible refine (PL.out _ B0.out).mono ?_); rintro e w2 ⟨rfl, hb⟩; have B2 := Lib.hid (B0.out.trans (hb.mono B0.out.size)); have K11 := Lib.hid (K1.out.below hb K1.out.lt); have K12 := Lib.hid (K2.out.below hb K2.out.lt); obtain ⟨u0, u1, u2, u3, u4⟩ := K11.out.four; clear hb)
  have K5 := Lib.hid (Blk.new w2 25 #[.slice A n c, .int .i64 2, .slice none 0 0, .slice none 0 0])
  have K51 := Lib.hid (K11.out.alloc (.cells #[.slice A n c, .int .i64 2, .slice none 0 0, .slice none 0 0] 25))
  have K52 := Lib.hid (K12.out.alloc (.cells #[.slice A n c, .int .i64 2, .slice none 0 0, .slice none 0 0] 25))
  have B5 := Lib.hid (B2.out.alloc B2.out.size (.cells #[.slice A n c, .int .i64 2, .slice none 0 0, .slice none 0 0] 25))
  have s5 : (w2.alloc (.cells #[.slice A n c, .int .i64 2, .slice none 0 0, .slice none 0 0] 25)).heap.size = w2.heap.size + 1 := by simp
  have hg5 : w.heap.size + 1 < w2.heap.size := K12.out.lt
  clear K1 K2 B0 K11 K12 p0 p1 p2 p3 p4 u0 u1 u2 u3 u4
  generalize w2.alloc (.cells #[.slice A n c, .int .i64 2, .slice none 0 0, .slice none 0 0] 25) = w3 at K5 K51 K52 B5 s5 ⊢
  generalize w2.heap.size = g5 at K5 s5 hg5 ⊢
  clear B2
  go_loopw [6] (fun kv wr => ∃ (j n1 : Nat) (l1 : List Int) (A1 : Option Addr) (c1 n2 : Nat) (l2 : List Int) (A2 : Option Addr) (c2 : Nat), j ≤ m + 1 ∧ kv = .int .i64 (j : Int) ∧ l1 = nl (exq l m) j ∧ n1 = l1.length ∧ l2 = nl (exq b m) j ∧ n2 = l2.length ∧ n1 ≤ j ∧ n2 ≤ j ∧ Blk wr w.heap.size 25 #[.slice A n c, .int .i64 2, .slice Ab nb cb, .slice As ns cs] ∧ Blk wr (w.heap.size + 1) 25 #[.slice none 0 0, .int .i64 0, .slice none 0 0, .slice none 0 0] ∧ Blk wr g5 25 #[.slice A n c, .int .i64 2, .slice A1 n1 c1, .slice A2 n2 c2] ∧ Two wr (g5 + 1) 3 (.slice A1 n1 c1) n1 (il l1) (.slice A2 n2 c2) n2 (il l2) ∧ Below w.heap.size w wr ∧ g5 + 1 ≤ wr.heap.size) (fun kv _ => m + 1 - (intOf kv).toNat)
  case atStart => exact ⟨0, 0, [], none, 0, 0, [], none, 0, Nat.zero_le _, rfl, rfl, rfl, rfl, rfl, Nat.zero_le _, Nat.zero_le _, K51.out, K52.out, K5.out, ⟨World.ownsRow_nil _ _ _ _, World.ownsRow_nil _ _ _ _, fun k hk => by cases hk⟩, B5.out, by omega⟩
  case round =>
    obtain ⟨j, n1, l1, A1, c1, n2, l2, A2, c2, hj, rfl, hl1, hn1, hl2, hn2, hb1, hb2, hk1, hk2, hk5, htwo, hbel, hs5⟩ := hrel
    have HL1 := Lib.hid hl1
    have HL2 := Lib.hid hl2
    have HN1 := Lib.hid hn1
    have HN2 := Lib.hid hn2
    have HK1 := Lib.hid hk1
    have HK2 := Lib.hid hk2
    have HK5 := Lib.hid hk5
    have HW := Lib.hid htwo
    have HE := Lib.hid hbel
    obtain ⟨x0, x1, x2, x3, x4⟩ := hk1.four
    obtain ⟨y0, y1, y2, y3, y4, y5, y6, y7, y8⟩ := hk5.four8
    clear hl1 hl2 hn1 hn2 hk2 hk5 htwo hbel hk1
    have hne1 : ¬ w.heap.size = g5 := by omega
    have hne2 : ¬ g5 = w.heap.size := by omega
    by_cases hjm : j < m + 1
    · have h1 : (j : Int) ≤ (m : Int) := by omega
      have C1 := HS.out ((m : Int) - (j : Int))
      have C2 := HH.out ((m : Int) - (j : Int))
      have step1 := fun (l' : List Int) (e : l' = if (!decide ((m : Int) - (j : Int) ∈ l)) = true then l1 ++ [(j : Int)] else l1) => (show l' = nl (exq l m) (j + 1) by rw [e, nl_succ, ← HL1.out, exq_at _ _ _ hjm])
      have step2 := fun (l' : List Int) (e : l' = if (!decide ((m : Int) - (j : Int) ∈ b)) = true then l2 ++ [(j : Int)] else l2) => (show l' = nl (exq b m) (j + 1) by rw [e, nl_succ, ← HL2.out, exq_at _ _ _ hjm])
      generalize decide ((m : Int) - (j : Int) ∈ l) = q1 at C1 step1
      generalize decide ((m : Int) - (j : Int) ∈ b) = q2 at C2 step2
      have STEP1 := Lib.hid step1
      have STEP2 := Lib.hid step2
      clear step1 step2
      have zz := Lib.hid C1
      (try clear C1)
      have C1 := zz
      clear zz
      have zz := Lib.hid C2
      (try clear C2)
      have C2 := zz
      clear zz
      rcases q1 with _ | _ <;> rcases q2 with _ | _
      ·
        go_wp2_with (first
          | (at_builtin; refine wpList_append1L rfl _ _ 23 rfl (g5 + 1) 3 i0 (.int .i64 0) 8 Tryd.underlying23 hi hz0 hz1 hz2 rfl A2 n2 c2 _ rfl TA.out.2.1 (.int .i64 (j : Int)) (by show Value.slice (some ⟨wa.heap.size, 0, none⟩) 1 1 = _; simp [World.setCell]) rfl (by unfold maxLen; omega) (by omega) (by first | exact hs5 | (have := XA.out.size; simp [World.setCell]; omega)) ?_; intro gb db wb hownb hbelb hgrb hatb; have TB := Lib.hid (Two.far (TA.out.swap.left hownb hgrb hatb).swap (Nat.lt_succ_self g5) (.slice (some ⟨gb, 0, none⟩) (n2 + 1) db) (i := 3)); have KB := Lib.hid (KA2.out.below hbelb (Nat.lt_succ_self _)); have XB := Lib.hid hbelb; obtain ⟨d0, d1, d2, d3, d4, d5, d6, d7, d8⟩ := KB.out.four8; clear hownb hbelb hgrb hatb)
          | (at_builtin; refine wpList_append1L rfl _ _ 23 rfl (g5 + 1) 3 i0 (.int .i64 0) 8 Tryd.underlying23 hi hz0 hz1 hz2 rfl A1 n1 c1 _ rfl HW.out.1 (.int .i64 (j : Int)) rfl rfl (by unfold maxLen; omega) (by omega) hs5 ?_; intro ga da wa howna hbela hgra hata; have TA := Lib.hid (Two.far (HW.out.left howna hgra hata) (Nat.lt_succ_self g5) (.slice (some ⟨ga, 0, none⟩) (n1 + 1) da) (i := 2)); have KA := Lib.hid (HK5.out.below hbela (Nat.lt_succ_self _)); have KA1 := Lib.hid (HK1.out.below hbela (by omega)); have BA := Lib.hid ((HE.out.trans (hbela.mono (by omega))).setCell (p := ⟨g5, 2, none⟩) (show w.heap.size ≤ g5 by omega) (.slice (some ⟨ga, 0, none⟩) (n1 + 1) da)); obtain ⟨a0, a1, a2, a3, a4, a5, a6, a7, a8⟩ := KA.out.four8; obtain ⟨b0, b1, b2, b3, b4⟩ := KA1.out.four; have XA := Lib.hid hbela; have KA2 := Lib.hid (show Blk (wa.setCell ⟨g5, 2, none⟩ (.slice (some ⟨ga, 0, none⟩) (n1 + 1) da)) g5 25 #[.slice A n c, .int .i64 2, .slice (some ⟨ga, 0, none⟩) (n1 + 1) da, .slice A2 n2 c2] by simpa using KA.out.set_ 2 (.slice (some ⟨ga, 0, none⟩) (n1 + 1) da)); clear howna hbela hgra hata)
          | (go_at_call 18; (with_reducible refine (C1.out _ HE.out).mono ?_); rintro e w8 ⟨rfl, rfl⟩; clear C1)
          | (go_at_call 18; (with_reducible refine (C2.out _ BA.out).mono ?_); rintro e w9 ⟨rfl, rfl⟩; clear C2))
        go_roundw
        case rel => exact ⟨j + 1, (n1 + 1), l1 ++ [(j : Int)], (some ⟨ga, 0, none⟩), da, (n2 + 1), l2 ++ [(j : Int)], (some ⟨gb, 0, none⟩), db, by omega, by go_num, STEP1.out _ rfl, by rw [HN1.out]; simp, STEP2.out _ rfl, by rw [HN2.out]; simp, by omega, by omega, (((HK1.out.below XA.out (by omega)).far (by simp; omega) _).below XB.out (by omega)).far (by simp; omega) _, (((HK2.out.below XA.out (by omega)).far (by simp; omega) _).below XB.out (by omega)).far (by simp; omega) _, by simpa using KB.out.set_ 3 (.slice (some ⟨gb, 0, none⟩) (n2 + 1) db), by (rw [il_add, il_add]; exact TB.out), (BA.out.trans (XB.out.mono (by omega))).setCell (p := ⟨g5, 3, none⟩) (show w.heap.size ≤ g5 by omega) _, by (have h1 := XA.out.size; have h2 := XB.out.size; simp [World.setCell] at h2 ⊢; omega)⟩
        case measure => simp [intOf]; omega
      ·
        go_wp2_with (first
          | (at_builtin; refine wpList_append1L rfl _ _ 23 rfl (g5 + 1) 3 i0 (.int .i64 0) 8 Tryd.underlying23 hi hz0 hz1 hz2 rfl A1 n1 c1 _ rfl HW.out.1 (.int .i64 (j : Int)) rfl rfl (by unfold maxLen; omega) (by omega) hs5 ?_; intro ga da wa howna hbela hgra hata; have TA := Lib.hid (Two.far (HW.out.left howna hgra hata) (Nat.lt_succ_self g5) (.slice (some ⟨ga, 0, none⟩) (n1 + 1) da) (i := 2)); have KA := Lib.hid (HK5.out.below hbela (Nat.lt_succ_self _)); have KA1 := Lib.hid (HK1.out.below hbela (by omega)); have BA := Lib.hid ((HE.out.trans (hbela.mono (by omega))).setCell (p := ⟨g5, 2, none⟩) (show w.heap.size ≤ g5 by omega) (.slice (some ⟨ga, 0, none⟩) (n1 + 1) da)); obtain ⟨a0, a1, a2, a3, a4, a5, a6, a7, a8⟩ := KA.out.four8; obtain ⟨b0, b1, b2, b3, b4⟩ := KA1.out.four; have XA := Lib.hid hbela; have KA2 := Lib.hid (show Blk (wa.setCell ⟨g5, 2, none⟩ (.slice (some ⟨ga, 0, none⟩) (n1 + 1) da)) g5 25 #[.slice A n c, .int .i64 2, .slice (some ⟨ga, 0, none⟩) (n1 + 1) da, .slice A2 n2 c2] by simpa using KA.out.set_ 2 (.slice (some ⟨ga, 0, none⟩) (n1 + 1) da)); clear howna hbela hgra hata)
          | (go_at_call 18; (with_reducible refine (C1.out _ HE.out).mono ?_); rintro e w8 ⟨rfl, rfl⟩; clear C1)
          | (go_at_call 18; (with_reducible refine (C2.out _ BA.out).mono ?_); rintro e w9 ⟨rfl, rfl⟩; clear C2))
        go_roundw
        case rel => exact ⟨j + 1, (n1 + 1), l1 ++ [(j : Int)], (some ⟨ga, 0, none⟩), da, n2, l2, A2, c2, by omega, by go_num, STEP1.out _ rfl, by rw [HN1.out]; simp, STEP2.out _ rfl, HN2.out, by omega, by omega, (HK1.out.below XA.out (by omega)).far (by simp; omega) _, (HK2.out.below XA.out (by omega)).far (by simp; omega) _, by simpa using KA.out.set_ 2 (.slice (some ⟨ga, 0, none⟩) (n1 + 1) da), by (rw [il_add]; exact TA.out), BA.out, by (have := XA.out.size; (try simp [World.setCell]); omega)⟩
        case measure => simp [intOf]; omega
      ·
        go_wp2_with (first
          | (at_builtin; refine wpList_append1L rfl _ _ 23 rfl (g5 + 1) 3 i0 (.int .i64 0) 8 Tryd.underlying23 hi hz0 hz1 hz2 rfl A2 n2 c2 _ rfl HW.out.2.1 (.int .i64 (j : Int)) rfl rfl (by unfold maxLen; omega) (by omega) (by first | exact hs5 | (have := XA.out.size; simp [World.setCell]; omega)) ?_; intro gb db wb hownb hbelb hgrb hatb; have TB := Lib.hid (Two.far (HW.out.swap.left hownb hgrb hatb).swap (Nat.lt_succ_self g5) (.slice (some ⟨gb, 0, none⟩) (n2 + 1) db) (i := 3)); have KB := Lib.hid (HK5.out.below hbelb (Nat.lt_succ_self _)); have XB := Lib.hid hbelb; obtain ⟨d0, d1, d2, d3, d4, d5, d6, d7, d8⟩ := KB.out.four8; clear hownb hbelb hgrb hatb)
          | (go_at_call 18; (with_reducible refine (C1.out _ HE.out).mono ?_); rintro e w8 ⟨rfl, rfl⟩; clear C1)
          | (go_at_call 18; (with_reducible refine (C2.out _ HE.out).mono ?_); rintro e w9 ⟨rfl, rfl⟩; clear C2))
        go_roundw
        case rel => exact ⟨j + 1, n1, l1, A1, c1, (n2 + 1), l2 ++ [(j : Int)], (some ⟨gb, 0, none⟩), db, by omega, by go_num, STEP1.out _ rfl, HN1.out, STEP2.out _ rfl, by rw [HN2.out]; simp, by omega, by omega, ((HK1.out).below XB.out (by omega)).far (by simp; omega) _, ((HK2.out).below XB.out (by omega)).far (by simp; omega) _, by simpa using KB.out.set_ 3 (.slice (some ⟨gb, 0, none⟩) (n2 + 1) db), by (rw [il_add]; exact TB.out), (HE.out.trans (XB.out.mono (by omega))).setCell (p := ⟨g5, 3, none⟩) (show w.heap.size ≤ g5 by omega) _, by (have := XB.out.size; (try simp [World.setCell]); omega)⟩
        case measure => simp [intOf]; omega
      ·
        go_wp2_with (first
          | (go_at_call 18; (with_reducible refine (C1.out _ HE.out).mono ?_); rintro e w8 ⟨rfl, rfl⟩; clear C1)
          | (go_at_call 18; (with_reducible refine (C2.out _ HE.out).mono ?_); rintro e w9 ⟨rfl, rfl⟩; clear C2))
        go_roundw
        case rel => exact ⟨j + 1, n1, l1, A1, c1, n2, l2, A2, c2, by omega, by go_num, STEP1.out _ rfl, HN1.out, STEP2.out _ rfl, HN2.out, by omega, by omega, HK1.out, HK2.out, HK5.out, by (skip; exact HW.out), HE.out, by (have := hs5; (try simp [World.setCell]); omega)⟩
        case measure => simp [intOf]; omega
    · obtain rfl : j = m + 1 := by omega
      have hl1 := HL1.out
      have hl2 := HL2.out
      rw [nl_ex _ _ hm] at hl1 hl2
      have hn1 := HN1.out
      have hn2 := HN2.out
      obtain ⟨z0, z1, z2, z3, z4, z5, z6, z7, z8⟩ := HK2.out.four8
      clear HL1 HL2 HN1 HN2
      subst hl1 hl2 hn1 hn2
      go_wp2
      have o1 := own_far4 HW.out.1 (show w.heap.size + 1 < g5 + 1 by omega) (.slice A n c) (.int .i64 2) (.slice A1 (ex l m).length c1) (.slice A2 (ex b m).length c2)
      have o2 := own_far4 HW.out.2.1 (show w.heap.size + 1 < g5 + 1 by omega) (.slice A n c) (.int .i64 2) (.slice A1 (ex l m).length c1) (.slice A2 (ex b m).length c2)
      have E := Blk.all4 HK2.out (.slice A n c) (.int .i64 2) (.slice A1 (ex l m).length c1) (.slice A2 (ex b m).length c2)
      have E2 := Below.all4 HE.out (Nat.le_succ _) (.slice A n c) (.int .i64 2) (.slice A1 (ex l m).length c1) (.slice A2 (ex b m).length c2)
      generalize (((wr.setCell ⟨w.heap.size + 1, 0, none⟩ (.slice A n c)).setCell ⟨w.heap.size + 1, 1, none⟩ (.int .i64 2)).setCell ⟨w.heap.size + 1, 2, none⟩ (.slice A1 (ex l m).length c1)).setCell ⟨w.heap.size + 1, 3, none⟩ (.slice A2 (ex b m).length c2) = wz at o1 o2 E E2 ⊢
      obtain ⟨j0, j1, j2, j3, j4⟩ := E.four
      exact bodyPost_ret (v := .tuple #[.agg #[.slice A n c, .int .i64 2, .slice A1 (ex l m).length c1, .slice A2 (ex b m).length c2], .int .i64 0]) (by simp [results, Tryd.results7, go_sem, j0, j1, j2, j3]) rfl ⟨A1, c1, A2, c2, rfl, ⟨(HR.out.later E2).1, Reads.of_own o1, Reads.of_own o2⟩, E2⟩
end
end Go.Proofs.YtajepngppnennaaDoor
