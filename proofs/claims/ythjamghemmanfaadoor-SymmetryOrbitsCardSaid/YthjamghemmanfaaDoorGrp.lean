/- The walk of Group. -/
import Derived.Test.YthjamghemmanfaaDoorSort
namespace Go.Proofs.YthjamghemmanfaaDoor
open Go.RowKit

theorem Tryd.info_int : (Tryd.prog.info? 3).map (fun i => (i.zero, i.size, i.bytes)) = some (some (.int .i64 0), 1, 8) := by kernel_rfl

/-- what came in: a list of any numbers -/
def Ins (w : World) (B : Nat) (A : Option Addr) (n : Nat) (l : List Int) : Prop := Reads w B A n (l.map fun z => .int .i64 z) ∧ ∀ z ∈ l, -9223372036854775808 ≤ z ∧ z ≤ 9223372036854775807
theorem Ins.len {w : World} {B n : Nat} {A : Option Addr} {l : List Int} (h : Ins w B A n l) : l.length = n := by simpa using h.1.1
theorem Ins.at_ {w : World} {B n : Nat} {A : Option Addr} {l : List Int} (h : Ins w B A n l) {k : Nat} (hk : k < n) : ∃ ad z, A = some ad ∧ ad.block < B ∧ w.cell? (ad.add k) = some (.int .i64 z) ∧ z ∈ l ∧ l[k]? = some z ∧ -9223372036854775808 ≤ z ∧ z ≤ 9223372036854775807 := by
  obtain ⟨ad, u, e, hb, hx, hc⟩ := h.1.at_ hk
  rw [List.getElem?_map] at hx
  cases h' : l[k]? with
  | none => rw [h'] at hx; cases hx
  | some z =>
    rw [h'] at hx
    simp at hx
    subst hx
    have hm := List.mem_of_getElem? h'
    exact ⟨ad, z, e, hb, hc, hm, rfl, h.2 z hm⟩
theorem Ins.keep {w w' : World} {B n : Nat} {A : Option Addr} {l : List Int} (h : Ins w B A n l) (hb : Below B w w') : Ins w' B A n l := ⟨h.1.below hb, h.2⟩
/-- the numbers of the symmetries of a list -/
def mds (l : List Int) : List Nat := l.map md
theorem mds_lt (l : List Int) : ∀ s ∈ mds l, s < 8 := fun s hs => by
  unfold mds at hs
  rw [List.mem_map] at hs
  obtain ⟨z, _, rfl⟩ := hs
  exact md_lt z
theorem mds_mem {l : List Int} {z : Int} (h : z ∈ l) : md z ∈ mds l := List.mem_map_of_mem h

theorem info_parts {P : Program} {t : TypeId} {z : Value} {s b : Nat} (h : (P.info? t).map (fun i => (i.zero, i.size, i.bytes)) = some (some z, s, b)) : ∃ i, P.info? t = some i ∧ i.zero = some z ∧ i.size = s ∧ i.bytes = b := by
  cases h' : P.info? t with
  | none => rw [h'] at h; cases h
  | some i => rw [h'] at h; simp at h; exact ⟨i, rfl, h.1, h.2.1, h.2.2⟩

/-- what the first i members and the list's first k numbers lead to lies in g -/
def Done (l : List Int) (g : List Nat) (i : Nat) : Prop := ∀ p, p < i → ∀ z ∈ l, comp (g.getD p 0) (md z) ∈ g
def Part (l : List Int) (g : List Nat) (x k : Nat) : Prop := ∀ q, q < k → ∀ z, l[q]? = some z → comp x (md z) ∈ g
/-- 0 first, each once, all generated -/
def Good (l : List Int) (g : List Nat) : Prop := g.getD 0 8 = 0 ∧ g.Nodup ∧ ∀ k ∈ g, Gen (mds l) k
theorem Good.lt {l : List Int} {g : List Nat} (h : Good l g) : ∀ k ∈ g, k < 8 := fun k hk => (h.2.2 k hk).lt (mds_lt l)
theorem Good.len {l : List Int} {g : List Nat} (h : Good l g) : g.length ≤ 8 := nodup_le 8 g h.2.1 h.lt
theorem Good.add {l : List Int} {g : List Nat} {z : Int} {p : Nat} (h : Good l g) (hp : p < g.length) (hz : z ∈ l) (hn : comp (g.getD p 0) (md z) ∉ g) : Good l (g ++ [comp (g.getD p 0) (md z)]) := by
  refine ⟨?_, ?_, ?_⟩
  · have h1 := h.1
    cases g with
    | nil => simp at hp
    | cons a g => simpa using h1
  · rw [List.nodup_append]
    refine ⟨h.2.1, by simp, ?_⟩
    intro a ha b hb e
    simp at hb
    subst hb
    subst e
    exact hn ha
  · intro k hk
    rw [List.mem_append] at hk
    rcases hk with hk | hk
    · exact h.2.2 k hk
    · simp at hk
      subst hk
      exact (h.2.2 _ (getD_mem hp)).step (mds_mem hz)
theorem getD_snoc {g : List Nat} {x p : Nat} (hp : p < g.length) : (g ++ [x]).getD p 0 = g.getD p 0 := by
  rw [List.getD_eq_getElem?_getD, List.getD_eq_getElem?_getD, List.getElem?_append_left hp]
theorem Good.first {l : List Int} {g : List Nat} (h : Good l g) : 0 ∈ g := by
  have h1 := h.1
  cases g with
  | nil => simp at h1
  | cons a g => simp at h1; subst h1; simp
/-- closed: the group's members -/
theorem Good.all {l : List Int} {g : List Nat} (h : Good l g) (hd : Done l g g.length) (k : Nat) : k ∈ g ↔ Gen (mds l) k := by
  refine ⟨h.2.2 k, fun hk => gen_of_closed h.first (fun x hx s hs => ?_) hk⟩
  obtain ⟨p, hp, rfl⟩ := mem_getD hx
  unfold mds at hs
  rw [List.mem_map] at hs
  obtain ⟨z, hz, rfl⟩ := hs
  exact hd p hp z hz
theorem asc_map : ∀ (n : Nat) (f : Nat → Nat), Asc n f → ((List.range n).map f).Pairwise (· < ·)
  | 0, _, _ => by simp
  | n + 1, f, h => by
    rw [List.range_succ, List.map_append, List.pairwise_append]
    refine ⟨asc_map n f (fun p q h1 h2 => h p q h1 (by omega)), by simp, fun a ha b hb => ?_⟩
    obtain ⟨p, hp, rfl⟩ := List.mem_map.1 ha
    simp at hb
    subst hb
    exact h p n (List.mem_range.1 hp) (by omega)
/-- in ascending order, the group -/
theorem row_grp {w : World} {l : List Int} {g : List Nat} {b n : Nat} {f : Nat → Nat} (h : Good l g) (hd : Done l g g.length) (hn : g.length = n) (hr : Row w b n f) (hm : Mix n (fun j => g.getD j 0) f) (ha : Asc n f) :
    (grp (mds l)).length = n ∧ Reads w w.heap.size (some ⟨b, 0, none⟩) n (ints (grp (mds l))) := by
  have e : (List.range n).map f = grp (mds l) := by
    refine sorted_eq _ _ ?_ (grp_sorted _) fun k => ?_
    · exact asc_map n f ha
    · rw [mem_grp (mds_lt l), ← h.all hd k, List.mem_map]
      constructor
      · rintro ⟨p, hp, hk⟩
        obtain ⟨q, hq, hk2⟩ := (hm.1 k).1 ⟨p, List.mem_range.1 hp, hk⟩
        rw [← hk2]; exact getD_mem (by omega)
      · intro hk
        obtain ⟨q, hq, hk2⟩ := mem_getD hk
        obtain ⟨p, hp, hk3⟩ := (hm.1 k).2 ⟨q, by omega, hk2⟩
        exact ⟨p, List.mem_range.2 hp, hk3⟩
  rw [← e]
  refine ⟨by simp, by simp [ints], fun _ => ⟨_, rfl, hr.1, fun j u hj => ?_⟩⟩
  have hjn : j < n := by
    have := (List.getElem?_eq_some_iff.1 hj).1
    simpa [ints] using this
  unfold ints at hj
  rw [List.map_map, List.getElem?_map, List.getElem?_range hjn] at hj
  simp at hj
  subst hj
  have := (hr.2 j hjn).1
  by_cases h0 : j = 0
  · subst h0; simpa [Addr.add] using this
  · simpa [Addr.add, h0] using this

theorem Row.of_own {w : World} {base b n c : Nat} {e : TypeId} {g : List Nat} (h : w.ownsRow base e 1 (.slice (some ⟨b, 0, none⟩) n c) n (ints g)) (hn : 0 < n) : Row w b n (fun j => g.getD j 0) := by
  obtain ⟨g', cap, hv, _, hlt⟩ := h.form hn
  obtain ⟨rfl, -⟩ : b = g' ∧ True := by injection hv with h1; injection h1 with h1; injection h1 with h1; exact ⟨h1, trivial⟩
  refine ⟨hlt, fun j hj => ⟨?_, h.frozenAt j⟩⟩
  obtain ⟨ad, e1, _, hc⟩ := ints_at (Reads.of_own h) hj
  injection e1 with e1
  subst e1
  by_cases h0 : j = 0
  · subst h0; simpa [Addr.add] using hc
  · simpa [Addr.add, h0] using hc
theorem ints_snoc (g : List Nat) (k : Nat) : ints (g ++ [k]) = ints g ++ [.int .i64 (k : Nat)] := by simp [ints]
def GroupSays (l : List Int) (w : World) (e : Ending) (w' : World) : Prop :=
  ∃ b c', e = .returned (.slice (some ⟨b, 0, none⟩) (grp (mds l)).length c') ∧ Reads w' w'.heap.size (some ⟨b, 0, none⟩) (grp (mds l)).length (ints (grp (mds l))) ∧ Below w.heap.size w w'

set_option maxRecDepth 100000 in
set_option maxHeartbeats 2000000 in
theorem group_any (A : Option Addr) (n c B : Nat) (l : List Int) (w : World) (h : Ins w B A n l) (hB : B ≤ w.heap.size) (hn : n ≤ 100) :
    Calls Tryd.prog 12 #[.slice A n c] w (GroupSays l w) := by
  obtain ⟨i0, hi, hz0, hz1, hz2⟩ := info_parts Tryd.info_int
  have HI := Lib.hid h
  have HLN := Lib.hid h.len
  have own0 := Lib.hid (World.ownsRow_lit (e := 3) (size := 1) (base := w.heap.size) w #[.int .i64 0] 1 (Nat.le_refl _) (by decide) rfl)
  have B0 := Lib.hid ((Below.refl w.heap.size w).alloc (Nat.le_refl _) (.cells #[.int .i64 0] 3))
  clear h
  go_enter Tryd.func12, Tryd.ntmps12
  go_wp2
  go_loopw [3, 4] (fun sv iv wr => ∃ (g : List Nat) (i b m c' : Nat), g.length = m ∧ i ≤ m ∧ 1 ≤ m ∧ m ≤ 8 ∧ sv = .slice (some ⟨b, 0, none⟩) m c' ∧ iv = .int .i64 (i : Int) ∧ wr.ownsRow w.heap.size 3 1 (.slice (some ⟨b, 0, none⟩) m c') m (ints g) ∧ Good l g ∧ Done l g i ∧ Below w.heap.size w wr) (fun _ iv _ => 8 - (intOf iv).toNat)
  case atStart => exact ⟨[0], 0, _, 1, 1, rfl, by omega, by omega, by omega, rfl, rfl, own0.out, ⟨rfl, by simp, fun k hk => by simp at hk; subst hk; exact Gen.zero⟩, fun p hp => by omega, B0.out⟩
  case round =>
    obtain ⟨g, i, b, m, c', hgm, him, hm1, hm8, rfl, rfl, hown, hgood, hdone, hbel⟩ := hrel
    have HG := Lib.hid hgm
    have HO := Lib.hid hown
    have HGD := Lib.hid hgood
    have HD := Lib.hid hdone
    have HB := Lib.hid hbel
    clear hgm hown hgood hdone hbel own0 B0
    by_cases hlt : i < m
    · obtain ⟨wo, hwo⟩ : ∃ wo, wo = wr := ⟨_, rfl⟩
      subst hwo
      go_wp2
      go_loopw [3, 17] (fun sv kv wr => ∃ (g : List Nat) (k b m c' : Nat), g.length = m ∧ i < m ∧ m ≤ 8 ∧ k ≤ n ∧ sv = .slice (some ⟨b, 0, none⟩) m c' ∧ kv = .int .i64 (k : Int) ∧ wr.ownsRow w.heap.size 3 1 (.slice (some ⟨b, 0, none⟩) m c') m (ints g) ∧ Good l g ∧ Done l g i ∧ Part l g (g.getD i 0) k ∧ Below w.heap.size w wr) (fun _ kv _ => n - (intOf kv).toNat)
      case atStart => exact ⟨g, 0, b, m, c', HG.out, hlt, hm8, Nat.zero_le _, rfl, rfl, HO.out, HGD.out, HD.out, fun q hq => by omega, HB.out⟩
      case round =>
        obtain ⟨g2, k, b2, m2, c2, hgm, him2, hm82, hkn, rfl, rfl, hown, hgood, hdone, hpart, hbel⟩ := hrel
        have HG2 := Lib.hid hgm
        have HO2 := Lib.hid hown
        have HGD2 := Lib.hid hgood
        have HD2 := Lib.hid hdone
        have HP2 := Lib.hid hpart
        have HB2 := Lib.hid hbel
        by_cases hk : k < n
        · obtain ⟨ad, z, rfl, hadb, hcz, hzl, hzk, hz1', hz2'⟩ := (HI.out.keep (hbel.mono hB)).at_ hk
          have hc2 := ((Row.of_own hown (by omega)).2 i him2).1
          simp only at hc2
          have hRd := Reads.of_own hown
          have hx8 : g2.getD i 0 < 8 := HGD2.out.lt _ (getD_mem (by rw [hgm]; exact him2))
          obtain ⟨x, hx⟩ : ∃ x, x = g2.getD i 0 := ⟨_, rfl⟩
          rw [← hx] at hc2 hx8
          have hs2 : w.heap.size ≤ wr.heap.size := hbel.size
          have CC := Lib.hid (fun w => by have := compose_any (x : Int) z w; rwa [md_nat x hx8] at this)
          have HX := Lib.hid hx
          have HZ := Lib.hid hzl
          have HZK := Lib.hid hzk
          have hm1' : 1 ≤ m2 := by omega
          obtain ⟨y, hy⟩ : ∃ y, y = comp x (md z) := ⟨_, rfl⟩
          rw [← hy] at CC
          have HY := Lib.hid hy
          have CT := Lib.hid (contains_any (some ⟨b2, 0, none⟩) m2 c2 wr.heap.size g2 y wr hRd (by omega))
          clear hgm hown hgood hdone hpart hbel hx hzl hzk hy hRd
          by_cases hin : y ∈ g2
          · rw [show decide (y ∈ g2) = true by simpa using hin] at CT
            have HIN := Lib.hid hin
            clear hin
            go_wp2_with (first | (go_at_call 9; (with_reducible refine (CC.out _).mono ?_); rintro e w' ⟨rfl, rfl⟩) | (go_at_call 23; (with_reducible refine CT.out.mono ?_); rintro e w' ⟨rfl, rfl⟩))
            go_roundw
            case rel =>
              refine ⟨g2, k + 1, b2, m2, c2, HG2.out, him2, hm82, by omega, rfl, by go_num, HO2.out, HGD2.out, HD2.out, fun q hq z' hz' => ?_, HB2.out⟩
              by_cases e : q = k
              · subst e
                rw [HZK.out] at hz'
                obtain rfl := Option.some.inj hz'
                rw [← HX.out, ← HY.out]; exact HIN.out
              · exact HP2.out q (by omega) z' hz'
            case measure => simp [intOf]; omega
          · rw [show decide (y ∈ g2) = false by simpa using hin] at CT
            have HIN := Lib.hid hin
            have hG' : Good l (g2 ++ [y]) := by
              rw [HY.out, HX.out]
              exact HGD2.out.add (by rw [HG2.out]; exact him2) HZ.out (by rw [← HX.out, ← HY.out]; exact hin)
            have hl9 := hG'.len
            have HG' := Lib.hid hG'
            have hm82' : m2 + 1 ≤ 8 := by have := HG2.out; simp at hl9; omega
            have hown := HO2.out
            clear hin hG' hl9
            go_wp2_with (first | (go_at_call 9; (with_reducible refine (CC.out _).mono ?_); rintro e w' ⟨rfl, rfl⟩) | (go_at_call 23; (with_reducible refine CT.out.mono ?_); rintro e w' ⟨rfl, rfl⟩) | (at_builtin; refine wpList_append1 rfl _ _ 22 rfl w.heap.size 3 i0 (.int .i64 0) 8 Tryd.underlying22 hi hz0 hz1 hz2 rfl _ _ _ _ rfl hown (.int .i64 (y : Int)) rfl rfl (by unfold maxLen; omega) (by omega) hs2 ?_; intro g' c4 w2 hown' hbel'))
            go_roundw
            case rel =>
              have hlen := HG2.out
              have e1 : (g2 ++ [y]).getD i 0 = g2.getD i 0 := getD_snoc (by omega)
              refine ⟨g2 ++ [y], k + 1, g', m2 + 1, c4, by simp [hlen], by omega, by omega, by omega, rfl, by go_num, by rw [ints_snoc]; exact hown', HG'.out, fun p hp z' hz' => ?_, fun q hq z' hz' => ?_, HB2.out.trans (hbel'.mono (Nat.le_refl _))⟩
              · rw [getD_snoc (by omega)]
                exact List.mem_append_left _ (HD2.out p hp z' hz')
              · rw [e1]
                by_cases e : q = k
                · subst e
                  rw [HZK.out] at hz'
                  obtain rfl := Option.some.inj hz'
                  rw [← HX.out, ← HY.out]; simp
                · exact List.mem_append_left _ (HP2.out q (by omega) z' hz')
            case measure => simp [intOf]; omega
        · obtain rfl : k = n := by omega
          clear hgm hown hgood hdone hpart hbel
          go_wp2
          go_roundw
          case rel =>
            refine ⟨g2, i + 1, b2, m2, c2, HG2.out, by omega, by omega, by omega, rfl, by go_num, HO2.out, HGD2.out, fun p hp z hz => ?_, HB2.out⟩
            by_cases e : p = i
            · subst e
              obtain ⟨q, hq, rfl⟩ := List.getElem_of_mem hz
              exact HP2.out q (by have := HLN.out; omega) _ (List.getElem?_eq_getElem hq)
            · exact HD2.out p (by omega) z hz
          case measure => simp [intOf]; omega
    · obtain rfl : i = m := by omega
      have hR := Row.of_own HO.out (by omega)
      have SS := Lib.hid (sort_any b c' i _ wr hR hm8 (fun p q hp hq hpq => by
        have hlen := HG.out
        have hnd := HGD.out.2.1
        simp only [List.getD_eq_getElem?_getD, List.getElem?_eq_getElem (show p < g.length by omega), List.getElem?_eq_getElem (show q < g.length by omega), Option.getD_some] at hpq
        exact (List.getElem?_inj (i := p) (show p < g.length by omega) hnd).1 (by rw [List.getElem?_eq_getElem (show p < g.length by omega), List.getElem?_eq_getElem (show q < g.length by omega), hpq])))
      have hbb := (HO.out.lt b rfl)
      have hbb1 := hbb.1
      clear hR
      go_wp2_with (go_at_call 24; (with_reducible refine SS.out.mono ?_); rintro e w2 ⟨rfl, ⟨f, h1, h2, h3⟩, h4⟩; have HH := Lib.hid (row_grp HGD.out (by rw [HG.out]; exact HD.out) HG.out h1 h2 h3); have HB2 := Lib.hid (HB.out.trans (h4.mono hbb1)); clear h1 h2 h3 h4)
      go_ret
      obtain ⟨h5, h6⟩ := HH.out
      unfold GroupSays
      rw [h5]
      exact ⟨b, c', rfl, h6, HB2.out⟩
end Go.Proofs.YthjamghemmanfaaDoor
