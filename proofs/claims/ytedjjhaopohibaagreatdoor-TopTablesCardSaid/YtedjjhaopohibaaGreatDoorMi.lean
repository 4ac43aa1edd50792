/- The walks of slices.Clone and slices.Delete at lists of numbers, and of arranged. -/
/- The walk of arranged: the states of an input in another order, that of the centre in its place. -/
import Derived.Test.YtedjjhaopohibaaGreatDoorMh
import Derived.Test.YtedjjhaopohibaaGreatDoorMc
namespace Go.Proofs.YtedjjhaopohibaaGreatDoor
open Go.RowKit Go.Shelf Go.Lib Go.Sort

theorem spot_of_cell' {w : World} {a : Addr} {u : Value} (h : w.cell? a = some u) : a = ⟨a.block, a.off, none⟩ := by
  obtain ⟨b, o, s⟩ := a
  cases s with
  | none => rfl
  | some s => unfold World.cell? at h; split at h <;> simp_all
theorem iclone_any (A : Option Addr) (c n : Nat) (l : List Int) (w : World) (h : Reads w w.heap.size A n (il l)) (hn : n ≤ 1000000) (h0 : 0 < n) :
    Calls Tryz.prog 44 #[.slice A n c] w fun e w' => ∃ g cap, e = .returned (.slice (some ⟨g, 0, none⟩) n cap) ∧ RowB w' w.heap.size g n cap l ∧ Below w.heap.size w w' := by
  have hl := reads_len h
  obtain ⟨ad, rfl, hb, hc⟩ := h.2 h0
  obtain ⟨b, o, s⟩ := ad
  have hc0 := hc 0 (.int .i64 (ig l 0)) (by simp [il, ig, show 0 < l.length by omega])
  have hs : s = none := by
    have := spot_of_cell' hc0
    simp [Addr.add] at this
    exact this
  subst hs
  have hcs : ∀ j, j < l.length → w.cell? ⟨b, o + j, none⟩ = some (.int .i64 (l.getD j 0)) := fun j hj => by
    have := hc j (.int .i64 (l.getD j 0)) (by simp [il, hj])
    rw [Addr.add_lit] at this
    exact this
  refine (Any.slices_Clone_int layCloneI b o n c l w (by omega) (by omega) hcs).mono ?_
  rintro e w' ⟨v', rfl, hr, hne, hbel⟩
  rw [List.take_of_length_le (by omega)] at hr
  rcases hr.2 with ⟨_, h1⟩ | ⟨g, cap, cur, rfl, _⟩
  · omega
  · exact ⟨g, cap, rfl, RowB.of hr, hbel⟩
theorem idelete (g cap base n i : Nat) (l : List Int) (w : World) (h : RowB w base g n cap l) (hi : i < n) :
    Calls Tryz.prog 71 #[.slice (some ⟨g, 0, none⟩) n cap, .int .i64 (i : Int), .int .i64 ((i + 1 : Nat) : Int)] w fun e w' => e = .returned (.slice (some ⟨g, 0, none⟩) (n - 1) cap) ∧ RowB w' base g (n - 1) cap (l.take i ++ l.drop (i + 1)) ∧ (base ≤ w.heap.size → Below base w w') := by
  obtain ⟨cur, hb, h1, h2, h3, h4, h5, h6⟩ := h
  subst h3
  have hmx : cap ≤ 9223372036854775807 := h5
  refine (Any.slices_Delete_int layDelete g 0 cap i (i + 1) l w (holds_of_blockI (e := 3) (cur := cur) hb h2) h4 hmx (by omega) (by omega)).mono ?_
  rintro e w' ⟨rfl, k, rfl⟩
  rw [show i + 1 - i = 1 by omega]
  have hlen : (l.take i ++ l.drop (i + 1) ++ List.replicate 1 (0 : Int)).length = l.length := by simp; omega
  have hh := heap_sortedI (w := w) (g := g) (n := k) (os := #[]) (cur := cur) (l.take i ++ l.drop (i + 1) ++ List.replicate 1 0).toArray hb
  have hg := grownBy_sortedI (w := w) (g := g) (n := k) (os := #[]) (l.take i ++ l.drop (i + 1) ++ List.replicate 1 0).toArray
  have ht := take_putCellsI cur (l.take i ++ l.drop (i + 1) ++ List.replicate 1 (0 : Int)) (by omega)
  have e0 : ∀ x : World, grow x #[] = x := fun x => by simp [grow]
  rw [e0] at hh hg
  refine ⟨rfl, ⟨_, hh, by simp [putCells, h1], ?_, by simp; omega, by omega, h5, h6⟩, fun hB => (Below.refl base w).grown hg hB (fun j e => by cases e; exact h6)⟩
  rw [hlen] at ht
  have := congrArg (List.take (l.length - 1)) ht
  rw [List.take_take, Nat.min_eq_left (by omega)] at this
  rw [this, ← List.map_take, List.take_append_of_le_length (by simp; omega), List.take_of_length_le (by simp; omega)]
  rfl
end Go.Proofs.YtedjjhaopohibaaGreatDoor
namespace Go.Proofs.YtedjjhaopohibaaGreatDoor
open Go.RowKit Go.Shelf Go.Lib

theorem perm_at {l s : List Int} {k : Nat} (hk : k < l.length) (hs : s.Perm (l.take k ++ l.drop (k + 1))) : (s.take k ++ ig l k :: s.drop k).Perm l := by
  have e : ig l k = l[k] := by simp [ig, hk]
  have h1 : (s.take k ++ ig l k :: s.drop k).Perm (ig l k :: s) := by
    have := @List.perm_middle Int (ig l k) (s.take k) (s.drop k)
    rwa [List.take_append_drop] at this
  have h2 : (ig l k :: (l.take k ++ l.drop (k + 1))).Perm (l.take k ++ ig l k :: l.drop (k + 1)) := (List.perm_middle).symm
  have h3 : l.take k ++ ig l k :: l.drop (k + 1) = l := by
    rw [e, List.getElem_cons_drop, List.take_append_drop]
  rw [h3] at h2
  exact h1.trans ((List.Perm.cons _ hs).trans h2)
theorem ig_mid {s : List Int} {k : Nat} {x : Int} (hk : k ≤ s.length) : ig (s.take k ++ x :: s.drop k) k = x := by
  have hl : (s.take k).length = k := by simp; omega
  unfold ig
  rw [List.getD_eq_getElem?_getD, List.getElem?_append_right (by omega), hl, Nat.sub_self]
  rfl
/-- what arranged promises -/
def ArrOut (w : World) (n : Nat) (l : List Int) (ok : List Int → Prop) (e : Ending) (w' : World) : Prop := ∃ g c m, e = .returned (.slice (some ⟨g, 0, none⟩) n c) ∧ Reads w' w'.heap.size (some ⟨g, 0, none⟩) n (il m) ∧ m.Perm l ∧ ok m ∧ Below w.heap.size w w'
set_option maxRecDepth 100000 in
theorem arranged_neg (A : Option Addr) (c n : Nat) (l : List Int) (ce : Int) (w : World) (h : Reads w w.heap.size A n (il l)) (hn : n ≤ 1000000) (h0 : 0 < n) (hce : ce < 0) :
    Calls Tryz.prog 52 #[.slice A n c, .int .i64 ce] w (ArrOut w n l fun _ => True) := by
  have hl := reads_len h
  subst hl
  have V := Lib.hid (values_any A l.length c w)
  have B0 := (Below.refl w.heap.size w).alloc (Nat.le_refl _) (.cells #[.slice A l.length c] 27)
  have S := Lib.hid (sorted_vals l A c w.heap.size (w.alloc (.cells #[.slice A l.length c] 27)) h0 hn ((h.below B0).more B0.size) (by simp) (by rw [(Blk.new w 27 #[.slice A l.length c]).cell]; rfl))
  have HB0 := Lib.hid B0
  have e1 : decide (ce < 0) = true := by rw [decide_eq_true_iff]; exact hce
  clear h B0
  go_enter Tryz.func52, Tryz.ntmps52
  go_wp2_with (first
    | (go_at_call 70; (with_reducible refine V.out.mono ?_); rintro e w1 ⟨rfl, rfl⟩)
    | (go_at_call 69; (with_reducible refine S.out.mono ?_); rintro e w2 ⟨g, c', rfl, hr, hb⟩; have HR := Lib.hid hr; have HB := Lib.hid hb; clear hr hb))
  go_ret
  exact ⟨g, c', _, rfl, (RowB.of HR.out).reads, List.mergeSort_perm _ _, trivial, HB0.out.trans (HB.out.mono HB0.out.size)⟩
set_option maxRecDepth 100000 in
set_option maxHeartbeats 1000000 in
theorem arranged_at (A : Option Addr) (c n k : Nat) (l : List Int) (w : World) (h : Reads w w.heap.size A n (il l)) (hn : n ≤ 1000000) (hk : k < n) :
    Calls Tryz.prog 52 #[.slice A n c, .int .i64 (k : Int)] w (ArrOut w n l fun m => ig m k = ig l k) := by
  have hl := reads_len h
  subst hl
  have C := Lib.hid (iclone_any A c l.length l w h hn (by omega))
  have D := Lib.hid (fun g cap w' (h : RowB w' w.heap.size g l.length cap l) => by
    have := idelete g cap w.heap.size l.length k l w' h hk
    rwa [show ((k + 1 : Nat) : Int) = (k : Int) + 1 by omega] at this)
  have S := Lib.hid (fun g cap w' (h : w'.ownsRow w.heap.size 3 1 (.slice (some ⟨g, 0, none⟩) (l.length - 1) cap) (l.length - 1) (il (l.take k ++ l.drop (k + 1)))) hb => isort_own g cap (l.length - 1) w.heap.size (l.take k ++ l.drop (k + 1)) w' h (by omega) hb)
  have I := Lib.hid (fun g cap vb (s : List Int) w' (h : RowB w' w.heap.size g (l.length - 1) cap s) hroom hv hne => by
    have := iinsert g cap w.heap.size (l.length - 1) k vb 1 s (ig l k) w' h (by omega) hroom hv hne
    rwa [show l.length - 1 + 1 = l.length by omega] at this)
  have HP := Lib.hid (fun (s : List Int) (h : s.Perm (l.take k ++ l.drop (k + 1))) => perm_at hk h)
  have HLS : ((l.take k ++ l.drop (k + 1)).mergeSort fun x y => decide (x ≤ y)).length = l.length - 1 := by simp [List.length_mergeSort]; omega
  obtain ⟨srt, hsrt⟩ : ∃ s, s = (l.take k ++ l.drop (k + 1)).mergeSort fun x y => decide (x ≤ y) := ⟨_, rfl⟩
  have HSP := Lib.hid (show srt.Perm (l.take k ++ l.drop (k + 1)) from hsrt ▸ List.mergeSort_perm _ _)
  rw [← hsrt] at S HLS
  have HLSH := Lib.hid HLS
  have HH := Lib.hid h
  obtain ⟨N, hN⟩ : ∃ N, l.length = N := ⟨_, rfl⟩
  rw [hN] at hn hk C D S I HH
  have HNN := Lib.hid hN
  have d1 : decide ((k : Int) < 0) = false := by rw [decide_eq_false_iff_not]; omega
  have w1e : IntKind.i64.wrap ((k : Int) + 1) = (k : Int) + 1 := IntWalk.i64_in _ ⟨by omega, by omega⟩
  rw [hN]
  clear h hN hsrt HLS
  go_enter Tryz.func52, Tryz.ntmps52
  go_wp2_with (first
    | (go_at_call 44; (with_reducible refine C.out.mono ?_); rintro e w1 ⟨g, cap, rfl, hr, hb⟩; have HR1 := Lib.hid hr; have HB1 := Lib.hid hb; have HS1 := hb.size; clear hr hb)
    | (go_at_call 71; (with_reducible refine (D.out _ _ _ HR1.out).mono ?_); rintro e w2 ⟨rfl, hr, hb⟩; have HR2 := Lib.hid hr; have HB2 := Lib.hid (HB1.out.trans (hb HS1)); have HS2 := HB2.out.size; clear hr hb)
    | (go_at_call 72; (with_reducible refine (S.out _ _ _ HR2.out.own HS2).mono ?_); rintro e w3 ⟨rfl, hr, hb⟩; have HR3 := Lib.hid (RowB.of hr); have HB3 := Lib.hid (HB2.out.trans hb); have HS3 := HB3.out.size; obtain ⟨ad, rfl, hbb, hc⟩ := il_at (HH.out.below HB3.out) hk; have HV := Lib.hid (Blk.new w3 3 #[.int .i64 (ig l k)]); have HR4 := Lib.hid (show RowB (w3.alloc (.cells #[.int .i64 (ig l k)] 3)) w.heap.size g (N - 1) cap srt from HR3.out.below ((Below.refl w3.heap.size w3).alloc (Nat.le_refl _) _) (by obtain ⟨cur, hbl, _⟩ := HR3.out; exact hbl.lt)); have HNE := Lib.hid (show w3.heap.size ≠ g from fun e => by obtain ⟨cur, hbl, _⟩ := HR3.out; have := hbl.lt; omega); have HCAP := Lib.hid (show N - 1 + 1 ≤ cap from by obtain ⟨cur, _, _, _, _, hh, _⟩ := HR1.out; omega); clear hr hb)
    | (go_at_call 73; (with_reducible refine (I.out _ _ _ _ _ HR4.out HCAP.out HV.out HNE.out).mono ?_); rintro e w4 ⟨rfl, hr, hb⟩; have HR5 := Lib.hid hr; have HB5 := Lib.hid ((HB3.out.alloc HS3 _).trans (hb (by simp; omega))); clear hr hb))
  go_ret
  exact ⟨g, cap, _, rfl, HR5.out.reads, HP.out srt HSP.out, ig_mid (by have := HLSH.out; have := HNN.out; omega), HB5.out⟩
end Go.Proofs.YtedjjhaopohibaaGreatDoor
