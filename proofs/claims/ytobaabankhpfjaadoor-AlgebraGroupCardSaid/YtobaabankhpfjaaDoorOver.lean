/- The walks of Over, Xor, And and Disjoint on valid patterns. -/
import Derived.Test.YtobaabankhpfjaaDoorMerge
namespace Go.Proofs.YtobaabankhpfjaaDoor
open Go.RowKit

theorem own_le3 {w : World} {base : Nat} {e : TypeId} {A : Option Addr} {n c : Nat} {xs : List Value} (h : w.ownsRow base e 3 (.slice A n c) n xs) : n ≤ c := by
  rcases h.2 with ⟨h1, h2⟩ | ⟨g, cap, cur, h1, _, _, h2, _⟩
  · omega
  · injection h1 with _ _ h3; omega
/-- a list of cells as a function of the place -/
def lf (l : List C3) : Nat → C3 := fun k => l.getD k (0, 0, 0)
theorem lf_lst (l : List C3) : lst (lf l) l.length = l := by
  apply List.ext_getElem
  · rw [lst_len]
  · intro i h1 h2
    rw [lst_get]
    simp [lf, h2]
theorem cells3_lst (f : Nat → C3) (n : Nat) : cells3 f n = (lst f n).flatMap fun x => [.int .i64 x.1, .int .i64 x.2.1, .int .i64 x.2.2] := by
  induction n with
  | zero => rfl
  | succ n ih => rw [cells3, lst_succ, List.flatMap_append, ih]; simp
theorem CReads.of_list {w : World} {base c : Nat} {e : TypeId} {A : Option Addr} {l : List C3} (h : w.ownsRow base e 3 (.slice A l.length c) l.length (l.flatMap fun x => [.int .i64 x.1, .int .i64 x.2.1, .int .i64 x.2.2])) : CReads w w.heap.size A l.length (lf l) := by
  intro hn
  obtain ⟨g, cc, hv, hg, hs⟩ := h.form hn
  injection hv with hv1 hv2 hv3
  subst hv1 hv3
  rw [show l.flatMap (fun x => [.int .i64 x.1, .int .i64 x.2.1, .int .i64 x.2.2]) = cells3 (lf l) l.length by rw [cells3_lst, lf_lst]] at h
  exact CReads.of_own h hn

/-- what Xor chooses, and And -/
def chX (s t : Int) : Int := if s ≠ 0 ∧ t ≠ 0 then 0 else or2 s t
def chA (s t : Int) : Int := if t = 0 then 0 else s
theorem fnO_any (s t : Int) (w : World) : Calls Tryd.prog 29 #[.int .i64 s, .int .i64 t] w fun e w' => e = .returned (.int .i64 (or2 s t)) ∧ Below w.heap.size w w' := by
  go_enter Tryd.func29, Tryd.ntmps29
  go_wp2_with (go_at_call 30; refine (or_any _ _ _ 3 _ (Blk.new _ _ _)).mono ?_; rintro e w2 ⟨rfl, rfl⟩)
  go_ret
  exact ⟨rfl, (Below.refl _ _).alloc (Nat.le_refl _) _⟩
theorem fnX_any (s t : Int) (w : World) : Calls Tryd.prog 31 #[.int .i64 s, .int .i64 t] w fun e w' => e = .returned (.int .i64 (chX s t)) ∧ Below w.heap.size w w' := by
  unfold chX
  by_cases hs : s = 0
  · subst hs
    rw [if_neg (fun h => h.1 rfl)]
    go_enter Tryd.func31, Tryd.ntmps31
    go_wp2_with (go_at_call 30; refine (or_any _ _ _ 3 _ (Blk.new _ _ _)).mono ?_; rintro e w2 ⟨rfl, rfl⟩)
    go_ret
    exact ⟨rfl, (Below.refl _ _).alloc (Nat.le_refl _) _⟩
  · have h1 : (s != 0) = true := by simpa using hs
    by_cases ht : t = 0
    · subst ht
      rw [if_neg (fun h => h.2 rfl)]
      clear hs
      go_enter Tryd.func31, Tryd.ntmps31
      go_wp2_with (go_at_call 30; refine (or_any _ _ _ 3 _ (Blk.new _ _ _)).mono ?_; rintro e w2 ⟨rfl, rfl⟩)
      go_ret
      exact ⟨rfl, (Below.refl _ _).alloc (Nat.le_refl _) _⟩
    · rw [if_pos ⟨hs, ht⟩]
      have h2 : (t != 0) = true := by simpa using ht
      clear hs ht
      go_enter Tryd.func31, Tryd.ntmps31
      go_wp2
      go_ret
      exact ⟨rfl, Below.refl _ _⟩
theorem fnA_any (s t : Int) (w : World) : Calls Tryd.prog 35 #[.int .i64 s, .int .i64 t] w fun e w' => e = .returned (.int .i64 (chA s t)) ∧ Below w.heap.size w w' := by
  unfold chA
  by_cases ht : t = 0
  · subst ht
    rw [if_pos rfl]
    go_enter Tryd.func35, Tryd.ntmps35
    go_wp2
    go_ret
    exact ⟨rfl, Below.refl _ _⟩
  · rw [if_neg ht]
    have h2 : (t == 0) = false := by rw [beq_eq_false_iff_ne]; exact ht
    clear ht
    go_enter Tryd.func35, Tryd.ntmps35
    go_wp2
    go_ret
    exact ⟨rfl, Below.refl _ _⟩
/-- what Disjoint's function does to its flag -/
def upD (s t : Int) : Bool := decide (s = 0 ∨ t = 0)
theorem fnD_any (s t : Int) (b : Bool) (d : Nat) (w : World) (h : Blk w d 4 #[.bool b]) : Calls Tryd.prog 36 #[.int .i64 s, .int .i64 t, .pointer (some ⟨d, 0, none⟩)] w fun e w' => e = .returned (.int .i64 0) ∧ Blk w' d 4 #[.bool (b && upD s t)] ∧ Bel d w.heap.size w w' := by
  unfold upD
  by_cases hs : s = 0
  · subst hs
    rw [decide_eq_true (Or.inl rfl), Bool.and_true]
    have H := Lib.hid h
    clear h
    go_enter Tryd.func36, Tryd.ntmps36
    go_wp2
    go_ret
    exact ⟨rfl, H.out, Bel.refl _ _ _⟩
  · have h1 : (s != 0) = true := by simpa using hs
    by_cases ht : t = 0
    · subst ht
      rw [decide_eq_true (Or.inr rfl), Bool.and_true]
      have H := Lib.hid h
      clear h hs
      go_enter Tryd.func36, Tryd.ntmps36
      go_wp2
      go_ret
      exact ⟨rfl, H.out, Bel.refl _ _ _⟩
    · rw [decide_eq_false (by rintro (h | h) <;> contradiction), Bool.and_false]
      have h2 : (t != 0) = true := by simpa using ht
      have H := Lib.hid h
      have c0 : w.cell? ⟨d, 0, none⟩ = some (.bool b) := (h.cell 0).trans rfl
      have f0 := h.frozen 0
      clear h hs ht
      go_enter Tryd.func36, Tryd.ntmps36
      go_wp2
      go_ret
      have E : Blk (w.setCell ⟨d, 0, none⟩ (.bool false)) d 4 #[.bool false] := by simpa using H.out.set_ 0 (.bool false)
      have hz := ((Below.refl 0 w).setCell (p := ⟨d, 0, none⟩) (Nat.zero_le _) (.bool false))
      exact ⟨rfl, E, ⟨hz.os, hz.tape, hz.output, hz.size⟩, fun k hk hd => Below.heap_setCell w ⟨d, 0, none⟩ (.bool false) k hd⟩

/-- a function value that turns nothing -/
theorem pure_fn {G : Nat} {ch : Int → Int → Int} {w : World} (h : ∀ s t w, Calls Tryd.prog G #[.int .i64 s, .int .i64 t] w fun e w' => e = .returned (.int .i64 (ch s t)) ∧ Below w.heap.size w w') :
    ∀ (s t : Int) (b : Bool) (w1 : World), 0 < w1.heap.size → w1.heap[0]? = w.heap[0]? → Calls Tryd.prog G (#[.int .i64 s, .int .i64 t] ++ #[]) w1 fun e w' => e = .returned (.int .i64 (ch s t)) ∧ w'.heap[0]? = w.heap[0]? ∧ Bel 0 w1.heap.size w1 w' :=
  fun s t _ w1 h0 hp => (h s t w1).mono fun _ _ ⟨he, hb⟩ => ⟨he, (hb.block 0 h0).trans hp, Bel.of hb⟩

/-- both merged -/
def mg (ch : Int → Int → Int) (f : Nat → C3) (n : Nat) (g : Nat → C3) (m : Nat) : List C3 := (run ch (fun _ _ => true) f n g m (n + m) 0 0 [] true).1
section
variable (A A' : Option Addr) (n m c c' : Nat) (f g : Nat → C3) (w : World)
theorem merge_pure (G : Nat) (ch : Int → Int → Int) (eg : ∀ args w, (callFunc G args).run Tryd.prog w = .ok (.enter G args) w) (hG : ∀ s t w, Calls Tryd.prog G #[.int .i64 s, .int .i64 t] w fun e w' => e = .returned (.int .i64 (ch s t)) ∧ Below w.heap.size w w')
    (h0 : 0 < w.heap.size) (h : CReads w w.heap.size A n f) (h' : CReads w w.heap.size A' m g) (hok : OkL f n) (hok' : OkL g m) (hc : n ≤ c) (hc' : m ≤ c') (hnm : n + m ≤ 5000) :
    Calls Tryd.prog 28 #[.slice A n c, .slice A' m c', .func (.func G) #[] #[]] w fun e w' =>
      ∃ A2 c2, e = .returned (.tuple #[.slice A2 (mg ch f n g m).length c2, .int .i64 0]) ∧ (mg ch f n g m).length ≤ c2 ∧ CReads w' w'.heap.size A2 (mg ch f n g m).length (lf (mg ch f n g m)) ∧ Below w.heap.size w w' :=
  (merge_any A A' n m c c' f g w G 0 #[] ch (fun _ _ => true) (fun _ w1 => w1.heap[0]? = w.heap[0]?) true eg h0 (fun _ _ _ h e => e.trans h) (pure_fn hG)
    (fun _ w' hp hb => h.below (hb.below hp)) (fun _ w' hp hb => h'.below (hb.below hp)) rfl hok hok' hc hc' hnm).mono fun e w' ⟨A2, c2, l, b, he, hr, ho, hp, hb⟩ => by
      have hl : l = mg ch f n g m := by unfold mg; rw [← hr]
      subst hl
      exact ⟨A2, c2, he, own_le3 ho, CReads.of_list ho, hb.below hp⟩
theorem over_any (h0 : 0 < w.heap.size) (h : CReads w w.heap.size A n f) (h' : CReads w w.heap.size A' m g) (hok : OkL f n) (hok' : OkL g m) (hc : n ≤ c) (hc' : m ≤ c') (hnm : n + m ≤ 5000) :
    Calls Tryd.prog 14 #[.slice A n c, .slice A' m c'] w fun e w' =>
      ∃ A2 c2, e = .returned (.tuple #[.slice A2 (mg or2 f n g m).length c2, .int .i64 0]) ∧ (mg or2 f n g m).length ≤ c2 ∧ CReads w' w'.heap.size A2 (mg or2 f n g m).length (lf (mg or2 f n g m)) ∧ Below w.heap.size w w' := by
  have M := Lib.hid (merge_pure A A' n m c c' f g w 29 or2 (enters_of Tryd.func29 (by kernel_rfl) rfl) fnO_any h0 h h' hok hok' hc hc' hnm)
  generalize mg or2 f n g m = l at M ⊢
  clear h h' hok hok'
  go_enter Tryd.func14, Tryd.ntmps14
  go_wp2_with (go_at_call 28; (with_reducible refine M.out.mono ?_); rintro e w1 ⟨A2, c2, rfl, hl, hr, hb⟩; have HL := Lib.hid hl; have HR := Lib.hid hr; have HB := Lib.hid hb; clear hl hr hb)
  go_ret2
  exact ⟨A2, c2, rfl, HL.out, HR.out, HB.out⟩
theorem xor_any (h0 : 0 < w.heap.size) (h : CReads w w.heap.size A n f) (h' : CReads w w.heap.size A' m g) (hok : OkL f n) (hok' : OkL g m) (hc : n ≤ c) (hc' : m ≤ c') (hnm : n + m ≤ 5000) :
    Calls Tryd.prog 15 #[.slice A n c, .slice A' m c'] w fun e w' =>
      ∃ A2 c2, e = .returned (.tuple #[.slice A2 (mg chX f n g m).length c2, .int .i64 0]) ∧ (mg chX f n g m).length ≤ c2 ∧ CReads w' w'.heap.size A2 (mg chX f n g m).length (lf (mg chX f n g m)) ∧ Below w.heap.size w w' := by
  have M := Lib.hid (merge_pure A A' n m c c' f g w 31 chX (enters_of Tryd.func31 (by kernel_rfl) rfl) fnX_any h0 h h' hok hok' hc hc' hnm)
  generalize mg chX f n g m = l at M ⊢
  clear h h' hok hok'
  go_enter Tryd.func15, Tryd.ntmps15
  go_wp2_with (go_at_call 28; (with_reducible refine M.out.mono ?_); rintro e w1 ⟨A2, c2, rfl, hl, hr, hb⟩; have HL := Lib.hid hl; have HR := Lib.hid hr; have HB := Lib.hid hb; clear hl hr hb)
  go_ret2
  exact ⟨A2, c2, rfl, HL.out, HR.out, HB.out⟩
theorem and_any (h0 : 0 < w.heap.size) (h : CReads w w.heap.size A n f) (h' : CReads w w.heap.size A' m g) (hok : OkL f n) (hok' : OkL g m) (hc : n ≤ c) (hc' : m ≤ c') (hnm : n + m ≤ 5000) :
    Calls Tryd.prog 17 #[.slice A n c, .slice A' m c'] w fun e w' =>
      ∃ A2 c2, e = .returned (.slice A2 (mg chA f n g m).length c2) ∧ (mg chA f n g m).length ≤ c2 ∧ CReads w' w'.heap.size A2 (mg chA f n g m).length (lf (mg chA f n g m)) ∧ Below w.heap.size w w' := by
  have M := Lib.hid (merge_pure A A' n m c c' f g w 35 chA (enters_of Tryd.func35 (by kernel_rfl) rfl) fnA_any h0 h h' hok hok' hc hc' hnm)
  generalize mg chA f n g m = l at M ⊢
  clear h h' hok hok'
  go_enter Tryd.func17, Tryd.ntmps17
  go_wp2_with (go_at_call 28; (with_reducible refine M.out.mono ?_); rintro e w1 ⟨A2, c2, rfl, hl, hr, hb⟩; have HL := Lib.hid hl; have HR := Lib.hid hr; have HB := Lib.hid hb; clear hl hr hb)
  go_ret
  exact ⟨A2, c2, rfl, HL.out, HR.out, HB.out⟩
theorem disj_any (h : CReads w w.heap.size A n f) (h' : CReads w w.heap.size A' m g) (hok : OkL f n) (hok' : OkL g m) (hc : n ≤ c) (hc' : m ≤ c') (hnm : n + m ≤ 5000) :
    Calls Tryd.prog 18 #[.slice A n c, .slice A' m c'] w fun e w' =>
      e = .returned (.bool (run (fun _ _ => 0) upD f n g m (n + m) 0 0 [] true).2) ∧ Below w.heap.size w w' := by
  have K := Blk.new w 4 #[.bool true]
  have hbel := (Below.refl w.heap.size w).alloc (Nat.le_refl _) (.cells #[.bool true] 4)
  have keep : ∀ (w' : World), Bel w.heap.size (w.alloc (.cells #[.bool true] 4)).heap.size (w.alloc (.cells #[.bool true] 4)) w' → Below w.heap.size w w' := fun w' hb =>
    ⟨hb.1.1.trans hbel.os, hb.1.2.1.trans hbel.tape, hb.1.2.2.1.trans hbel.output, Nat.le_trans hbel.size hb.size, fun k hk => (hb.2 k (Nat.lt_of_lt_of_le hk hbel.size) (by omega)).trans (hbel.block k hk)⟩
  have M := merge_any A A' n m c c' f g (w.alloc (.cells #[.bool true] 4)) 36 w.heap.size #[.pointer (some ⟨w.heap.size, 0, none⟩)] (fun _ _ => 0) upD (fun b w1 => Blk w1 w.heap.size 4 #[.bool b]) true
    (enters_of Tryd.func36 (by kernel_rfl) rfl) K.lt (fun _ _ _ h e => e.trans h) (fun s t b w1 _ hp => fnD_any s t b w.heap.size w1 hp)
    (fun b w' _ hb => (h.below (keep w' hb)).more hbel.size) (fun b w' _ hb => (h'.below (keep w' hb)).more hbel.size) K hok hok' hc hc' hnm
  have M : Calls Tryd.prog 28 #[.slice A n c, .slice A' m c', .func (.func 36) #[] #[.pointer (some ⟨w.heap.size, 0, none⟩)]] (w.alloc (.cells #[.bool true] 4)) fun e w' => ∃ A2 c2 l, e = .returned (.tuple #[.slice A2 l c2, .int .i64 0]) ∧ Blk w' w.heap.size 4 #[.bool (run (fun _ _ => 0) upD f n g m (n + m) 0 0 [] true).2] ∧ Below w.heap.size w w' :=
    M.mono fun e w' ⟨A2, c2, l, b, he, hr, _, hp, hb⟩ => ⟨A2, c2, l.length, he, by rw [← hr]; exact hp, keep w' hb⟩
  generalize (run (fun _ _ => 0) upD f n g m (n + m) 0 0 [] true).2 = r at M ⊢
  have M := Lib.hid M
  clear h h' hok hok' keep hbel K
  go_enter Tryd.func18, Tryd.ntmps18
  go_wp2_with (go_at_call 28; (with_reducible refine M.out.mono ?_); rintro e w1 ⟨A2, c2, l, rfl, hk, hb⟩; have HB := Lib.hid hb; have k0 : w1.cell? ⟨w.heap.size, 0, none⟩ = some (.bool r) := (hk.cell 0).trans rfl; have k1 := hk.lt; clear hb hk)
  go_ret
  exact ⟨by first | rfl | simp, HB.out⟩
end
end Go.Proofs.YtobaabankhpfjaaDoor
