/- The walk of slices.SortFunc on positions by point.Compare, at every length: by the library's own contract of the sort. -/
/- Rows that the call owns: appends, and a list of nodes that grows beside a struct that holds it. -/
/- A list of nodes that grows in a struct. -/
/- The walk of the binary search for a position that is there. -/
/- A list of nodes that grows in a struct. -/
import Derived.Test.YtcgkkppidkkjiaaGreatDoorMaa
import Derived.Test.YtcgkkppidkkjiaaGreatDoorMaf
import Derived.Test.YtcgkkppidkkjiaaGreatDoorMab
import Derived.Below
import Derived.BigQuiet
import Derived.Deep.AppendLies
import Derived.Deep.Draws
import Derived.Deep.QuietTactic
import Derived.IntWalk
import Derived.Laws.OwnMore
import Derived.Laws.Rows
import Derived.Lib.Hide
import Derived.LoopN
import Derived.OwnWalk
import Derived.Shelf.SlLaysF0
import Derived.Shelf.SlSortCmp.WholeK
import Derived.Sort.Grow
import Derived.Sort.Statements
import Derived.StillTail
import Derived.StillTailTactics
import Derived.Test.YtcgkkppidkkjiaaGreatDoorRows
import Derived.WalkKit
import Derived.Test.YtcgkkppidkkjiaaGreatDoorMac
import Derived.Deep.CutRange
import Derived.Laws.BitsLemmas
import Derived.Lib.SliceRun
import Derived.Test.YtcgkkppidkkjiaaGreatDoorMae
namespace Go.Proofs.YtcgkkppidkkjiaaGreatDoor
open Go.RowKit
/-- a position's values -/
abbrev en (x : P2) : List Value := [.int .i64 x.1, .int .i64 x.2]
theorem en_one (x : P2) : ∀ v ∈ en x, v.oneCell' = true := fun v hv => by
  simp at hv
  rcases hv with rfl | rfl <;> rfl
theorem cmp_lays (g size : Nat) (w : World) : CmpLays Tryz.prog 65 #[] en 2 pc g 0 size w :=
  fun _ _ _ _ x y => pcompare_grow x.1 x.2 y.1 y.2 _
theorem cmp_enters : ∀ args w, (callFunc 65 args).run Tryz.prog w = .ok (.enter 65 args) w := enters_of Tryz.func65 (by kernel_rfl) rfl
theorem lt_swo : Go.Sort.SWO (ltOf pc) := pc_swo

/-- what the sort leaves turns nothing below the row -/
theorem sorted_below {g : Nat} {w w' : World} {d : Array P2} (hg : g < w.heap.size) (h : SWK en 2 w g 0 d w') : Below g w w' := by
  obtain ⟨n, os, rfl⟩ := h
  refine ⟨rfl, rfl, rfl, ?_, fun b hb => ?_⟩
  · show w.heap.size ≤ (Go.Sort.grow (Go.Sort.putRowK en 2 (Go.Sort.ahead w n) g 0 d) os).heap.size
    rw [Go.Sort.size_grow, Go.Sort.size_putRowK]
    exact Nat.le_add_right _ _
  · show (((w.heap.modify g _) ++ os)[b]?) = _
    rw [Array.getElem?_append_left (by simp; omega), Array.getElem?_modify, if_neg (by omega)]
theorem bits_len (n : Nat) (w : World) (hn : n ≤ 1000000) : Calls Tryz.prog 104 #[.int .u64 (n : Int)] w fun e w' => e = .returned (.int .i64 (Lib.bitLen n : Nat)) ∧ w' = w := by
  have h := Any.bits_Len (SlLaysF0.n15.bits (P := Tryz.prog) (ρ := sortRen) { sortLays with }) (n : Int) w (by omega) (by omega)
  rwa [Int.toNat_natCast] at h

theorem pdq_any (g c l : Nat) (d : Array P2) (w : World) (hH : Go.Sort.HoldsK en 2 w g 0 d) (hg : g < w.heap.size) (hn : d.size ≤ 1000000) (hl : l < 4611686018427387904) :
    Calls Tryz.prog 138 #[.slice (some ⟨g, 0, none⟩) d.size c, .int .i64 0, .int .i64 (d.size : Nat), .int .i64 (l : Nat), .func (.func 65) #[] #[]] w
      fun e w' => e = .returned (.tuple #[]) ∧ ∃ d', Go.Sort.PermIn 0 d.size d d' ∧ Go.Sort.SortedIn (ltOf pc) 0 d.size d' ∧ SWK en 2 w g 0 d' w' := by
  have h := AnyQ.pdqsortCmpFunc_all sortLays 2 Tryz.isAgg58 Tryz.sizeOf58 en pc 65 #[] lt_swo g 0 c d w cmp_enters (cmp_lays g d.size w)
    ⟨fun _ => rfl, en_one, hH, hg⟩ (d.size + 1) 0 d.size l d w (by omega) rfl (SWK.start hH) (Nat.zero_le _) (Nat.le_refl _) (by omega) hl (Or.inl rfl)
  have hs := Go.Sort.pdq_sorts (ltOf pc) lt_swo d 0 d.size l true true (Nat.zero_le _) (Nat.le_refl _) (Or.inl rfl)
  exact h.mono fun e w' ⟨he, hw⟩ => ⟨he, _, hs.1, hs.2, hw⟩

/-- a row of the call's own holds its positions -/
theorem holds_of_own {w : World} {base g n c : Nat} {e : TypeId} {f : Nat → P2} (h : w.ownsRow base e 2 (.slice (some ⟨g, 0, none⟩) n c) n (cells2 f n)) : Go.Sort.HoldsK en 2 w g 0 (lst f n).toArray := by
  intro j hj
  have hs : (lst f n).toArray.size = n := by simp [lst_len]
  rw [Go.Sort.size_flatK, hs] at hj
  rw [Go.Sort.get_flatK _ _ _ _ (by rw [hs]; exact hj)]
  have hq : j / 2 < n := by omega
  have hl := cells2_len f n
  obtain ⟨c1, c2⟩ := cells2_at f n (j / 2) hq
  have hd : (lst f n).toArray[j / 2]! = f (j / 2) := by
    rw [getElem!_pos _ _ (by rw [hs]; exact hq)]
    simp [lst_get]
  rw [hd, Nat.zero_add]
  refine ⟨?_, h.frozenAt j⟩
  rw [h.cellAt j (by omega)]
  have hm : j % 2 = 0 ∨ j % 2 = 1 := by omega
  rcases hm with hm | hm
  · rw [show j = j / 2 * 2 by omega, c1]
    rw [show (j / 2 * 2) / 2 = j / 2 by omega, show (j / 2 * 2) % 2 = 0 by omega]; rfl
  · rw [show j = j / 2 * 2 + 1 by omega, c2]
    rw [show (j / 2 * 2 + 1) / 2 = j / 2 by omega, show (j / 2 * 2 + 1) % 2 = 1 by omega]; rfl
/-- .. and a row that holds positions reads as them -/
theorem reads_of_holds {w : World} {g : Nat} {d : Array P2} (hg : g < w.heap.size) (h : Go.Sort.HoldsK en 2 w g 0 d) : QReads w w.heap.size (some ⟨g, 0, none⟩) d.size (fun k => d[k]!) := fun _ => by
  refine ⟨g, 0, rfl, hg, fun k hk => ?_⟩
  have h0 := (h.cell (i := k) (c := 0) hk (by omega)).1
  have h1 := (h.cell (i := k) (c := 1) hk (by omega)).1
  exact ⟨h0, h1⟩

set_option maxHeartbeats 1000000 in
/-- a row of the call's own, sorted -/
theorem sortf_any (g c n base : Nat) (e : TypeId) (f : Nat → P2) (w : World) (h : w.ownsRow base e 2 (.slice (some ⟨g, 0, none⟩) n c) n (cells2 f n)) (hn : n ≤ 1000000) (hap : ∀ i j, i < j → j < n → f i ≠ f j) :
    Calls Tryz.prog 129 #[.slice (some ⟨g, 0, none⟩) n c, .func (.func 65) #[] #[]] w fun e w' =>
      e = .returned (.tuple #[]) ∧ ∃ f', QReads w' w'.heap.size (some ⟨g, 0, none⟩) n f' ∧ (lst f' n).Perm (lst f n) ∧ Up f' n ∧ Below g w w' := by
  have hs : (lst f n).toArray.size = n := by simp [lst_len]
  have hg := (h.lt g rfl).2
  have hH := holds_of_own h
  have hp := fun l hl => pdq_any g c l (lst f n).toArray w hH hg (by omega) hl
  rw [hs] at hp
  have key : ∀ (d' : Array P2) (w' : World), Go.Sort.PermIn 0 n (lst f n).toArray d' → Go.Sort.SortedIn (ltOf pc) 0 n d' → SWK en 2 w g 0 d' w' →
      ∃ f', QReads w' w'.heap.size (some ⟨g, 0, none⟩) n f' ∧ (lst f' n).Perm (lst f n) ∧ Up f' n ∧ Below g w w' := by
    intro d' w' h1 h2 h3
    obtain ⟨p1, _, p3⟩ := h1
    have hs' : d'.size = n := by rw [p1, hs]
    have hR := reads_of_holds (h3.lt hg) (h3.holds hg hH p1)
    rw [hs'] at hR
    have hL : lst (fun k => d'[k]!) n = d'.toList := by
      apply List.ext_getElem
      · simp [lst_len, hs']
      · intro i h1 h2
        rw [lst_get]
        rw [getElem!_pos _ _ (by rw [lst_len] at h1; omega)]
        simp
    have hP : (lst (fun k => d'[k]!) n).Perm (lst f n) := by
      rw [hL]
      have e1 : d'.extract 0 n = d' := by rw [← hs']; simp
      have e2 : (lst f n).toArray.extract 0 n = (lst f n).toArray := by
        have := Array.extract_size (xs := (lst f n).toArray)
        rwa [hs] at this
      rw [e1, e2] at p3
      simpa using p3
    refine ⟨_, hR, hP, fun i j hij hj => ?_, sorted_below hg h3⟩
    have h4 := h2 i j (Nat.zero_le _) hij hj
    have h5 := apart_perm hP hap i j hij hj
    have h6 : ¬ pc d'[j]! d'[i]! < 0 := by simpa [ltOf] using h4
    show pc d'[i]! d'[j]! < 0
    have h7 := pc_gt d'[i]! d'[j]!
    have h8 := pc_zero d'[i]! d'[j]!
    have h5' : d'[i]! ≠ d'[j]! := h5
    have h9 : pc d'[i]! d'[j]! ≠ 0 := fun e => h5' (h8.1 e)
    clear h8 h5
    omega
  have B := bits_len n
  have hl : Lib.bitLen n < 4611686018427387904 := Nat.lt_of_le_of_lt (Lib.bitLen_le n 62 (by omega) (by omega)) (by omega)
  have hp := Lib.hid (hp _ hl)
  generalize Lib.bitLen n = l at B hp hl
  have B := Lib.hid (fun w => B w hn)
  have wr : IntKind.u64.wrap (n : Int) = n := by simp [IntKind.wrap, IntKind.bits, IntKind.signed]; omega
  have key := Lib.hid key
  clear hH hap h
  go_enter Tryz.func129, Tryz.ntmps129
  go_wp2_with (first | (go_at_call 104; (with_reducible refine (B.out _).mono ?_); rintro e w' ⟨rfl, rfl⟩) | (go_at_call 138; (with_reducible refine hp.out.mono ?_); rintro e w' ⟨rfl, d', h1, h2, h3⟩; have K := Lib.hid (key.out d' w' h1 h2 h3); clear h1 h2 h3))
  go_end0
  exact ⟨rfl, K.out⟩
end Go.Proofs.YtcgkkppidkkjiaaGreatDoor
namespace Go.Proofs.YtcgkkppidkkjiaaGreatDoor
open Go.RowKit
theorem Tryz.info_node : (Tryz.prog.info? 66).map (fun i => (i.zero, i.size, i.bytes)) = some (some (.agg #[.int .i64 0, .slice none 0 0]), 2, 32) := by kernel_rfl
/-- append of one struct of two cells onto a row of the call's own, and where the new row lies -/
theorem wpList_append2L {P : Program} {w : World} {ops : Array Oper} {rest : List Oper} {o : Oper} {a : Act} {Q : Exit → Act → World → Prop} (hgd : o.guard = none) (s x : Operand) (t : TypeId)
    (ho : o.op = .call { callee := .builtin .append, args := #[s, x], argTypes := #[t, t] })
    (base : Nat) (e : TypeId) (i : TypeInfo) (z : Value) (bytes : Nat) (ht : P.underlying t = some (.slice e)) (hi : P.info? e = some i) (hz : i.zero = some z)
    (hsize : i.size = 2) (hby : i.bytes = bytes) (hzs : z.cells.size = 2)
    (A : Option Addr) (n c : Nat) (xs : List Value) (hs : a.eval s = .slice A n c) (hown : w.ownsRow base e 2 (.slice A n c) n xs) (u v : Value)
    (hx : a.eval x = .slice (some ⟨w.heap.size, 0, none⟩) 1 1) (h1 : u.oneCell' = true) (h2 : v.oneCell' = true) (h63 : n + 1 ≤ maxLen) (hbytes : (n + 1) * bytes ≤ 140737488355328) (hbase : base ≤ w.heap.size)
    (h : ∀ g' c' w', w'.ownsRow base e 2 (.slice (some ⟨g', 0, none⟩) (n + 1) c') (n + 1) (xs ++ [u, v]) → Below base w w' → (w.alloc (.cells #[u, v] e)).grownBy w' (Value.slice A n c).ownBlock → ((Value.slice A n c).ownBlock = some g' ∨ g' = w.heap.size + 1) → wpList P ops Q rest (a.put o.dst (.slice (some ⟨g', 0, none⟩) (n + 1) c')) w') :
    wpList P ops Q (o :: rest) a (w.alloc (.cells #[u, v] e)) := by
  refine wpList_append_lies _ hgd s x t ho base e i z 2 bytes ht hi hz hsize hby hzs (by decide) _ n xs hs (hown.alloc _) ⟨w.heap.size, 0, none⟩ 1 1 [u, v] hx rfl ?_ ?_ (by decide) h63 hbytes (by simp; omega) (w.heap.size + 1) (by simp) ?_
  · intro j y hj
    match j, hj with
    | 0, hj => simp at hj; subst hj; simp [Addr.add]
    | 1, hj => simp at hj; subst hj; simp [Addr.add]
  · intro y hy; simp at hy; rcases hy with rfl | rfl <;> assumption
  · intro g' c' w' hown' hg hat _
    refine h g' c' w' hown' (Below.grown ((Below.refl base w).alloc hbase _) hg (by simp; omega) ?_) hg hat
    intro k hk
    exact (hown.lt k hk).1
/-- what the call owns stays owned behind a store elsewhere -/
theorem own_set {w : World} {base k : Nat} {e : TypeId} {v : Value} {n : Nat} {xs : List Value} {p : Addr} (h : w.ownsRow base e k v n xs) (hp : v.ownBlock ≠ some p.block) (u : Value) : (w.setCell p u).ownsRow base e k v n xs := by
  refine ⟨h.1, ?_⟩
  rcases h.2 with hn | ⟨g, cap, cur, rfl, hb', hg, rest⟩
  · exact .inl hn
  · refine .inr ⟨g, cap, cur, rfl, hb', ?_, rest⟩
    have hne : g ≠ p.block := fun e => hp (by rw [e]; rfl)
    rw [Below.heap_setCell w p u g hne]; exact hg
/-- the cells xs are j nodes, whose elements lie in blocks other than G -/
def Inn (w : World) (G : Nat → Prop) (xs : List Value) (j : Nat) (lv : Nat → Int) (nx : Nat → List Int) : Prop :=
  ∀ k, k < j → ∃ A' c', xs[k * 2]? = some (.int .i64 (lv k)) ∧ xs[k * 2 + 1]? = some (.slice A' (nx k).length c') ∧ Reads w w.heap.size A' (nx k).length (il (nx k)) ∧ (0 < (nx k).length → ∀ ad, A' = some ad → ¬ G ad.block)
section
variable {w w' : World} {G G' : Nat → Prop} {xs : List Value} {j : Nat} {lv : Nat → Int} {nx : Nat → List Int}
theorem Inn.below (h : Inn w G xs j lv nx) (hb : Below w.heap.size w w') : Inn w' G xs j lv nx := fun k hk => by
  obtain ⟨A', c', h1, h2, h3, h4⟩ := h k hk
  exact ⟨A', c', h1, h2, h3.later hb, h4⟩
/-- behind what turns blocks of G alone -/
theorem Inn.far (h : Inn w G xs j lv nx) (hs : w.heap.size ≤ w'.heap.size) (hb : ∀ b, b < w.heap.size → ¬ G b → w'.heap[b]? = w.heap[b]?) (hG : ∀ b, b < w.heap.size → G' b → G b) : Inn w' G' xs j lv nx := fun k hk => by
  obtain ⟨A', c', h1, h2, h3, h4⟩ := h k hk
  refine ⟨A', c', h1, h2, ⟨h3.1, fun hn => ?_⟩, ?_⟩
  · obtain ⟨ad, e, hlt, hc⟩ := h3.2 hn
    refine ⟨ad, e, Nat.lt_of_lt_of_le hlt hs, fun i u hu => ?_⟩
    rw [← hc i u hu]
    exact World.cell?_of_block (by rw [block_of_add]; exact hb _ hlt (h4 hn ad e))
  · intro hn ad e hg
    obtain ⟨ad', e', hlt, _⟩ := h3.2 hn
    rw [e] at e'
    injection e' with e'
    subst e'
    exact h4 hn ad e (hG _ hlt hg)
theorem Inn.push (h : Inn w G xs j lv nx) (hl : xs.length = j * 2) {A : Option Addr} {c : Nat} (hr : Reads w w.heap.size A (nx j).length (il (nx j))) (hA : 0 < (nx j).length → ∀ ad, A = some ad → ¬ G ad.block) : Inn w G (xs ++ [.int .i64 (lv j), .slice A (nx j).length c]) (j + 1) lv nx := fun k hk => by
  by_cases e : k < j
  · obtain ⟨A', c', h1, h2, h3, h4⟩ := h k e
    exact ⟨A', c', by rw [List.getElem?_append_left (by omega)]; exact h1, by rw [List.getElem?_append_left (by omega)]; exact h2, h3, h4⟩
  · obtain rfl : k = j := by omega
    exact ⟨A, c, by rw [List.getElem?_append_right (by omega), hl]; simp, by rw [List.getElem?_append_right (by omega), hl]; simp, hr, hA⟩
theorem NR.of_own {base g c : Nat} {e : TypeId} (h : w.ownsRow base e 2 (.slice (some ⟨g, 0, none⟩) j c) j xs) (hi : Inn w G xs j lv nx) : NR w w.heap.size (some ⟨g, 0, none⟩) j lv nx := fun hj => by
  refine ⟨g, 0, rfl, (h.lt g rfl).2, fun k hk => ?_⟩
  have hl := h.1
  obtain ⟨A', c', h1, h2, h3, _⟩ := hi k hk
  refine ⟨A', c', ?_, ?_, h3⟩
  · rw [Nat.zero_add, h.cellAt (k * 2) (by omega), h1]
  · rw [Nat.zero_add, h.cellAt (k * 2 + 1) (by omega), h2]
end
end Go.Proofs.YtcgkkppidkkjiaaGreatDoor
namespace Go.Proofs.YtcgkkppidkkjiaaGreatDoor
open Go.RowKit
theorem Blk.three6 {w : World} {g : Nat} {t : TypeId} {a b c : Value} (h : Blk w g t #[a, b, c]) : w.cell? ⟨g, 0, none⟩ = some a ∧ w.cell? ⟨g, 1, none⟩ = some b ∧ w.cell? ⟨g, 2, none⟩ = some c ∧ w.frozen? ⟨g, 0, none⟩ = false ∧ w.frozen? ⟨g, 1, none⟩ = false ∧ w.frozen? ⟨g, 2, none⟩ = false ∧ g < w.heap.size :=
  ⟨by rw [h.cell]; rfl, by rw [h.cell]; rfl, by rw [h.cell]; rfl, h.frozen 0, h.frozen 1, h.frozen 2, h.lt⟩
/-- the cells of a make of states -/
def zs (S : Nat) : Array Value := (il (List.replicate S 0)).toArray
theorem mk_zs {S : Nat} (h1 : 2 ≤ S) (h2 : S ≤ 8) (w : World) : (Instr.makeSlice 27 (.int .i64 (S : Int)) (.int .i64 (S : Int))).run Tryz.prog w = .ok (.slice (some ⟨w.heap.size, 0, none⟩) S S) (w.alloc (.cells (zs S) 3)) := by
  obtain rfl | rfl | rfl | rfl | rfl | rfl | rfl : S = 2 ∨ S = 3 ∨ S = 4 ∨ S = 5 ∨ S = 6 ∨ S = 7 ∨ S = 8 := by omega
  all_goals kernel_rfl
theorem three_blks (w : World) (c1 c2 c3 : Array Value) (t1 t2 t3 : TypeId) :
    Blk (((w.alloc (.cells c1 t1)).alloc (.cells c2 t2)).alloc (.cells c3 t3)) w.heap.size t1 c1 ∧ Blk (((w.alloc (.cells c1 t1)).alloc (.cells c2 t2)).alloc (.cells c3 t3)) (w.heap.size + 1) t2 c2 ∧ Blk (((w.alloc (.cells c1 t1)).alloc (.cells c2 t2)).alloc (.cells c3 t3)) (w.heap.size + 1 + 1) t3 c3 ∧ Below w.heap.size w (((w.alloc (.cells c1 t1)).alloc (.cells c2 t2)).alloc (.cells c3 t3)) := by
  have k2 := Blk.new (w.alloc (.cells c1 t1)) t2 c2
  have k3 := Blk.new ((w.alloc (.cells c1 t1)).alloc (.cells c2 t2)) t3 c3
  simp only [World.size_alloc] at k2 k3
  exact ⟨((Blk.new w t1 c1).alloc _).alloc _, k2.alloc _, k3, (((Below.refl _ _).alloc (Nat.le_refl _) _).alloc (by simp) _).alloc (by simp; omega) _⟩
end Go.Proofs.YtcgkkppidkkjiaaGreatDoor
namespace Go.Proofs.YtcgkkppidkkjiaaGreatDoor
open Go.RowKit
theorem up_lt {f : Nat → P2} {n h k : Nat} (hu : Up f n) (hh : h < n) (hk : k < n) (hp : pc (f h) (f k) < 0) : h < k := by
  rcases Nat.lt_trichotomy h k with e | e | e
  · exact e
  · rw [e, pc_lt] at hp; omega
  · have := hu k h e hh
    rw [pc_lt] at *
    omega
theorem up_ge {f : Nat → P2} {n h k : Nat} (hu : Up f n) (hk : k < n) (hp : ¬ pc (f h) (f k) < 0) : k ≤ h := by
  refine Nat.le_of_not_lt fun e => hp (hu h k e hk)

set_option maxRecDepth 100000 in
set_option maxHeartbeats 4000000 in
theorem search_any (A : Option Addr) (n c k : Nat) (f : Nat → P2) (u v : Int) (w : World) (h : QReads w w.heap.size A n f) (hu : Up f n) (hn : n ≤ 1000) (hk : k < n) (hf : f k = (u, v)) :
    Calls Tryz.prog 95 #[.slice A n c, .agg #[.int .i64 u, .int .i64 v], .func (.func 65) #[] #[]] w fun e w' => e = .returned (.tuple #[.int .i64 (k : Int), .bool true]) ∧ Below w.heap.size w w' := by
  have H := Lib.hid h
  have K0 := Lib.hid (Blk.new w 58 #[.int .i64 u, .int .i64 v])
  have B0 := Lib.hid ((Below.refl w.heap.size w).alloc (Nat.le_refl _) (.cells #[.int .i64 u, .int .i64 v] 58))
  have hgn : ∀ g, g < w.heap.size → g < (w.alloc (.cells #[.int .i64 u, .int .i64 v] 58)).heap.size := fun g hg => by simp; omega
  have UL := Lib.hid (fun h (hh : h < n) (hp : pc (f h) (u, v) < 0) => up_lt hu hh hk (by rw [hf]; exact hp))
  have UG := Lib.hid (fun h (hp : ¬ pc (f h) (u, v) < 0) => up_ge (n := n) (h := h) hu hk (by rw [hf]; exact hp))
  have FK := Lib.hid hf
  obtain ⟨g1, o1, rfl, hb1, -⟩ := h (by omega)
  have hgb := Lib.hid (hgn g1 hb1)
  clear h hu hf hgn
  go_enter Tryz.func95, Tryz.ntmps95
  go_wp2_with fail
  have HZ := Lib.hid hb1
  generalize w.alloc (.cells #[.int .i64 u, .int .i64 v] 58) = w0 at K0 B0 hgb ⊢
  go_wp2
  go_loopw [9, 10] (fun iv jv wr => ∃ i j : Nat, iv = .int .i64 (i : Int) ∧ jv = .int .i64 (j : Int) ∧ i ≤ k ∧ k ≤ j ∧ j ≤ n ∧ Below w0.heap.size w0 wr) (fun iv jv _ => (intOf jv).toNat - (intOf iv).toNat)
  case atStart => exact ⟨0, n, rfl, rfl, Nat.zero_le _, by omega, Nat.le_refl _, Below.refl _ _⟩
  case round =>
    obtain ⟨i, j, rfl, rfl, hi, hj, hjn, hbel⟩ := hrel
    have HB := Lib.hid (B0.out.trans (hbel.mono B0.out.size))
    have K1 := Lib.hid (K0.out.below hbel K0.out.lt)
    have hgw : g1 < wr.heap.size := Nat.lt_of_lt_of_le hgb.out hbel.size
    obtain ⟨g2, o2, hA, -, hc1⟩ := H.out.below HB.out (by omega)
    obtain ⟨rfl, rfl⟩ : g1 = g2 ∧ o1 = o2 := by injection hA with hA; injection hA with h1 h2; exact ⟨h1, h2⟩
    have BX := Lib.hid hbel
    clear hbel hA
    by_cases hij : i < j
    · obtain ⟨m, hm⟩ : ∃ m : Nat, m = (i + j) / 2 := ⟨_, rfl⟩
      have hm1 : i ≤ m := by omega
      have hm2 : m < j := by omega
      have hmn : m < n := by omega
      have e2 : ((i : Int) + (j : Int)) / 2 = (m : Int) := by omega
      have c1 := hc1 m hmn
      have ul := UL.out m hmn
      have ug := UG.out m
      obtain ⟨⟨x1, x2⟩, hx⟩ : ∃ x, x = f m := ⟨_, rfl⟩
      rw [← hx] at c1 ul ug
      have C1 := Lib.hid c1
      have P := fun w => pcompare_any x1 x2 u v w
      have hpr : pc (x1, x2) (u, v) = or2 (sg x2 v) (sg x1 u) := rfl
      rw [hpr] at ul ug
      generalize or2 (sg x2 v) (sg x1 u) = r at P ul ug
      have UL1 := Lib.hid ul
      have UG1 := Lib.hid ug
      have P := Lib.hid P
      clear c1 hc1 hx ul ug hpr hm
      have q0 := fun p : LowW wr.heap.size wr => LowW.cell (a := ⟨g1, o1 + m * 2, none⟩) hgw C1.out.1 p
      have q1 := fun p : LowW wr.heap.size wr => LowW.cell (a := ⟨g1, o1 + m * 2 + 1, none⟩) hgw C1.out.2 p
      have q2 := fun p : LowW wr.heap.size wr => (K1.out.below p.below K1.out.lt).two.1
      have q3 := fun p : LowW wr.heap.size wr => (K1.out.below p.below K1.out.lt).two.2.1
      by_cases hr : r < 0
      · go_wp2_with fail
        refine wp_region_low wr.heap.size wr (by kernel_rfl) (by kernel_rfl) (Below.refl _ _) ?_
        repeat (quiet_step (first | (go_at_call 65; with_reducible exact LowW.of_call _ (Nat.le_refl _) (P.out _))))
        refine wpQuiet_nil ?_
        rintro w3 ⟨p, rfl⟩
        have B3 := Lib.hid (BX.out.trans (p.below.mono BX.out.size))
        have HU := Lib.hid (UL1.out hr)
        clear q0 q1 q2 q3
        generalize p.w = w3 at B3 ⊢
        go_wp2
        go_roundw
        case rel => exact ⟨m + 1, j, by go_num, rfl, HU.out, hj, hjn, B3.out⟩
        case measure => simp [intOf]; omega
      · have hr : 0 ≤ r := by omega
        have HU := Lib.hid (UG1.out (by omega))
        go_wp2_with fail
        refine wp_region_low wr.heap.size wr (by kernel_rfl) (by kernel_rfl) (Below.refl _ _) ?_
        repeat (quiet_step (first | (go_at_call 65; with_reducible exact LowW.of_call _ (Nat.le_refl _) (P.out _))))
        refine wpQuiet_nil ?_
        rintro w3 ⟨p, rfl⟩
        have B3 := Lib.hid (BX.out.trans (p.below.mono BX.out.size))
        clear q0 q1 q2 q3
        generalize p.w = w3 at B3 ⊢
        go_wp2
        go_roundw
        case rel => exact ⟨i, m, rfl, rfl, hi, HU.out, by omega, B3.out⟩
        case measure => simp [intOf]; omega
    · obtain ⟨e1, e3⟩ : i = k ∧ j = k := by omega
      subst e1
      subst e3
      have C1 := Lib.hid (hc1 j hk)
      rw [FK.out] at C1
      have P := fun w => pcompare_any u v u v w
      rw [show or2 (sg v v) (sg u u) = 0 from (pc_zero (u, v) (u, v)).2 rfl] at P
      have P := Lib.hid P
      have q0 := fun p : LowW wr.heap.size wr => LowW.cell (a := ⟨g1, o1 + j * 2, none⟩) hgw C1.out.1 p
      have q1 := fun p : LowW wr.heap.size wr => LowW.cell (a := ⟨g1, o1 + j * 2 + 1, none⟩) hgw C1.out.2 p
      have q2 := fun p : LowW wr.heap.size wr => (K1.out.below p.below K1.out.lt).two.1
      have q3 := fun p : LowW wr.heap.size wr => (K1.out.below p.below K1.out.lt).two.2.1
      have d1 : decide (j < n) = true := decide_eq_true hk
      clear hc1
      go_wp2_with fail
      refine wp_region_low wr.heap.size wr (by kernel_rfl) (by kernel_rfl) (Below.refl _ _) ?_
      repeat (quiet_step (first | (go_at_call 65; with_reducible exact LowW.of_call _ (Nat.le_refl _) (P.out _))))
      refine wpQuiet_nil ?_
      rintro w3 ⟨p, rfl⟩
      have B3 := Lib.hid (HB.out.trans (p.below.mono HB.out.size))
      clear q0 q1 q2 q3
      generalize p.w = w3 at B3 ⊢
      go_wp2
      go_ret2
      exact ⟨rfl, B3.out⟩
end Go.Proofs.YtcgkkppidkkjiaaGreatDoor
namespace Go.Proofs.YtcgkkppidkkjiaaGreatDoor
open Go.RowKit
/-- a growing list of nodes, in a struct -/
def UR (w : World) (base gu : Nat) (s h : Value) (j : Nat) (lv : Nat → Int) (nx : Nat → List Int) : Prop :=
  ∃ gn c xs, Blk w gu 32 #[s, h, .slice (some ⟨gn, 0, none⟩) j c] ∧ gn ≠ gu ∧ w.ownsRow base 66 2 (.slice (some ⟨gn, 0, none⟩) j c) j xs ∧ Inn w (fun b => b = gn ∨ b = gu) xs j lv nx
theorem UR.below {w w' : World} {base gu j : Nat} {s h : Value} {lv : Nat → Int} {nx : Nat → List Int} (hu : UR w base gu s h j lv nx) (hb : Below w.heap.size w w') : UR w' base gu s h j lv nx := by
  obtain ⟨gn, c, xs, h1, h2, h3, h4⟩ := hu
  exact ⟨gn, c, xs, h1.below hb h1.lt, h2, own_below2 h3 hb, h4.below hb⟩

end Go.Proofs.YtcgkkppidkkjiaaGreatDoor
