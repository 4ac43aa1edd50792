/- The walks of Index and Cut at a slash, on any text. -/
/- The walks of Index and Cut at the chapter's examples, whatever internal/bytealg.MaxLen holds. -/
/- The walks of hood's small functions: the absolute value, the square, and the three predicates. -/
/- The walks of Moore, Neumann and Hex at the examples. -/
import Derived.Test.YtjekpmkghpjamaaGreatDoorMaa
import Derived.Test.YtjekpmkghpjamaaGreatDoorMaz
import Derived.Test.YtjekpmkghpjamaaGreatDoorMav
import Derived.Below
import Derived.BigQuiet
import Derived.Deep.AppendLies
import Derived.Deep.Draws
import Derived.Deep.QuietTactic
import Derived.IntWalk
import Derived.Laws.Externs
import Derived.Laws.OwnMore
import Derived.Laws.Rows
import Derived.Laws.ShiftsVar
import Derived.Lib.AtoiAllCases
import Derived.Lib.Hide
import Derived.Lib.IndexEntry
import Derived.Lib.Strings
import Derived.LoopN
import Derived.Shelf.Abstract
import Derived.Shelf.Lays
import Derived.Shelf.Strings.Search1
import Derived.StillTail
import Derived.StillTailTactics
import Derived.Test.YtjekpmkghpjamaaGreatDoorRows
import Derived.WalkKit
import Derived.OwnWalk
import Derived.Test.YtjekpmkghpjamaaGreatDoorMab
import Derived.Test.YtjekpmkghpjamaaGreatDoorMag
import Derived.Test.YtjekpmkghpjamaaGreatDoorMaf
import Derived.Test.YtjekpmkghpjamaaGreatDoorMaq
import Derived.Deep.CutRange
import Derived.Sort.Statements
namespace Go.Proofs.YtjekpmkghpjamaaGreatDoor
open Go.RowKit
theorem tx_add (l q : List UInt8) : tx l ++ tx q = tx (l ++ q) := by
  apply ByteArray.ext
  simp [tx, ByteArray.data_append]
theorem tx_list (l : List UInt8) : (tx l).data.toList = l := by simp [tx]
theorem tx_left (a b : List UInt8) : (tx (a ++ b)).extract 0 a.length = tx a := by
  apply ByteArray.ext
  simp [tx, ByteArray.data_extract]
theorem tx_right (a b : List UInt8) (n : Nat) (hn : n = a.length + b.length) : (tx (a ++ b)).extract a.length n = tx b := by
  subst hn
  rw [← tx_add]
  apply ByteArray.ext
  simp [tx, ByteArray.data_extract]
theorem ib_no : ∀ {l : List UInt8}, 47 ∉ l → Lib.indexByte l 47 = -1
  | [], _ => rfl
  | c :: l, h => by
    have h1 : (c == 47) = false := by rw [beq_eq_false_iff_ne]; exact fun e => h (by rw [e]; exact List.mem_cons_self)
    rw [Lib.indexByte, h1, if_neg (by simp), ib_no (fun e => h (List.mem_cons_of_mem _ e))]
    rfl
theorem ib_in : ∀ {a : List UInt8} (b : List UInt8), 47 ∉ a → Lib.indexByte (a ++ 47 :: b) 47 = a.length
  | [], b, _ => rfl
  | c :: a, b, h => by
    have h1 : (c == 47) = false := by rw [beq_eq_false_iff_ne]; exact fun e => h (by rw [e]; exact List.mem_cons_self)
    have ih := ib_in b (fun e => h (List.mem_cons_of_mem _ e))
    rw [List.cons_append, Lib.indexByte, h1, if_neg (by simp), ih]
    have h2 : (((a.length : Nat) : Int) == -1) = false := by rw [beq_eq_false_iff_ne]; omega
    rw [h2]
    simp
theorem ibyte_any (s : ByteArray) (c : Int) (w : World) :
    Calls Tryz.prog 166 #[.string s, .int .u8 c] w fun e w' => e = .returned (.int .i64 (Lib.indexByte s.data.toList c.toNat.toUInt8)) ∧ w' = w :=
  Any.stringslite_IndexByte byteLays s c w
set_option maxRecDepth 100000 in
theorem index_any (s : ByteArray) (w : World) :
    Calls Tryz.prog 115 #[.string s, .string ⟨#[47]⟩] w fun e w' => e = .returned (.int .i64 (Lib.indexByte s.data.toList 47)) ∧ w = w' := by
  have hw0 : IntKind.i64.wrap 0 = 0 := by decide
  have hz : ([47] == s.toList) = true → Lib.indexByte s.data.toList 47 = 0 := fun h => by
    rw [beq_iff_eq, Lib.toList_data] at h
    rw [← h]
    rfl
  obtain ⟨r, hr0⟩ : ∃ r, r = Lib.indexByte s.data.toList 47 := ⟨_, rfl⟩
  rw [← hr0] at hz ⊢
  have R0 := Lib.hid hr0
  clear hr0
  cases hb : ([47] == s.toList) with
  | true =>
    rw [hz hb]
    clear hz
    go_enter Tryz.func115, Tryz.ntmps115
    go_wp2
    go_ret
    exact ⟨rfl, rfl⟩
  | false =>
    clear hz
    go_enter Tryz.func115, Tryz.ntmps115
    go_wp2_with (go_at_call 166; (with_reducible refine (ibyte_any _ _ _).mono ?_); rintro e w' ⟨rfl, rfl⟩; generalize hr : Lib.indexByte _ _ = q; obtain rfl : q = r := by rw [← hr, R0.out]; rfl)
    go_ret
    exact ⟨rfl, rfl⟩
section
variable (P : World → Prop) (s p : ByteArray)
set_option maxRecDepth 100000 in
theorem scut_no (w : World) (IX : ∀ w, P w → Calls Tryz.prog 115 #[.string s, .string p] w fun e w' => e = .returned (.int .i64 (-1)) ∧ w = w') (hw : P w) :
    Calls Tryz.prog 77 #[.string s, .string p] w fun e w' => e = .returned (.tuple #[.string s, .string ⟨#[]⟩, .bool false]) ∧ Below w.heap.size w w' := by
  have IX := Lib.hid (IX w hw)
  have C : Calls Tryz.prog 131 #[.string s, .string p] w fun e w' => e = .returned (.tuple #[.string s, .string ⟨#[]⟩, .bool false]) ∧ w = w' := by
    go_enter Tryz.func131, Tryz.ntmps131
    go_wp2_with (go_at_call 115; (with_reducible refine (IX.out).mono ?_); rintro e w' ⟨rfl, rfl⟩)
    go_ret3
    exact ⟨rfl, rfl⟩
  have C := Lib.hid C
  go_enter Tryz.func77, Tryz.ntmps77
  go_wp2_with (go_at_call 131; (with_reducible refine (C.out).mono ?_); rintro e w' ⟨rfl, rfl⟩)
  go_ret3
  exact ⟨rfl, Below.refl _ _⟩
set_option maxRecDepth 100000 in
theorem scut_yes (w : World) (i : Nat) (IX : ∀ w, P w → Calls Tryz.prog 115 #[.string s, .string p] w fun e w' => e = .returned (.int .i64 (i : Int)) ∧ w = w') (hw : P w) (hi : i + p.size ≤ s.size) (hs : s.size ≤ 1000) :
    Calls Tryz.prog 77 #[.string s, .string p] w fun e w' => e = .returned (.tuple #[.string (s.extract 0 i), .string (s.extract (i + p.size) s.size), .bool true]) ∧ Below w.heap.size w w' := by
  have IX := Lib.hid (IX w hw)
  have c1 : (0 : Int) ≤ i := by omega
  have c2 : (i : Int) ≤ s.size := by omega
  have c3 : (0 : Int) ≤ (i : Int) + p.size := by omega
  have c4 : ((i : Int) + p.size : Int) ≤ s.size := by omega
  have C : Calls Tryz.prog 131 #[.string s, .string p] w fun e w' => e = .returned (.tuple #[.string (s.extract 0 i), .string (s.extract (i + p.size) s.size), .bool true]) ∧ Below w.heap.size w w' := by
    go_enter Tryz.func131, Tryz.ntmps131
    go_wp2_with (first | (go_at_call 115; (with_reducible refine (IX.out).mono ?_); rintro e w' ⟨rfl, rfl⟩) | fail)
    go_region
    go_wp2
    go_ret3
    exact ⟨rfl, (Below.refl _ _).drew⟩
  have C := Lib.hid C
  go_enter Tryz.func77, Tryz.ntmps77
  go_wp2_with (go_at_call 131; (with_reducible refine (C.out).mono ?_); rintro e w' ⟨rfl, hb⟩)
  go_ret3
  exact ⟨rfl, hb⟩
end
theorem cut_no {l : List UInt8} (w : World) (h : 47 ∉ l) :
    Calls Tryz.prog 77 #[.string (tx l), .string ⟨#[47]⟩] w fun e w' => e = .returned (.tuple #[.string (tx l), .string (tx []), .bool false]) ∧ Below w.heap.size w w' :=
  scut_no (fun _ => True) (tx l) ⟨#[47]⟩ w (fun w _ => by have h2 := index_any (tx l) w; rwa [tx_list, ib_no h] at h2) trivial
theorem cut_yes {a : List UInt8} (b : List UInt8) (w : World) (h : 47 ∉ a) (hl : a.length + b.length + 1 ≤ 1000) :
    Calls Tryz.prog 77 #[.string (tx (a ++ 47 :: b)), .string ⟨#[47]⟩] w fun e w' => e = .returned (.tuple #[.string (tx a), .string (tx b), .bool true]) ∧ Below w.heap.size w w' := by
  have hz : (tx (a ++ 47 :: b)).size = a.length + 1 + b.length := by rw [tx_size]; simp; omega
  have h1 := scut_yes (fun _ => True) (tx (a ++ 47 :: b)) ⟨#[47]⟩ w a.length (fun w _ => by have h2 := index_any (tx (a ++ 47 :: b)) w; rwa [tx_list, ib_in b h] at h2) trivial (by rw [hz]; show a.length + 1 ≤ _; omega) (by omega)
  have e1 := tx_left a (47 :: b)
  have e2 := tx_right (a ++ [47]) b (tx (a ++ 47 :: b)).size (by rw [hz]; simp)
  have e3 : (a ++ [47]) ++ b = a ++ 47 :: b := by simp
  have e4 : (a ++ [47]).length = a.length + (⟨#[47]⟩ : ByteArray).size := by rw [List.length_append]; rfl
  rw [e3, e4] at e2
  rwa [e1, e2] at h1
end Go.Proofs.YtjekpmkghpjamaaGreatDoor
namespace Go.Proofs.YtjekpmkghpjamaaGreatDoor
open Go.RowKit
theorem istring_run (s p : ByteArray) (m : Int) (w : World) (hm : w.cell? ⟨3, 0, none⟩ = some (.int .i64 m)) (h2 : 2 ≤ p.size) (hp : (p.size : Int) ≤ m) (hs : s.size < 4294967281) :
    (callFunc 167 #[.string s, .string p]).run Tryz.prog w = .ok (.value (.int .i64 (Lib.index s.data.toList p.data.toList))) w := by
  rw [run_callFunc_extern Tryz.func167 (by kernel_rfl) (by kernel_rfl) (by kernel_rfl) (e := Extern.BytealgIndex.index) (by kernel_rfl), Lib.run_indexString s p w 3 m (by kernel_rfl) hm h2 hp hs]
  rfl
set_option maxRecDepth 100000 in
set_option maxHeartbeats 4000000 in
theorem index0 (m : Int) (w : World) (hm : w.cell? ⟨3, 0, none⟩ = some (.int .i64 m)) :
    Calls Tryz.prog 115 #[.string (tx [47, 50, 47, 51]), .string (tx [47, 67])] w fun e w' => e = .returned (.int .i64 (-1)) ∧ w = w' := by
  have IS := istring_run (tx [47, 50, 47, 51]) (tx [47, 67]) m w hm
  rw [show Lib.index (tx [47, 50, 47, 51]).data.toList (tx [47, 67]).data.toList = -1 by decide +kernel] at IS
  have hw0 : IntKind.i64.wrap 0 = 0 := by decide
  unfold tx at IS ⊢
  by_cases h : 2 ≤ m
  · have IS := IS (by decide) h (by decide)
    go_enter Tryz.func115, Tryz.ntmps115
    go_wp2
    go_ret
    exact ⟨rfl, rfl⟩
  · clear IS
    have h2 : m < 2 := by omega
    go_enter Tryz.func115, Tryz.ntmps115
    go_wp2
    refine wp_loop_rounds 3 ?_
    rw [rounds_succ]
    go_wp2_with (go_at_call 166; (with_reducible refine (ibyte_any _ _ _).mono ?_); rintro e w' ⟨rfl, rfl⟩; generalize hr : Lib.indexByte _ _ = r; first | (have hr2 : r = 0 := by rw [← hr]; decide +kernel) | (have hr2 : r = 1 := by rw [← hr]; decide +kernel) | (have hr2 : r = 3 := by rw [← hr]; decide +kernel) | (have hr2 : r = -1 := by rw [← hr]; decide +kernel) | (have hr2 : r = 2 := by rw [← hr]; decide +kernel); subst hr2; clear hr)
    rw [rounds_succ]
    go_wp2_with (go_at_call 166; (with_reducible refine (ibyte_any _ _ _).mono ?_); rintro e w' ⟨rfl, rfl⟩; generalize hr : Lib.indexByte _ _ = r; first | (have hr2 : r = 0 := by rw [← hr]; decide +kernel) | (have hr2 : r = 1 := by rw [← hr]; decide +kernel) | (have hr2 : r = 3 := by rw [← hr]; decide +kernel) | (have hr2 : r = -1 := by rw [← hr]; decide +kernel) | (have hr2 : r = 2 := by rw [← hr]; decide +kernel); subst hr2; clear hr)
    rw [rounds_succ]
    go_wp2_with (go_at_call 166; (with_reducible refine (ibyte_any _ _ _).mono ?_); rintro e w' ⟨rfl, rfl⟩; generalize hr : Lib.indexByte _ _ = r; first | (have hr2 : r = 0 := by rw [← hr]; decide +kernel) | (have hr2 : r = 1 := by rw [← hr]; decide +kernel) | (have hr2 : r = 3 := by rw [← hr]; decide +kernel) | (have hr2 : r = -1 := by rw [← hr]; decide +kernel) | (have hr2 : r = 2 := by rw [← hr]; decide +kernel); subst hr2; clear hr)
    go_ret
    exact ⟨rfl, rfl⟩
set_option maxRecDepth 100000 in
set_option maxHeartbeats 4000000 in
theorem index5 (w : World) :
    Calls Tryz.prog 115 #[.string (tx [47, 50, 47, 51]), .string (tx [47])] w fun e w' => e = .returned (.int .i64 (0)) ∧ w = w' := by
  have hw0 : IntKind.i64.wrap 0 = 0 := by decide
  unfold tx
  go_enter Tryz.func115, Tryz.ntmps115
  go_wp2_with (go_at_call 166; (with_reducible refine (ibyte_any _ _ _).mono ?_); rintro e w' ⟨rfl, rfl⟩; generalize hr : Lib.indexByte _ _ = r; first | (have hr2 : r = 0 := by rw [← hr]; decide +kernel) | (have hr2 : r = 1 := by rw [← hr]; decide +kernel) | (have hr2 : r = 3 := by rw [← hr]; decide +kernel) | (have hr2 : r = -1 := by rw [← hr]; decide +kernel) | (have hr2 : r = 2 := by rw [← hr]; decide +kernel); subst hr2; clear hr)
  go_ret
  exact ⟨rfl, rfl⟩
set_option maxRecDepth 100000 in
set_option maxHeartbeats 4000000 in
theorem index6 (w : World) :
    Calls Tryz.prog 115 #[.string (tx [50, 47, 51]), .string (tx [47])] w fun e w' => e = .returned (.int .i64 (1)) ∧ w = w' := by
  have hw0 : IntKind.i64.wrap 0 = 0 := by decide
  unfold tx
  go_enter Tryz.func115, Tryz.ntmps115
  go_wp2_with (go_at_call 166; (with_reducible refine (ibyte_any _ _ _).mono ?_); rintro e w' ⟨rfl, rfl⟩; generalize hr : Lib.indexByte _ _ = r; first | (have hr2 : r = 0 := by rw [← hr]; decide +kernel) | (have hr2 : r = 1 := by rw [← hr]; decide +kernel) | (have hr2 : r = 3 := by rw [← hr]; decide +kernel) | (have hr2 : r = -1 := by rw [← hr]; decide +kernel) | (have hr2 : r = 2 := by rw [← hr]; decide +kernel); subst hr2; clear hr)
  go_ret
  exact ⟨rfl, rfl⟩
section
variable (P : World → Prop) (s p : ByteArray)
end
theorem cut0 (m : Int) (w : World) (hm : w.cell? ⟨3, 0, none⟩ = some (.int .i64 m)) :
    Calls Tryz.prog 77 #[.string (tx [47, 50, 47, 51]), .string (tx [47, 67])] w fun e w' => e = .returned (.tuple #[.string (tx [47, 50, 47, 51]), .string (tx []), .bool false]) ∧ Below w.heap.size w w' := by
  exact scut_no (fun w => w.cell? ⟨3, 0, none⟩ = some (.int .i64 m)) (tx [47, 50, 47, 51]) (tx [47, 67]) w (fun w h => index0 m w h) hm
theorem cut5 (w : World) :
    Calls Tryz.prog 77 #[.string (tx [47, 50, 47, 51]), .string (tx [47])] w fun e w' => e = .returned (.tuple #[.string (tx []), .string (tx [50, 47, 51]), .bool true]) ∧ Below w.heap.size w w' := by
  have h := scut_yes (fun _ => True) (tx [47, 50, 47, 51]) (tx [47]) w 0 (fun w _ => index5 w) trivial (by decide) (by decide)
  rwa [show (tx [47, 50, 47, 51]).extract 0 0 = tx [] from by decide +kernel, show (tx [47, 50, 47, 51]).extract (0 + (tx [47]).size) (tx [47, 50, 47, 51]).size = tx [50, 47, 51] from by decide +kernel] at h
theorem cut6 (w : World) :
    Calls Tryz.prog 77 #[.string (tx [50, 47, 51]), .string (tx [47])] w fun e w' => e = .returned (.tuple #[.string (tx [50]), .string (tx [51]), .bool true]) ∧ Below w.heap.size w w' := by
  have h := scut_yes (fun _ => True) (tx [50, 47, 51]) (tx [47]) w 1 (fun w _ => index6 w) trivial (by decide) (by decide)
  rwa [show (tx [50, 47, 51]).extract 0 1 = tx [50] from by decide +kernel, show (tx [50, 47, 51]).extract (1 + (tx [47]).size) (tx [50, 47, 51]).size = tx [51] from by decide +kernel] at h
end Go.Proofs.YtjekpmkghpjamaaGreatDoor
namespace Go.Proofs.YtjekpmkghpjamaaGreatDoor
open Go.RowKit
theorem fnHex_any (x y : Int) (w : World) (h1 : -4 ≤ x) (h2 : x ≤ 4) (h3 : -4 ≤ y) (h4 : y ≤ 4) : Calls Tryz.prog 126 #[.agg #[.int .i64 x, .int .i64 y]] w fun e w' => e = .returned (.bool (decide (ab (x - y) ≤ 1))) ∧ Below w.heap.size w w' := by
  have S := Lib.hid (fun w => size_any (x - y) w (by omega) (by omega))
  generalize ab (x - y) = s at S
  go_enter Tryz.func126, Tryz.ntmps126
  go_wp2_with (go_at_call 125; (with_reducible refine (S.out _).mono ?_); rintro e w' ⟨rfl, rfl⟩)
  go_ret
  exact ⟨rfl, (Below.refl _ _).alloc (Nat.le_refl _) _⟩
set_option maxRecDepth 100000 in
theorem fnNeumann_any (x y r : Int) (g : Nat) (t : TypeId) (w : World) (h1 : -4 ≤ x) (h2 : x ≤ 4) (h3 : -4 ≤ y) (h4 : y ≤ 4) (hg : Blk w g t #[.int .i64 r]) : Calls Tryz.prog 124 #[.agg #[.int .i64 x, .int .i64 y], .pointer (some ⟨g, 0, none⟩)] w fun e w' => e = .returned (.bool (decide (ab x + ab y ≤ r))) ∧ Below w.heap.size w w' := by
  have bx : 0 ≤ ab x ∧ ab x ≤ 4 := by unfold ab; omega
  have by_ : 0 ≤ ab y ∧ ab y ≤ 4 := by unfold ab; omega
  have S1 := Lib.hid (fun w => size_any x w (by omega) (by omega))
  have S2 := Lib.hid (fun w => size_any y w (by omega) (by omega))
  generalize ab x = s1 at S1 bx
  generalize ab y = s2 at S2 by_
  have c0 : (w.alloc (.cells #[.int .i64 x, .int .i64 y] 140)).cell? ⟨g, 0, none⟩ = some (.int .i64 r) := by rw [(hg.alloc _).cell]; rfl
  clear hg
  go_enter Tryz.func124, Tryz.ntmps124
  go_wp2_with fail
  go_quiet (first | (go_at_call 125; exact Calls.quiet_of_same ((S1.out _).mono fun _ _ h => ⟨h.1, h.2.symm⟩)) | (go_at_call 125; exact Calls.quiet_of_same ((S2.out _).mono fun _ _ h => ⟨h.1, h.2.symm⟩)))
  go_wp2
  go_ret
  exact ⟨rfl, below_drewN ((Below.refl _ _).alloc (Nat.le_refl _) _) _⟩
end Go.Proofs.YtjekpmkghpjamaaGreatDoor
namespace Go.Proofs.YtjekpmkghpjamaaGreatDoor
open Go.RowKit
def pdN (r : Int) (p : P2) : Bool := decide (ab p.1 + ab p.2 ≤ r)
def pdH (p : P2) : Bool := decide (ab (p.1 - p.2) ≤ 1)
def N1 : List P2 := (lst (sq 1 3) 9).filter (pdN 1)
def HX : List P2 := (lst (sq 1 3) 9).filter pdH
theorem len_M1 : M1.length = 9 := by decide +kernel
theorem len_N1 : N1.length = 5 := by decide +kernel
theorem len_HX : HX.length = 7 := by decide +kernel

theorem neumann_any (r : Int) (n N m : Nat) (w : World) (h1 : 0 ≤ r) (h2 : r ≤ 2) (hn : 2 * r + 1 = (n : Int)) (hN : n * n = N) (hm : ((lst (sq r n) N).filter (pdN r)).length = m) :
    Calls Tryz.prog 72 #[.int .i64 r] w fun e w' => ∃ A c, e = .returned (.slice A m c) ∧ QReads w' w'.heap.size A m (lf ((lst (sq r n) N).filter (pdN r))) ∧ Below w.heap.size w w' := by
  have K := Blk.new w 3 #[.int .i64 r]
  have HK := Lib.hid ((Below.refl w.heap.size w).alloc (Nat.le_refl _) (.cells #[.int .i64 r] 3))
  have c0 : (w.alloc (.cells #[.int .i64 r] 3)).cell? ⟨w.heap.size, 0, none⟩ = some (.int .i64 r) := by rw [K.cell]; rfl
  have C := Lib.hid (collect_any r n N 124 #[.pointer (some ⟨w.heap.size, 0, none⟩)] (pdN r) (w.alloc (.cells #[.int .i64 r] 3)) h1 h2 hn hN (enters_of Tryz.func124 (by kernel_rfl) rfl) (fun x y w1 a1 a2 a3 a4 hb => fnNeumann_any x y r w.heap.size 3 w1 a1 a2 a3 a4 (K.below hb K.lt)))
  subst hm
  clear hn hN K
  go_enter Tryz.func72, Tryz.ntmps72
  go_wp2_with (go_at_call 122; (with_reducible refine C.out.mono ?_); rintro e w' ⟨A, c, l, rfl, hl, hr, hb⟩; have R := Lib.hid (QReads.of_list hr); have HL := Lib.hid hl; have HB := Lib.hid (HK.out.trans (hb.mono HK.out.size)); clear hr hb hl)
  go_ret
  have hl := HL.out
  subst hl
  exact ⟨A, c, rfl, R.out, HB.out⟩
theorem hex_any (w : World) :
    Calls Tryz.prog 73 #[] w fun e w' => ∃ A c, e = .returned (.slice A 7 c) ∧ QReads w' w'.heap.size A 7 (lf HX) ∧ Below w.heap.size w w' := by
  have C := Lib.hid (collect_any 1 3 9 126 #[] pdH w (by omega) (by omega) (by omega) (by omega) (enters_of Tryz.func126 (by kernel_rfl) rfl) (fun x y w1 a1 a2 a3 a4 _ => fnHex_any x y w1 a1 a2 a3 a4))
  rw [← len_HX]
  go_enter Tryz.func73, Tryz.ntmps73
  go_wp2_with (go_at_call 122; (with_reducible refine C.out.mono ?_); rintro e w' ⟨A, c, l, rfl, hl, hr, hb⟩; have R := Lib.hid (QReads.of_list hr); have HL := Lib.hid (show l = HX from hl); have HB := Lib.hid hb; clear hr hb hl)
  go_ret
  have hl := HL.out
  subst hl
  exact ⟨A, c, rfl, R.out, HB.out⟩
theorem moore1 (w : World) : Calls Tryz.prog 71 #[.int .i64 1] w fun e w' => ∃ A c, e = .returned (.slice A 9 c) ∧ QReads w' w'.heap.size A 9 (lf M1) ∧ Below w.heap.size w w' := moore_any 1 3 9 9 w (by omega) (by omega) (by omega) (by omega) len_M1
theorem neumann1 (w : World) : Calls Tryz.prog 72 #[.int .i64 1] w fun e w' => ∃ A c, e = .returned (.slice A 5 c) ∧ QReads w' w'.heap.size A 5 (lf N1) ∧ Below w.heap.size w w' := neumann_any 1 3 9 5 w (by omega) (by omega) (by omega) (by omega) len_N1
end Go.Proofs.YtjekpmkghpjamaaGreatDoor
