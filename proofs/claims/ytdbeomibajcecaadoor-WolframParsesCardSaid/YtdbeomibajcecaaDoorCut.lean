/- The walks of Index and Cut at a slash, on any text. -/
import Derived.Test.YtdbeomibajcecaaDoorLays
import Derived.Test.YtdbeomibajcecaaDoorNum
import Derived.Shelf.Strings.Search1
import Derived.Lib.IndexEntry
import Derived.Laws.Externs
import Derived.Laws.ShiftsVar
namespace Go.Proofs.YtdbeomibajcecaaDoor
open Go.RowKit

theorem tx_add (l q : List UInt8) : tx l ++ tx q = tx (l ++ q) := by
  apply ByteArray.ext
  simp [tx, ByteArray.data_append]
theorem tx_list (l : List UInt8) : (tx l).data.toList = l := by simp [tx]
theorem tx_left (a b : List UInt8) : (tx (a ++ b)).extract 0 a.length = tx a := by
  apply ByteArray.ext
  simp [tx, ByteArray.data_extract]
theorem tx_right (a b : List UInt8) (n : Nat) (hn : n = a.length + b.length) : (tx (a ++ b)).extract a.length n = tx b := by
  subst hn
  rw [← tx_add]
  apply ByteArray.ext
  simp [tx, ByteArray.data_extract]
theorem ib_no : ∀ {l : List UInt8}, 47 ∉ l → Lib.indexByte l 47 = -1
  | [], _ => rfl
  | c :: l, h => by
    have h1 : (c == 47) = false := by rw [beq_eq_false_iff_ne]; exact fun e => h (by rw [e]; exact List.mem_cons_self)
    rw [Lib.indexByte, h1, if_neg (by simp), ib_no (fun e => h (List.mem_cons_of_mem _ e))]
    rfl
theorem ib_in : ∀ {a : List UInt8} (b : List UInt8), 47 ∉ a → Lib.indexByte (a ++ 47 :: b) 47 = a.length
  | [], b, _ => rfl
  | c :: a, b, h => by
    have h1 : (c == 47) = false := by rw [beq_eq_false_iff_ne]; exact fun e => h (by rw [e]; exact List.mem_cons_self)
    have ih := ib_in b (fun e => h (List.mem_cons_of_mem _ e))
    rw [List.cons_append, Lib.indexByte, h1, if_neg (by simp), ih]
    have h2 : (((a.length : Nat) : Int) == -1) = false := by rw [beq_eq_false_iff_ne]; omega
    rw [h2]
    simp
theorem ibyte_any (s : ByteArray) (c : Int) (w : World) :
    Calls Tryd.prog 52 #[.string s, .int .u8 c] w fun e w' => e = .returned (.int .i64 (Lib.indexByte s.data.toList c.toNat.toUInt8)) ∧ w' = w :=
  Any.stringslite_IndexByte byteLays s c w
set_option maxRecDepth 100000 in
theorem index_any (s : ByteArray) (w : World) :
    Calls Tryd.prog 39 #[.string s, .string ⟨#[47]⟩] w fun e w' => e = .returned (.int .i64 (Lib.indexByte s.data.toList 47)) ∧ w = w' := by
  have hw0 : IntKind.i64.wrap 0 = 0 := by decide
  have hz : ([47] == s.toList) = true → Lib.indexByte s.data.toList 47 = 0 := fun h => by
    rw [beq_iff_eq, Lib.toList_data] at h
    rw [← h]
    rfl
  obtain ⟨r, hr0⟩ : ∃ r, r = Lib.indexByte s.data.toList 47 := ⟨_, rfl⟩
  rw [← hr0] at hz ⊢
  have R0 := Lib.hid hr0
  clear hr0
  cases hb : ([47] == s.toList) with
  | true =>
    rw [hz hb]
    clear hz
    go_enter Tryd.func39, Tryd.ntmps39
    go_wp2
    go_ret
    exact ⟨rfl, rfl⟩
  | false =>
    clear hz
    go_enter Tryd.func39, Tryd.ntmps39
    go_wp2_with (go_at_call 52; (with_reducible refine (ibyte_any _ _ _).mono ?_); rintro e w' ⟨rfl, rfl⟩; generalize hr : Lib.indexByte _ _ = q; obtain rfl : q = r := by rw [← hr, R0.out]; rfl)
    go_ret
    exact ⟨rfl, rfl⟩
section
variable (P : World → Prop) (s p : ByteArray)
set_option maxRecDepth 100000 in
theorem scut_no (w : World) (IX : ∀ w, P w → Calls Tryd.prog 39 #[.string s, .string p] w fun e w' => e = .returned (.int .i64 (-1)) ∧ w = w') (hw : P w) :
    Calls Tryd.prog 24 #[.string s, .string p] w fun e w' => e = .returned (.tuple #[.string s, .string ⟨#[]⟩, .bool false]) ∧ Below w.heap.size w w' := by
  have IX := Lib.hid (IX w hw)
  have C : Calls Tryd.prog 30 #[.string s, .string p] w fun e w' => e = .returned (.tuple #[.string s, .string ⟨#[]⟩, .bool false]) ∧ w = w' := by
    go_enter Tryd.func30, Tryd.ntmps30
    go_wp2_with (go_at_call 39; (with_reducible refine (IX.out).mono ?_); rintro e w' ⟨rfl, rfl⟩)
    go_ret3
    exact ⟨rfl, rfl⟩
  have C := Lib.hid C
  go_enter Tryd.func24, Tryd.ntmps24
  go_wp2_with (go_at_call 30; (with_reducible refine (C.out).mono ?_); rintro e w' ⟨rfl, rfl⟩)
  go_ret3
  exact ⟨rfl, Below.refl _ _⟩
set_option maxRecDepth 100000 in
theorem scut_yes (w : World) (i : Nat) (IX : ∀ w, P w → Calls Tryd.prog 39 #[.string s, .string p] w fun e w' => e = .returned (.int .i64 (i : Int)) ∧ w = w') (hw : P w) (hi : i + p.size ≤ s.size) (hs : s.size ≤ 1000) :
    Calls Tryd.prog 24 #[.string s, .string p] w fun e w' => e = .returned (.tuple #[.string (s.extract 0 i), .string (s.extract (i + p.size) s.size), .bool true]) ∧ Below w.heap.size w w' := by
  have IX := Lib.hid (IX w hw)
  have c1 : (0 : Int) ≤ i := by omega
  have c2 : (i : Int) ≤ s.size := by omega
  have c3 : (0 : Int) ≤ (i : Int) + p.size := by omega
  have c4 : ((i : Int) + p.size : Int) ≤ s.size := by omega
  have C : Calls Tryd.prog 30 #[.string s, .string p] w fun e w' => e = .returned (.tuple #[.string (s.extract 0 i), .string (s.extract (i + p.size) s.size), .bool true]) ∧ Below w.heap.size w w' := by
    go_enter Tryd.func30, Tryd.ntmps30
    go_wp2_with (first | (go_at_call 39; (with_reducible refine (IX.out).mono ?_); rintro e w' ⟨rfl, rfl⟩) | fail)
    go_region
    go_wp2
    go_ret3
    exact ⟨rfl, (Below.refl _ _).drew⟩
  have C := Lib.hid C
  go_enter Tryd.func24, Tryd.ntmps24
  go_wp2_with (go_at_call 30; (with_reducible refine (C.out).mono ?_); rintro e w' ⟨rfl, hb⟩)
  go_ret3
  exact ⟨rfl, hb⟩
end
theorem cut_no {l : List UInt8} (w : World) (h : 47 ∉ l) :
    Calls Tryd.prog 24 #[.string (tx l), .string ⟨#[47]⟩] w fun e w' => e = .returned (.tuple #[.string (tx l), .string (tx []), .bool false]) ∧ Below w.heap.size w w' :=
  scut_no (fun _ => True) (tx l) ⟨#[47]⟩ w (fun w _ => by have h2 := index_any (tx l) w; rwa [tx_list, ib_no h] at h2) trivial
theorem cut_yes {a : List UInt8} (b : List UInt8) (w : World) (h : 47 ∉ a) (hl : a.length + b.length + 1 ≤ 1000) :
    Calls Tryd.prog 24 #[.string (tx (a ++ 47 :: b)), .string ⟨#[47]⟩] w fun e w' => e = .returned (.tuple #[.string (tx a), .string (tx b), .bool true]) ∧ Below w.heap.size w w' := by
  have hz : (tx (a ++ 47 :: b)).size = a.length + 1 + b.length := by rw [tx_size]; simp; omega
  have h1 := scut_yes (fun _ => True) (tx (a ++ 47 :: b)) ⟨#[47]⟩ w a.length (fun w _ => by have h2 := index_any (tx (a ++ 47 :: b)) w; rwa [tx_list, ib_in b h] at h2) trivial (by rw [hz]; show a.length + 1 ≤ _; omega) (by omega)
  have e1 := tx_left a (47 :: b)
  have e2 := tx_right (a ++ [47]) b (tx (a ++ 47 :: b)).size (by rw [hz]; simp)
  have e3 : (a ++ [47]) ++ b = a ++ 47 :: b := by simp
  have e4 : (a ++ [47]).length = a.length + (⟨#[47]⟩ : ByteArray).size := by rw [List.length_append]; rfl
  rw [e3, e4] at e2
  rwa [e1, e2] at h1
end Go.Proofs.YtdbeomibajcecaaDoor
