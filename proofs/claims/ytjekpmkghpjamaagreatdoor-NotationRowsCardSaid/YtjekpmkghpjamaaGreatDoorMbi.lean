/- The walks of wolfram's Digits and of the reference's, at any numbers. -/
/- The bodies of strconv.Atoi and of what it calls lie in this program as the library's own contracts ask: facts that the kernel compares, and nothing else. -/
import Derived.Test.YtjekpmkghpjamaaGreatDoorMab
import Derived.Test.YtjekpmkghpjamaaGreatDoorMaa
import Derived.Test.YtjekpmkghpjamaaGreatDoorMad
import Derived.Below
import Derived.BigQuiet
import Derived.Deep.AppendLies
import Derived.Deep.Draws
import Derived.Deep.QuietTactic
import Derived.IntWalk
import Derived.Laws.OwnMore
import Derived.Laws.Rows
import Derived.Lib.Hide
import Derived.LoopN
import Derived.Shelf.Abstract
import Derived.StillTail
import Derived.StillTailTactics
import Derived.Test.YtjekpmkghpjamaaGreatDoorRows
import Derived.WalkKit
import Derived.Shelf.LaysC
namespace Go.Proofs.YtjekpmkghpjamaaGreatDoor
open Go.RowKit
/-- what is left of n behind k divisions -/
def qd (t n : Nat) : Nat → Nat
  | 0 => n
  | k + 1 => qd t n k / t
theorem qd_le (t n : Nat) : ∀ k, qd t n k ≤ n
  | 0 => Nat.le_refl _
  | k + 1 => Nat.le_trans (Nat.div_le_self _ _) (qd_le t n k)
/-- the lowest m digits -/
def digl (t n m : Nat) : List Int := (List.range m).map fun k => ((qd t n k % t : Nat) : Int)
theorem digl_succ (t n m : Nat) : digl t n (m + 1) = digl t n m ++ [((qd t n m % t : Nat) : Int)] := by simp [digl, List.range_succ]
/-- the error of Digits -/
def der (t n : Int) : Int := if ¬ (2 ≤ t ∧ t ≤ 8) then 2 else if n < 0 then 5 else if 0 < qd t.toNat n.toNat (3 * t.toNat - 2) then 5 else 0
theorem il_set (L : List Int) (j : Nat) (x : Int) : (il L).set j (.int .i64 x) = il (L.set j x) := by simp [il, List.map_set]
theorem take_set (L : List Int) (j : Nat) (x : Int) (h : j < L.length) : (L.set j x).take (j + 1) = L.take j ++ [x] := by
  rw [List.take_succ_eq_append_getElem (by simpa using h), List.getElem_set_self, List.take_set]
  congr 1
  apply List.set_eq_of_length_le
  rw [List.length_take]; omega

theorem possible_any (t : Int) (w : World) :
    Calls Tryz.prog 85 #[.int .i64 t] w fun e w' => e = .returned (.bool (decide (2 ≤ t ∧ t ≤ 8))) ∧ w = w' := by
  by_cases h1 : 2 ≤ t
  · by_cases h2 : t ≤ 8
    · rw [decide_eq_true ⟨h1, h2⟩]
      go_enter Tryz.func85, Tryz.ntmps85
      go_wp2
      go_ret
      exact ⟨rfl, rfl⟩
    · rw [decide_eq_false (fun h => h2 h.2)]
      go_enter Tryz.func85, Tryz.ntmps85
      go_wp2
      go_ret
      exact ⟨rfl, rfl⟩
  · rw [decide_eq_false (fun h => h1 h.1)]
    go_enter Tryz.func85, Tryz.ntmps85
    go_wp2
    go_ret
    exact ⟨rfl, rfl⟩
theorem sums_any (t : Nat) (w : World) (h1 : 2 ≤ t) (h2 : t ≤ 8) :
    Calls Tryz.prog 86 #[.int .i64 (t : Int)] w fun e w' => e = .returned (.int .i64 ((3 * t - 2 : Nat) : Int)) ∧ w = w' := by
  have e : ((3 * t - 2 : Nat) : Int) = 3 * (t : Int) - 2 := by omega
  rw [e]
  go_enter Tryz.func86, Tryz.ntmps86
  go_wp2
  go_ret
  exact ⟨rfl, rfl⟩
set_option maxRecDepth 100000 in
theorem digits_arg (t n : Int) (w : World) (h : ¬ (2 ≤ t ∧ t ≤ 8)) :
    Calls Tryz.prog 45 #[.int .i64 t, .int .i64 n] w fun e w' => e = .returned (.tuple #[.slice none 0 0, .int .i64 2]) ∧ w = w' := by
  have P := Lib.hid (possible_any t w)
  rw [decide_eq_false h] at P
  clear h
  go_enter Tryz.func45, Tryz.ntmps45
  go_wp2_with (go_at_call 85; (with_reducible refine P.out.mono ?_); rintro e w' ⟨rfl, rfl⟩)
  go_ret2
  exact ⟨rfl, rfl⟩
set_option maxRecDepth 100000 in
theorem digits_neg (t n : Int) (w : World) (h : 2 ≤ t ∧ t ≤ 8) (hn : n < 0) :
    Calls Tryz.prog 45 #[.int .i64 t, .int .i64 n] w fun e w' => e = .returned (.tuple #[.slice none 0 0, .int .i64 5]) ∧ w = w' := by
  have P := Lib.hid (possible_any t w)
  rw [decide_eq_true h] at P
  clear h
  go_enter Tryz.func45, Tryz.ntmps45
  go_wp2_with (go_at_call 85; (with_reducible refine P.out.mono ?_); rintro e w' ⟨rfl, rfl⟩)
  go_ret2
  exact ⟨rfl, rfl⟩
set_option maxRecDepth 100000 in
set_option maxHeartbeats 2000000 in
theorem digits_pos (t n m : Nat) (w : World) (h1 : 2 ≤ t) (h2 : t ≤ 8) (hm : m = 3 * t - 2) (hn : n ≤ 9223372036854775807) :
    Calls Tryz.prog 45 #[.int .i64 (t : Int), .int .i64 (n : Int)] w fun e w' => ∃ A k c, e = .returned (.tuple #[.slice A k c, .int .i64 (if 0 < qd t n m then 5 else 0)]) ∧ (qd t n m = 0 → Reads w' w'.heap.size A k (il (digl t n m))) ∧ Below w.heap.size w w' := by
  obtain ⟨r, hr⟩ : ∃ r : Int, r = if 0 < qd t n m then 5 else 0 := ⟨_, rfl⟩
  rw [← hr]
  have HR := Lib.hid hr
  clear hr
  have P := Lib.hid (possible_any (t : Int) w)
  rw [decide_eq_true (by omega)] at P
  have S := Lib.hid (sums_any t w h1 h2)
  rw [← hm] at S
  have hmb : m ≤ 22 := by omega
  have QL := Lib.hid (fun k => Nat.le_trans (qd_le t n k) hn)
  have QS := Lib.hid (fun k => show qd t n (k + 1) = qd t n k / t from rfl)
  have DS := Lib.hid (digl_succ t n)
  have Q0 := Lib.hid (show qd t n 0 = n from rfl)
  have D0 := Lib.hid (show digl t n 0 = [] from rfl)
  generalize digl t n = D at DS D0 ⊢
  generalize hq : qd t n = q at HR QL QS DS Q0 ⊢
  clear hq hm
  obtain ⟨i0, hi, hz0, hz1, hz2⟩ := info_parts Tryz.info_int
  go_enter Tryz.func45, Tryz.ntmps45
  go_wp2_with (first
    | (go_at_call 85; (with_reducible refine P.out.mono ?_); rintro e w' ⟨rfl, rfl⟩)
    | (go_at_call 86; (with_reducible refine S.out.mono ?_); rintro e w' ⟨rfl, rfl⟩)
    | (at_make; refine wpList_make_full _ rfl _ _ 36 rfl w.heap.size 3 i0 (.int .i64 0) 1 Tryz.underlying36 hi hz0 hz1 .i64 .i64 _ _ m rfl rfl rfl rfl (by rw [hz2]; omega) (by unfold maxLen; omega) (Nat.le_refl _) ?_; intro w1 hown1 hgrow1))
  have ht0 : ((t : Int) == 0) = false := by rw [beq_eq_false_iff_ne]; omega
  have ht1 : ((t : Int) == -1) = false := by rw [beq_eq_false_iff_ne]; omega
  go_loopw [1, 20] (fun nv jv wr => ∃ (j : Nat) (L : List Int), j ≤ m ∧ nv = .int .i64 (q j : Int) ∧ jv = .int .i64 (j : Int) ∧ L.length = m ∧ L.take j = D j ∧
      wr.ownsRow w.heap.size 3 1 (.slice (some ⟨w.heap.size, 0, none⟩) m m) m (il L) ∧ Below w.heap.size w wr) (fun _ jv _ => m - (intOf jv).toNat)
  case atStart =>
    refine ⟨0, List.replicate m 0, Nat.zero_le _, by rw [Q0.out], rfl, List.length_replicate, by rw [D0.out]; rfl, ?_, (Below.refl _ _).grown hgrow1 (Nat.le_refl _) (fun k hk => by cases hk)⟩
    have e : il (List.replicate m 0) = (madeCells (Value.int .i64 0).cells (m * 1)).toList := by
      rw [il, List.map_replicate]
      apply List.ext_getElem
      · simp [madeCells, Value.cells]
      · intro i h1 h2
        simp [madeCells, Value.cells, Nat.mod_one]
    rw [e]
    exact hown1
  case round =>
    obtain ⟨j, L, hj, rfl, rfl, hLl, hLt, hown, hbel⟩ := hrel
    have HLL := Lib.hid hLl
    have HLT := Lib.hid hLt
    have HB := Lib.hid hbel
    by_cases hjm : j < m
    · have hcell : wr.cell? ⟨w.heap.size, j, none⟩ = some (.int .i64 (ig L j)) := by
        rw [hown.cellAt j (by omega)]
        have hjl : j < L.length := by omega
        simp [il, ig, List.getD, hjl]
      have hfr : wr.frozen? ⟨w.heap.size, j, none⟩ = false := hown.frozenAt j
      have HO := Lib.hid hown
      have hql := QL.out j
      have hqs := QS.out j
      have hds := DS.out j
      clear hLl hLt hown hbel
      have hab := Nat.le_trans (Nat.div_le_self (q j) t) hql
      obtain ⟨a, ha⟩ : ∃ a, a = q j / t := ⟨_, rfl⟩
      obtain ⟨b, hb⟩ : ∃ b, b = q j % t := ⟨_, rfl⟩
      rw [← ha] at hqs hab
      rw [← hb] at hds
      have e1 : ((q j : Nat) : Int) / (t : Int) = (a : Int) := by rw [ha]; simp
      have e2 : ((q j : Nat) : Int) % (t : Int) = (b : Int) := by rw [hb]; simp
      have HQ := Lib.hid hqs
      have HD := Lib.hid hds
      clear hqs hds ha hb
      go_wp2
      go_roundw
      case rel =>
        refine ⟨j + 1, L.set j (b : Int), by omega, by rw [HQ.out], by go_num, by rw [List.length_set, HLL.out], by rw [take_set L j _ (by rw [HLL.out]; exact hjm), HLT.out, HD.out], ?_, Below.setCell HB.out (p := ⟨w.heap.size, j, none⟩) (Nat.le_refl _) _⟩
        have := (HO.out.stored j (.int .i64 (b : Int))).1
        rw [il_set] at this
        exact this
      case measure => simp [intOf]; omega
    · obtain rfl : j = m := by omega
      have hLd : L = D j := by rw [← hLt, ← hLl, List.take_length]
      by_cases hq : 0 < q j
      · have hr : r = 5 := by rw [HR.out, if_pos hq]
        subst hr
        have hq' : (0 : Int) < ((q j : Nat) : Int) := by omega
        have hq2 := Lib.hid (show q j ≠ 0 by omega)
        go_wp2
        go_ret2
        exact ⟨_, _, _, rfl, fun h => absurd h hq2.out, HB.out⟩
      · have hr : r = 0 := by rw [HR.out, if_neg hq]
        subst hr
        have hq2 : ((q j : Nat) : Int) = 0 := by omega
        have HF := Lib.hid (Reads.of_own hown)
        rw [hLd] at HF
        go_wp2
        go_ret2
        exact ⟨_, _, _, rfl, fun _ => HF.out, HB.out⟩
end Go.Proofs.YtjekpmkghpjamaaGreatDoor
namespace Go.Proofs.YtjekpmkghpjamaaGreatDoor
open Go.Shelf
def atoiRen : Go.Shelf.Ren := ⟨fun | 129 => 233 | 171 => 70 | 172 => 78 | 205 => 212 | 243 => 121 | 244 => 132 | 245 => 133 | 246 => 171 | 247 => 176 | 279 => 177 | 280 => 178 | 281 => 179 | 282 => 180 | 283 => 205 | 284 => 206 | 285 => 207 | 286 => 208 | 287 => 210 | 316 => 211 | 317 => 232 | 318 => 234 | 319 => 235 | 320 => 236 | 321 => 237 | 322 => 238 | 337 => 249 | 338 => 250 | _ => 0, fun | 0 => 0 | 2 => 2 | 3 => 3 | 4 => 4 | 5 => 5 | 9 => 9 | 20 => 20 | 21 => 21 | 37 => 57 | 46 => 59 | 51 => 246 | 53 => 250 | 75 => 125 | 76 => 126 | 80 => 218 | 85 => 227 | 127 => 245 | 143 => 286 | 145 => 288 | 167 => 226 | 168 => 229 | 171 => 249 | 173 => 253 | 175 => 255 | 210 => 259 | 212 => 282 | 213 => 283 | 232 => 307 | 233 => 308 | _ => 0, fun | 15 => 4 | 16 => 5 | 17 => 6 | 18 => 9 | 19 => 10 | _ => 0⟩
theorem atoiLays : LaysC.n172 Tryz.prog atoiRen := {
  mixed := by kernel_rfl
  f129 := Tryz.func233.trans (congrArg some (by kernel_rfl))
  f171 := Tryz.func70.trans (congrArg some (by kernel_rfl))
  f172 := Tryz.func78.trans (congrArg some (by kernel_rfl))
  f205 := Tryz.func212.trans (congrArg some (by kernel_rfl))
  f243 := Tryz.func121.trans (congrArg some (by kernel_rfl))
  f244 := Tryz.func132.trans (congrArg some (by kernel_rfl))
  f245 := Tryz.func133.trans (congrArg some (by kernel_rfl))
  f246 := Tryz.func171.trans (congrArg some (by kernel_rfl))
  f247 := Tryz.func176.trans (congrArg some (by kernel_rfl))
  f279 := Tryz.func177.trans (congrArg some (by kernel_rfl))
  f280 := Tryz.func178.trans (congrArg some (by kernel_rfl))
  f281 := Tryz.func179.trans (congrArg some (by kernel_rfl))
  f282 := Tryz.func180.trans (congrArg some (by kernel_rfl))
  f283 := Tryz.func205.trans (congrArg some (by kernel_rfl))
  f284 := Tryz.func206.trans (congrArg some (by kernel_rfl))
  f285 := Tryz.func207.trans (congrArg some (by kernel_rfl))
  f286 := Tryz.func208.trans (congrArg some (by kernel_rfl))
  f287 := Tryz.func210.trans (congrArg some (by kernel_rfl))
  f316 := Tryz.func211.trans (congrArg some (by kernel_rfl))
  f317 := Tryz.func232.trans (congrArg some (by kernel_rfl))
  f318 := Tryz.func234.trans (congrArg some (by kernel_rfl))
  f319 := Tryz.func235.trans (congrArg some (by kernel_rfl))
  f320 := Tryz.func236.trans (congrArg some (by kernel_rfl))
  f321 := Tryz.func237.trans (congrArg some (by kernel_rfl))
  f322 := Tryz.func238.trans (congrArg some (by kernel_rfl))
  f337 := Tryz.func249.trans (congrArg some (by kernel_rfl))
  f338 := Tryz.func250.trans (congrArg some (by kernel_rfl))
  t0 := Tryz.underlying0
  a0 := Tryz.isAgg0
  z0 := Tryz.sizeOf0
  v0 := Tryz.zeroValue0
  t2 := Tryz.underlying2
  a2 := Tryz.isAgg2
  z2 := Tryz.sizeOf2
  v2 := Tryz.zeroValue2
  t3 := Tryz.underlying3
  a3 := Tryz.isAgg3
  z3 := Tryz.sizeOf3
  v3 := Tryz.zeroValue3
  t4 := Tryz.underlying4
  a4 := Tryz.isAgg4
  z4 := Tryz.sizeOf4
  v4 := Tryz.zeroValue4
  t5 := Tryz.underlying5
  a5 := Tryz.isAgg5
  z5 := Tryz.sizeOf5
  v5 := Tryz.zeroValue5
  t9 := Tryz.underlying9
  a9 := Tryz.isAgg9
  z9 := Tryz.sizeOf9
  v9 := Tryz.zeroValue9
  t20 := Tryz.underlying20
  a20 := Tryz.isAgg20
  z20 := Tryz.sizeOf20
  v20 := Tryz.zeroValue20
  t21 := Tryz.underlying21
  a21 := Tryz.isAgg21
  z21 := Tryz.sizeOf21
  v21 := Tryz.zeroValue21
  t37 := Tryz.underlying57
  a37 := Tryz.isAgg57
  z37 := Tryz.sizeOf57
  v37 := Tryz.zeroValue57
  t46 := Tryz.underlying59
  a46 := Tryz.isAgg59
  z46 := Tryz.sizeOf59
  v46 := Tryz.zeroValue59
  t51 := Tryz.underlying246
  a51 := Tryz.isAgg246
  z51 := Tryz.sizeOf246
  v51 := Tryz.zeroValue246
  t53 := Tryz.underlying250
  a53 := Tryz.isAgg250
  z53 := Tryz.sizeOf250
  v53 := Tryz.zeroValue250
  t75 := Tryz.underlying125
  a75 := Tryz.isAgg125
  z75 := Tryz.sizeOf125
  v75 := Tryz.zeroValue125
  t76 := Tryz.underlying126
  a76 := Tryz.isAgg126
  z76 := Tryz.sizeOf126
  v76 := Tryz.zeroValue126
  t85 := Tryz.underlying227
  a85 := Tryz.isAgg227
  z85 := Tryz.sizeOf227
  v85 := Tryz.zeroValue227
  t127 := Tryz.underlying245
  a127 := Tryz.isAgg245
  z127 := Tryz.sizeOf245
  v127 := Tryz.zeroValue245
  t143 := Tryz.underlying286
  a143 := Tryz.isAgg286
  z143 := Tryz.sizeOf286
  v143 := Tryz.zeroValue286
  t145 := Tryz.underlying288
  a145 := Tryz.isAgg288
  z145 := Tryz.sizeOf288
  v145 := Tryz.zeroValue288
  t167 := Tryz.underlying226
  a167 := Tryz.isAgg226
  z167 := Tryz.sizeOf226
  v167 := Tryz.zeroValue226
  t168 := Tryz.underlying229
  a168 := Tryz.isAgg229
  z168 := Tryz.sizeOf229
  v168 := Tryz.zeroValue229
  t171 := Tryz.underlying249
  a171 := Tryz.isAgg249
  z171 := Tryz.sizeOf249
  v171 := Tryz.zeroValue249
  t173 := Tryz.underlying253
  a173 := Tryz.isAgg253
  z173 := Tryz.sizeOf253
  v173 := Tryz.zeroValue253
  t175 := Tryz.underlying255
  a175 := Tryz.isAgg255
  z175 := Tryz.sizeOf255
  v175 := Tryz.zeroValue255
  t210 := Tryz.underlying259
  a210 := Tryz.isAgg259
  z210 := Tryz.sizeOf259
  v210 := Tryz.zeroValue259
  t212 := Tryz.underlying282
  a212 := Tryz.isAgg282
  z212 := Tryz.sizeOf282
  v212 := Tryz.zeroValue282
  t213 := Tryz.underlying283
  a213 := Tryz.isAgg283
  z213 := Tryz.sizeOf283
  t232 := Tryz.underlying307
  a232 := Tryz.isAgg307
  z232 := Tryz.sizeOf307
  v232 := Tryz.zeroValue307
  t233 := Tryz.underlying308
  a233 := Tryz.isAgg308
  z233 := Tryz.sizeOf308
  v233 := Tryz.zeroValue308
  g15 := by kernel_rfl
  g16 := by kernel_rfl
  g17 := by kernel_rfl
  g18 := by kernel_rfl
  g19 := by kernel_rfl
  t80 := Tryz.underlying218
  a80 := Tryz.isAgg218
  z80 := Tryz.sizeOf218
  v80 := Tryz.zeroValue218
  i0 := by kernel_rfl
  i2 := by kernel_rfl
  i3 := by kernel_rfl
  i4 := by kernel_rfl
  i5 := by kernel_rfl
  i9 := by kernel_rfl
  i20 := by kernel_rfl
  i21 := by kernel_rfl
  i37 := by kernel_rfl
  i46 := by kernel_rfl
  i51 := by kernel_rfl
  i53 := by kernel_rfl
  i75 := by kernel_rfl
  i76 := by kernel_rfl
  i80 := by kernel_rfl
  i85 := by kernel_rfl
  i127 := by kernel_rfl
  i143 := by kernel_rfl
  i145 := by kernel_rfl
  i167 := by kernel_rfl
  i168 := by kernel_rfl
  i171 := by kernel_rfl
  i173 := by kernel_rfl
  i175 := by kernel_rfl
  i210 := by kernel_rfl
  i212 := by kernel_rfl
  i232 := by kernel_rfl
  i233 := by kernel_rfl
  m15 := by kernel_rfl
  m16 := by kernel_rfl
  m17 := by kernel_rfl
  m18 := by kernel_rfl
  m19 := by kernel_rfl
  c0 := by kernel_rfl
  c2 := by kernel_rfl
  c3 := by kernel_rfl
  c4 := by kernel_rfl
  c5 := by kernel_rfl
  c9 := by kernel_rfl
  c20 := by kernel_rfl
  c21 := by kernel_rfl
  c37 := by kernel_rfl
  c46 := by kernel_rfl
  c51 := by kernel_rfl
  c53 := by kernel_rfl
  c75 := by kernel_rfl
  c76 := by kernel_rfl
  c80 := by kernel_rfl
  c85 := by kernel_rfl
  c127 := by kernel_rfl
  c143 := by kernel_rfl
  c145 := by kernel_rfl
  c167 := by kernel_rfl
  c168 := by kernel_rfl
  c171 := by kernel_rfl
  c173 := by kernel_rfl
  c175 := by kernel_rfl
  c210 := by kernel_rfl
  c212 := by kernel_rfl
  c213 := by kernel_rfl
  c232 := by kernel_rfl
  c233 := by kernel_rfl
}
end Go.Proofs.YtjekpmkghpjamaaGreatDoor
