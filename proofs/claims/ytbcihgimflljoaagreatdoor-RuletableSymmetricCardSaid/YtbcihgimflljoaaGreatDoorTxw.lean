/- The walk of ruletable's Text at the table of one row. -/
import Derived.Test.YtbcihgimflljoaaGreatDoorTxu
import Derived.Deep.RegionHeldLaw
namespace Go.Proofs.YtbcihgimflljoaaGreatDoor
open Go.RowKit Go.Shelf

theorem add_at (a b c : List UInt8) (h : a ++ b = c) (hl : a.length + b.length ≤ 1000) (w : World) : (Op.stringOp .add (tx a) (tx b)).run Tryz.prog w = .ok (.string (tx c)) w := by
  have e : tx a ++ tx b = tx (a ++ b) := by
    apply ByteArray.ext
    rw [ByteArray.data_append]
    simp [tx]
  rw [← h, ← e]
  exact run_string_add_sum w _ _ (by rw [tx_size, tx_size]; omega)
/-- the text of the table of one row -/
def xt : List UInt8 := xs4 ++ [10]
def y1 : List UInt8 := er ++ [32]
def y2 : List UInt8 := y1 ++ [45, 62]
def y3 : List UInt8 := y2 ++ [32]
theorem one_tr {w : World} {A : Option Addr} {gI gR : Nat} (h : QReads w w.heap.size A 5 (lf N1)) (KI : Blk w gI 3 #[.int .i64 1, .int .i64 0, .int .i64 0, .int .i64 0, .int .i64 0]) (KR : Blk w gR 40 #[.slice (some ⟨gI, 0, none⟩) 5 5, .int .i64 1]) :
    TR w A none (some ⟨gR, 0, none⟩) T1 := by
  refine ⟨h, fun hn => absurd hn (Nat.lt_irrefl 0), fun _ => ⟨gR, 0, rfl, KR.lt, fun k hk => ?_⟩⟩
  have hk : k < 1 := hk
  obtain rfl : k = 0 := by omega
  refine ⟨some ⟨gI, 0, none⟩, 5, ?_, reads_cells (xs := il [1, 0, 0, 0, 0]) KI (fun j v hv => by rw [← List.getElem?_toArray] at hv; exact hv), ?_⟩
  · rw [KR.cell]; rfl
  · rw [KR.cell]; rfl
theorem itoa2 (w : World) : Calls Tryz.prog 44 #[.int .i64 2] w fun e w' => e = .returned (.string (tx [50])) ∧ Below w.heap.size w w' :=
  (itoa_small 2 (by omega) w).mono fun e w' ⟨he, hw⟩ => ⟨he, hw ▸ Below.refl _ _⟩
theorem elem1 (w : World) : Calls Tryz.prog 45 #[.int .i64 1] w fun e w' => e = .returned (.string (tx [49])) ∧ w = w' :=
  element_digit 1 (by omega) w
set_option maxRecDepth 100000 in
set_option maxHeartbeats 4000000 in
theorem text1 (m : Int) (u : TypeId) (x : Value) (A : Option Addr) (c gI gR : Nat) (w : World) (V : Vr m u x w) (h : QReads w w.heap.size A 5 (lf N1)) (KI : Blk w gI 3 #[.int .i64 1, .int .i64 0, .int .i64 0, .int .i64 0, .int .i64 0]) (KR : Blk w gR 40 #[.slice (some ⟨gI, 0, none⟩) 5 5, .int .i64 1]) :
    Calls Tryz.prog 21 #[.agg #[.int .i64 2, .int .i64 1, .slice A 5 c, .slice none 0 0, .slice (some ⟨gR, 0, none⟩) 1 1]] w fun e w' => e = .returned (.string (tx xt)) ∧ Below w.heap.size w w' := by
  obtain ⟨i0, hi, hz0, hz1, hz2⟩ := str_parts
  have HT := one_tr h KI KR
  have NM := fun w' (hb : Below w.heap.size w w') => Lib.hid (name_neumann m u x A c w' (V.later hb) (h.later hb))
  have RT := fun w' (hb : Below w.heap.size w w') => Lib.hid (show Calls Tryz.prog 5 #[.agg #[.int .i64 2, .int .i64 1, .slice A 5 c, .slice none 0 0, .slice (some ⟨gR, 0, none⟩) 1 1]] w' fun e w'' => e = .returned (.bool true) ∧ Below w'.heap.size w' w'' from by
    have := rt_any A c none 0 (some ⟨gR, 0, none⟩) 1 T1 w' (V.mat.below hb V.mat.1) (HT.later hb) t1_bd
    rw [t1_rt] at this
    exact this)
  have EL := fun w' (hb : Below w.heap.size w w') => Lib.hid (elems1 gI w' (KI.below hb KI.lt))
  have VS := Lib.hid (fun w' (hb : Below w.heap.size w w') => (show w'.cell? ⟨1, 1, none⟩ = some (.string (tx [114, 111, 116, 97, 116, 101])) from (V.later hb).sn 1 (by omega)))
  have KRH := Lib.hid KR
  have IT := fun w => Lib.hid (itoa2 w)
  have E1 := fun w => Lib.hid (elem1 w)
  have JN := Lib.hid (fun g c hc w hg h => join4 g c hc w hg h)
  have P1 : ∀ w : World, (Op.stringOp .add (⟨#[115, 116, 97, 116, 101, 115, 32]⟩ : ByteArray) (tx [50])).run Tryz.prog w = .ok (.string (tx x1)) w := fun w => add_at [115, 116, 97, 116, 101, 115, 32] [50] x1 rfl (by decide) w
  have P2 : ∀ w : World, (Op.stringOp .add (⟨#[104, 111, 111, 100, 32]⟩ : ByteArray) (tx [110, 101, 117, 109, 97, 110, 110])).run Tryz.prog w = .ok (.string (tx x2)) w := fun w => add_at [104, 111, 111, 100, 32] [110, 101, 117, 109, 97, 110, 110] x2 rfl (by decide) w
  have P3 : ∀ w : World, (Op.stringOp .add (⟨#[115, 121, 109, 109, 101, 116, 114, 121, 32]⟩ : ByteArray) (tx [114, 111, 116, 97, 116, 101])).run Tryz.prog w = .ok (.string (tx x3)) w := fun w => add_at [115, 121, 109, 109, 101, 116, 114, 121, 32] [114, 111, 116, 97, 116, 101] x3 rfl (by decide) w
  have P4 : ∀ w : World, (Op.stringOp .add (tx er) (⟨#[32]⟩ : ByteArray)).run Tryz.prog w = .ok (.string (tx y1)) w := fun w => add_at er [32] y1 rfl (by decide) w
  have P5 : ∀ w : World, (Op.stringOp .add (tx y1) (⟨#[45, 62]⟩ : ByteArray)).run Tryz.prog w = .ok (.string (tx y2)) w := fun w => add_at y1 [45, 62] y2 rfl (by decide) w
  have P6 : ∀ w : World, (Op.stringOp .add (tx y2) (⟨#[32]⟩ : ByteArray)).run Tryz.prog w = .ok (.string (tx y3)) w := fun w => add_at y2 [32] y3 rfl (by decide) w
  have P7 : ∀ w : World, (Op.stringOp .add (tx y3) (tx [49])).run Tryz.prog w = .ok (.string (tx x4)) w := fun w => add_at y3 [49] x4 rfl (by decide) w
  have P8 : ∀ w : World, (Op.stringOp .add (tx xs4) (⟨#[10]⟩ : ByteArray)).run Tryz.prog w = .ok (.string (tx xt)) w := fun w => add_at xs4 [10] xt rfl (by decide) w
  generalize tx [50] = s50 at IT P1
  generalize tx [49] = s49 at E1 P7
  generalize tx [110, 101, 117, 109, 97, 110, 110] = sne at NM P2
  generalize tx [114, 111, 116, 97, 116, 101] = sro at VS P3
  generalize tx x1 = sx1 at P1 JN
  generalize tx x2 = sx2 at P2 JN
  generalize tx x3 = sx3 at P3 JN
  generalize tx x4 = sx4 at P7 JN
  generalize tx er = ser at P4 EL
  generalize tx y1 = sy1 at P4 P5
  generalize tx y2 = sy2 at P5 P6
  generalize tx y3 = sy3 at P6 P7
  generalize tx xs4 = sx at P8 JN
  generalize tx xt = sxt at P8 ⊢
  have K0 := Blk.new w 26 #[.int .i64 2, .int .i64 1, .slice A 5 c, .slice none 0 0, .slice (some ⟨gR, 0, none⟩) 1 1]
  have B0 := (Below.refl w.heap.size w).alloc (Nat.le_refl _) (.cells #[.int .i64 2, .int .i64 1, .slice A 5 c, .slice none 0 0, .slice (some ⟨gR, 0, none⟩) 1 1] 26)
  clear V h KI KR HT
  go_enter Tryz.func21, Tryz.ntmps21
  go_wp2_with fail
  generalize w.alloc (.cells #[.int .i64 2, .int .i64 1, .slice A 5 c, .slice none 0 0, .slice (some ⟨gR, 0, none⟩) 1 1] 26) = w0 at K0 B0 ⊢
  obtain ⟨t0, t1, t2, t3, t4, t5⟩ := K0.five
  have K0 := Lib.hid K0
  have B0 := Lib.hid B0
  go_wp2_with (first
    | (go_at_call 5; (with_reducible refine (RT _ B1.out).out.mono ?_); rintro e w2 ⟨rfl, hb⟩; have B2 := Lib.hid (B1.out.trans (hb.mono B1.out.size)); have K2 := Lib.hid (K1.out.below hb K1.out.lt); clear hb)
    | (go_at_call 43; (with_reducible refine (NM _ B0.out).out.mono ?_); rintro e w1 ⟨rfl, hb⟩; have B1 := Lib.hid (B0.out.trans (hb.mono B0.out.size)); have K1 := Lib.hid (K0.out.below hb K0.out.lt); obtain ⟨a0, a1, a2, a3, a4, a5⟩ := K1.out.five; clear hb))
  clear t0 t1 t2 t3 t4 t5 a0 a1 a2 a3 a4 a5
  have vs2 := VS.out _ B2.out
  have vb2 := World.block_lt_of_cell? w2 _ vs2
  have q0 := fun p : LowW w2.heap.size w2 => (K2.out.below p.below K2.out.lt).five.1
  have q1 := fun p : LowW w2.heap.size w2 => (K2.out.below p.below K2.out.lt).five.2.1
  have qs := fun p : LowW w2.heap.size w2 => (p.below.cell (p := ⟨1, 1, none⟩) vb2).trans vs2
  refine wp_region_low_tail w2.heap.size w2 11 (by kernel_rfl) (by kernel_rfl) (Below.refl _ _) ?_
  repeat (quiet_step (first | (go_at_call 44; with_reducible exact LowW.of_call _ (Nat.le_refl _) (IT _).out)))
  refine wpQuiet_nil ?_
  rintro w3 ⟨p, rfl⟩
  have B3 := Lib.hid (B2.out.trans (p.below.mono B2.out.size))
  have K3 := Lib.hid (K2.out.below p.below K2.out.lt)
  clear q0 q1 qs vs2 vb2
  generalize p.w = w3 at B3 K3 ⊢
  have O4 := Lib.hid (World.ownsRow_lit (base := w3.heap.size) (e := 9) (size := 1) w3 #[.string sx1, .string sx2, .string sx3] 3 (Nat.le_refl _) (by unfold maxLen; omega) (by rfl))
  have B4 := Lib.hid (B3.out.alloc B3.out.size (.cells #[.string sx1, .string sx2, .string sx3] 9))
  have K4 := Lib.hid (K3.out.alloc (.cells #[.string sx1, .string sx2, .string sx3] 9))
  go_upto_region 5 with (fail)
  obtain ⟨g4, hg4⟩ : ∃ g4, g4 = w3.heap.size := ⟨_, rfl⟩
  have hlo := B3.out.size
  rw [← hg4] at O4 hlo ⊢
  generalize w3.alloc (.cells #[.string sx1, .string sx2, .string sx3] 9) = w4 at O4 B4 K4 ⊢
  clear B3 K3 hg4
  obtain ⟨t0, t1, t2, t3, t4, t5⟩ := K4.out.five
  go_wp2_with fail
  refine wp_loop_rounds 1 ?_
  rw [rounds_succ]
  go_wp2_with fail
  refine wp_loop_rounds 2 ?_
  rw [rounds_succ]
  have KR4 := Lib.hid (KRH.out.below B4.out KRH.out.lt)
  obtain ⟨r0, r1, r2⟩ := KR4.out.two
  have R5 := Blk.new w4 40 #[.slice (some ⟨gI, 0, none⟩) 5 5, .int .i64 1]
  have B5 := Lib.hid (B4.out.alloc B4.out.size (.cells #[.slice (some ⟨gI, 0, none⟩) 5 5, .int .i64 1] 40))
  have O5 := Lib.hid (O4.out.alloc (.cells #[.slice (some ⟨gI, 0, none⟩) 5 5, .int .i64 1] 40))
  go_wp2_with fail
  obtain ⟨gr, hgr⟩ : ∃ gr, gr = w4.heap.size := ⟨_, rfl⟩
  have hgl := B4.out.size
  have hne : g4 < gr := by
    rcases O4.out.2 with ⟨h1, _⟩ | ⟨g', cap, cur, h1, hb', hgg, _⟩
    · cases h1
    · have h9 := (Array.getElem?_eq_some_iff.1 hgg).1
      injection h1 with h2 _ _
      injection h2 with h2
      injection h2 with h2
      omega
  rw [← hgr] at R5 ⊢
  clear hgr
  clear r0 r1 r2 t0 t1 t2 t3 t4 t5
  have R5 := Lib.hid R5
  generalize w4.alloc (.cells #[.slice (some ⟨gI, 0, none⟩) 5 5, .int .i64 1] 40) = w5 at R5 B5 O5 ⊢
  have R5L := R5.out.lt
  have KP := Lib.hid (show ∀ w', Below w5.heap.size w5 w' → w'.cell? ⟨gr, 0, none⟩ = some (.slice (some ⟨gI, 0, none⟩) 5 5) ∧ w'.cell? ⟨gr, 1, none⟩ = some (.int .i64 1) from fun w' hb => ⟨(R5.out.below hb R5.out.lt).two.1, (R5.out.below hb R5.out.lt).two.2.1⟩)
  have EL2 := Lib.hid (fun w' (hb : Below w5.heap.size w5 w') => (EL w' (B5.out.trans (hb.mono B5.out.size))).out.mono (R' := fun e w'' => e = .returned (.string ser) ∧ Below w5.heap.size w5 w'') fun e w'' ⟨he, hb2⟩ => ⟨he, hb.trans (hb2.mono hb.size)⟩)
  go_region_held_law (fun w' => w'.cell? ⟨gr, 0, none⟩ = some (.slice (some ⟨gI, 0, none⟩) 5 5) ∧ w'.cell? ⟨gr, 1, none⟩ = some (.int .i64 1))
    (first | (refine KP.out _ ?_; (with_reducible (repeat (first | assumption | exact Below.refl _ _ | refine Below.drew' ?_ | refine Below.alloc' ?_ _))); done) | assumption | go_keep)
    (first
    | (refine step_append_lies _ (by rfl) _ _ _ (by rfl) g4 9 i0 (.string ByteArray.empty) 1 16 Tryz.underlying71 hi hz0 hz1 hz2 rfl (by decide) (.slice (some ⟨g4, 0, none⟩) 3 3) 3 [.string sx1, .string sx2, .string sx3] (by rfl) (O6.out.alloc _) ⟨wa.heap.size, 0, none⟩ 1 1 [.string sx4] (by rfl) (by rfl) (World.news_of_block (cs := #[.string sx4]) (t := 9) (fr := (0, 0)) (heap_alloc_new wa _)) (by simp [Value.oneCell']) (by omega) (by unfold maxLen; omega) (by omega) (by simp; omega) (wa.heap.size + 1) (by simp) ?_; intro g7 d7 w7 hown7 hgrow7 hat7 hlt7; have S7 : w7.cell? ⟨gr, 0, none⟩ = some (.slice (some ⟨gI, 0, none⟩) 5 5) ∧ w7.cell? ⟨gr, 1, none⟩ = some (.int .i64 1) := ⟨((show Blk w7 gr _ _ from (hgrow7.block gr (by simp; omega) (fun e => by simp [Value.ownBlock] at e; omega)).trans (R6.out.alloc _)).two).1, ((show Blk w7 gr _ _ from (hgrow7.block gr (by simp; omega) (fun e => by simp [Value.ownBlock] at e; omega)).trans (R6.out.alloc _)).two).2.1⟩)
    | (go_at_call 46; (with_reducible refine (EL2.out _ ?_).mono ?_); (with_reducible (repeat (first | assumption | exact Below.refl _ _ | refine Below.drew' ?_ | refine Below.alloc' ?_ _))); rintro e wa ⟨rfl, ha⟩; have O6 := Lib.hid (own_below O5.out ha); have hl6 := ha.size; have R6 := Lib.hid (R5.out.below ha R5.out.lt))
    | (go_at_call 45; (with_reducible refine (E1 _).out.mono ?_); rintro e wz ⟨rfl, rfl⟩))
  have B7 := Lib.hid (((B5.out.trans (ha.mono B5.out.size)).alloc (Nat.le_trans B5.out.size ha.size) (.cells #[.string sx4] 9)).grown hgrow7 (by have := B5.out.size; simp; omega) (fun k hk => by cases hk; omega))
  obtain ⟨uu, hu, hub, hux⟩ := own_blk hown7
  have hcap : 4 ≤ d7 := by
    rcases hown7.2 with ⟨h1, _⟩ | ⟨g', cap, cur, h1, hb', hgg, hle, _⟩
    · cases h1
    · injection h1 with _ _ h4
      subst h4
      omega
  have J := Lib.hid (JN.out g7 d7 hcap w7 hu.lt (fun j v hj => by rw [hu.cell]; exact hux j v (by simpa using hj)))
  clear hu hux hgrow7 hown7 S7 hat7 hlt7 ha O6 R6
  go_wp2_with fail
  rw [rounds_succ]
  go_wp2_with (go_at_call 47; (with_reducible refine J.out.mono ?_); rintro e w9 ⟨rfl, hb⟩; have B9 := Lib.hid (B7.out.trans (hb.mono B7.out.size)); clear hb)
  go_ret
  exact ⟨rfl, B9.out⟩
end Go.Proofs.YtbcihgimflljoaaGreatDoor
