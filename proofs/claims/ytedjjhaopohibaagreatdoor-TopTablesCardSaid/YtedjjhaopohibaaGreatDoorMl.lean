/- The walk of nodesOf. -/
/- The tree that collect lays. -/
import Derived.Test.YtedjjhaopohibaaGreatDoorMk
import Derived.Carry
import Derived.Test.YtedjjhaopohibaaGreatDoorMd
namespace Go.Proofs.YtedjjhaopohibaaGreatDoor
open Go.RowKit

/-- a list of finished nodes, all of it at base or behind -/
def NL (w : World) (base : Nat) (A : Option Addr) (c : Nat) (out : List (Int × List Int)) : Prop :=
  ∃ xs, w.ownsRow base 81 2 (.slice A out.length c) out.length xs ∧ Inn w (fun k => k < base) xs out.length (lvO out) (nxO out)
theorem NL.nr {w : World} {base : Nat} {A : Option Addr} {c : Nat} {out : List (Int × List Int)} (h : NL w base A c out) : NR w w.heap.size A out.length (lvO out) (nxO out) := fun hj => by
  obtain ⟨xs, h1, h2⟩ := h
  obtain ⟨g, cap, hv1, _, _⟩ := h1.form hj
  injection hv1 with hv1 hv2 hv3
  subst hv1 hv3
  exact NR.of_own h1 h2 hj
theorem NL.keep {w w' : World} {base : Nat} {A : Option Addr} {c : Nat} {out : List (Int × List Int)} {H H' : Nat → Prop} (h : NL w base A c out) (hf : Fr H w H' w') (hd : ∀ k, H k → k < base) : NL w' base A c out := by
  obtain ⟨xs, h1, h2⟩ := h
  exact ⟨xs, hf.row h1 (fun g hg hH => by have := (h1.lt g hg).1; have := hd g hH; omega), h2.far hf.size (fun k hk hn => hf.block k hk (fun hH => hn (hd k hH))) (fun k _ hk => hk)⟩
theorem run_store_fn {P : Program} {w : World} {a : Addr} {m : Mode} (f : Fn) (ts cb : Array Value) : (store a (.func f ts cb) m).run P w = stored P w a (.func f ts cb) m := run_store P w a _ m rfl
attribute [local go_sem] run_store_fn
/-- what nodesOf promises: the nodes of a tree that leads to the bytes of a text -/
def NdsOut (S n : Nat) (f : List Int → Int) (w : World) (e : Ending) (w' : World) : Prop :=
  ∃ A c out, e = .returned (.slice A out.length c) ∧ NL w' w.heap.size A c out ∧ Gd S n out ∧ 1 ≤ out.length ∧ Mn S out n f ((out.length : Int) - 1) ∧ out.length ≤ 1000000 ∧ Below w.heap.size w w'
def visV (xm xs xv xn : Nat) : Value := .func (.func 54) #[] #[.pointer (some ⟨xm, 0, none⟩), .pointer (some ⟨xs, 0, none⟩), .pointer (some ⟨xv, 0, none⟩), .pointer (some ⟨xn, 0, none⟩)]
set_option maxRecDepth 100000 in
set_option maxHeartbeats 2000000 in
theorem nodesOf_any (S n : Nat) (rest : ByteArray) (w : World) (hs1 : 2 ≤ S) (hs2 : S ≤ 8) (hn : 1 ≤ n) (hn2 : n ≤ 1000) (hp : S ^ n ≤ 65536) (hz : rest.size = S ^ n) (hb : ∀ k, k < rest.size → byt rest k < S) :
    Calls Tryz.prog 33 #[.int .i64 (S : Int), .int .i64 (n : Int), .string rest] w (NdsOut S n (fun p => byt rest (nm S p)) w) := by
  obtain ⟨l, hl⟩ : ∃ l, n = l + 1 := ⟨n - 1, by omega⟩
  obtain ⟨w4, hw4⟩ : ∃ w4, w4 = (((w.alloc (.cells #[.int .i64 (S : Int)] 3)).alloc (.cells #[.slice none 0 0] 29)).alloc (.map #[] 0)).alloc (.cells #[.map (some (w.heap.size + 1 + 1))] 102) := ⟨_, rfl⟩
  have hs4 : w4.heap.size = w.heap.size + 1 + 1 + 1 + 1 := by rw [hw4]; simp
  have c5 := (Blk.new w4 103 #[.nilFunc]).one
  rw [hs4, hw4] at c5
  obtain ⟨c50, c51, c52⟩ := c5
  have K1 := Blk.new w 3 #[.int .i64 (S : Int)]
  have K2 := Blk.new (w.alloc (.cells #[.int .i64 (S : Int)] 3)) 29 #[.slice none 0 0]
  have K3 := MapOf.new Tryz.prog ((w.alloc (.cells #[.int .i64 (S : Int)] 3)).alloc (.cells #[.slice none 0 0] 29)) 9 (α := ByteArray) (β := Int) Value.string (fun x => .int .i64 x)
  have K4 := Blk.new (((w.alloc (.cells #[.int .i64 (S : Int)] 3)).alloc (.cells #[.slice none 0 0] 29)).alloc (.map #[] 0)) 102 #[.map (some (w.heap.size + 1 + 1))]
  have K5 := Blk.new w4 103 #[visV (w.heap.size + 1 + 1 + 1) w.heap.size (w.heap.size + 1 + 1 + 1 + 1) (w.heap.size + 1)]
  have B5 : Below w.heap.size w (w4.alloc (.cells #[visV (w.heap.size + 1 + 1 + 1) w.heap.size (w.heap.size + 1 + 1 + 1 + 1) (w.heap.size + 1)] 103)) := by
    rw [hw4]
    exact (((((Below.refl _ _).alloc (Nat.le_refl _) _).alloc (by simp) _).alloc (by simp; omega) _).alloc (by simp; omega) _).alloc (by simp; omega) _
  simp only [World.size_alloc] at K2 K3 K4
  rw [hs4] at K5
  have hW : Wst S (w.heap.size + 1 + 1 + 1) w.heap.size (w.heap.size + 1 + 1 + 1 + 1) (w.heap.size + 1) (w.heap.size + 1 + 1) w.heap.size (visV (w.heap.size + 1 + 1 + 1) w.heap.size (w.heap.size + 1 + 1 + 1 + 1) (w.heap.size + 1))
      (w4.alloc (.cells #[visV (w.heap.size + 1 + 1 + 1) w.heap.size (w.heap.size + 1 + 1 + 1 + 1) (w.heap.size + 1)] 103)) (fun k => k = w.heap.size + 1 ∨ k = w.heap.size + 1 + 1) (fun k => k < w.heap.size + 5) [] (fun _ => none) := by
    have hsz : (w4.alloc (.cells #[visV (w.heap.size + 1 + 1 + 1) w.heap.size (w.heap.size + 1 + 1 + 1 + 1) (w.heap.size + 1)] 103)).heap.size = w.heap.size + 5 := by rw [World.size_alloc, hs4]
    refine ⟨?_, ?_, K5, ⟨fun h => by rcases h with h | h <;> omega, fun h => by rcases h with h | h <;> omega, fun h => by rcases h with h | h <;> omega⟩, fun k hk => by rcases hk with hk | hk <;> omega, fun k hk => by rw [hsz]; exact hk, by rw [hsz]; omega, ?_, .inr rfl, .inl rfl, none, 0, [], ?_, World.ownsRow_nil _ _ _ _, fun g hg => by simp [Value.ownBlock] at hg, fun k hk => absurd hk (by simp)⟩
    · rw [hw4]; exact K4.alloc _
    · rw [hw4]; exact (((K1.alloc _).alloc _).alloc _).alloc _
    · rw [hw4]
      exact (K3.of_block (Below.heap_alloc _ _ _ (by simp))).of_block (Below.heap_alloc _ _ _ (by simp))
    · rw [hw4]; exact ((K2.alloc _).alloc _).alloc _
  have CC := Lib.hid ((vis_go (S := S) (L := n) (xm := w.heap.size + 1 + 1 + 1) (xs := w.heap.size) (xv := w.heap.size + 1 + 1 + 1 + 1) (xn := w.heap.size + 1) (mb := w.heap.size + 1 + 1) (bs := w.heap.size) (l := l) (lv := n) (gV := 54) (rest := rest) hl (Nat.le_refl n) hn2 hs1 hs2 hz hp (enters_of Tryz.func54 (by kernel_rfl) rfl)
    (fun x w T U out M h1 h2 h3 h4 h5 h6 => vis_any hn2 hs1 hs2 l x w T U out M (by omega) (Nat.le_trans (Nat.pow_le_pow_right (by omega) (by omega)) hp) h1 h2 h3 h4 h5 h6) hW (fun i hi => absurd hi (by simp)) (fun x k hx => by cases hx) rfl hb (by simp; omega)).mono (R' := fun e w' => ∃ v, e = .returned (.int .i64 v) ∧ ∃ A c out, Blk w' (w.heap.size + 1) 29 #[.slice A out.length c] ∧ NL w' w.heap.size A c out ∧ Gd S n out ∧ 1 ≤ out.length ∧ Mn S out n (fun p => byt rest (nm S p)) ((out.length : Int) - 1) ∧ out.length ≤ 1000000 ∧ Below w.heap.size w w') fun e w' ⟨T', out', M', h1, h2, h3, h4, h5, _, _, h6, h7⟩ => by
      obtain ⟨A, c, ys, r1, r2, r3, r4⟩ := h3.rest
      simp only [List.length_nil, Nat.zero_add] at h7
      exact ⟨_, h1, A, c, out', r1, ⟨ys, r2, r4.sub fun k _ hk => .inl (by show k < w.heap.size + 5; omega)⟩, h5, h2, h6, by omega, B5.trans (h4.below (fun k hk => by rcases hk with hk | hk <;> omega) (by have := B5.size; exact this))⟩)
  obtain ⟨y0, y1, y2⟩ := K5.one
  have y0 := y0
  rw [hw4] at CC y0
  unfold visV at CC y0
  clear K1 K2 K3 K4 K5 B5 hW hs4 hw4 hl
  have hmm := @run_makeMap Tryz.prog
  go_enter Tryz.func33, Tryz.ntmps33
  go_wp2_with (with_reducible refine (CC.out).mono ?_; rintro e w5 ⟨v, rfl, A, c, out, r1, r2, r3, r4, r5, r6, r7⟩; obtain ⟨q0, q1, q2⟩ := r1.one; have R2 := Lib.hid r2; have R3 := Lib.hid r3; have R4 := Lib.hid r4; have R5 := Lib.hid r5; have R6 := Lib.hid r6; have R7 := Lib.hid r7; clear r1 r2 r3 r4 r5 r6 r7)
  go_ret
  exact ⟨A, c, out, rfl, R2.out, R3.out, R4.out, R5.out, R6.out, R7.out⟩
end Go.Proofs.YtedjjhaopohibaaGreatDoor
namespace Go.Proofs.YtedjjhaopohibaaGreatDoor
open Go.RowKit

/-- the tree of some nodes -/
def trO (S n : Nat) (f : Nat → P2) (out : List (Int × List Int)) : Tr := ⟨(S : Int), n, f, out.length, lvO out, nxO out⟩
theorem Fr.set3 (w : World) (g : Nat) (a b c : Value) : Fr (fun k => k = g) w (fun k => k = g) (((w.setCell ⟨g, 0, none⟩ a).setCell ⟨g, 1, none⟩ b).setCell ⟨g, 2, none⟩ c) :=
  ((Fr.set_ (G := fun k => k = g) w (p := ⟨g, 0, none⟩) a rfl).trans (Fr.set_ _ (p := ⟨g, 1, none⟩) b rfl)).trans (Fr.set_ _ (p := ⟨g, 2, none⟩) c rfl)
theorem NL.low {w : World} {base base' : Nat} {A : Option Addr} {c : Nat} {out : List (Int × List Int)} (h : NL w base A c out) (hb : base' ≤ base) : NL w base' A c out := by
  obtain ⟨xs, h1, h2⟩ := h
  exact ⟨xs, own_base h1 hb, h2.sub fun k _ hk => Nat.lt_of_lt_of_le hk hb⟩
/-- the lists of a tree, at base or behind -/
def TL (w : World) (base n : Nat) (f : Nat → P2) (AI : Option Addr) (cI : Nat) (AN : Option Addr) (cN : Nat) (out : List (Int × List Int)) : Prop := w.ownsRow base 74 2 (.slice AI n cI) n (cells2 f n) ∧ NL w base AN cN out
theorem TL.ts {w : World} {base n cI cN : Nat} {f : Nat → P2} {AI AN : Option Addr} {out : List (Int × List Int)} (h : TL w base n f AI cI AN cN out) (S : Nat) : TS w AI AN (trO S n f out) := ⟨QReads.of_own h.1, h.2.nr⟩
theorem TL.low {w : World} {base base' n cI cN : Nat} {f : Nat → P2} {AI AN : Option Addr} {out : List (Int × List Int)} (h : TL w base n f AI cI AN cN out) (hb : base' ≤ base) : TL w base' n f AI cI AN cN out := ⟨own_base h.1 hb, h.2.low hb⟩
theorem TL.keep {w w' : World} {base n cI cN : Nat} {f : Nat → P2} {AI AN : Option Addr} {out : List (Int × List Int)} {H H' : Nat → Prop} (h : TL w base n f AI cI AN cN out) (hf : Fr H w H' w') (hd : ∀ k, H k → k < base) : TL w' base n f AI cI AN cN out :=
  ⟨hf.row h.1 (fun g hg hH => by have := (h.1.lt g hg).1; have := hd g hH; omega), h.2.keep hf hd⟩
/-- stores into a tree's own block -/
theorem tree_set {w wa : World} {n gT b0 b1 base cI cN : Nat} {f : Nat → P2} {out : List (Int × List Int)} {AI AN : Option Addr} {a b c : Value} (hk : Blk w gT 31 #[a, b, c])
    (ho : wa.ownsRow b1 74 2 (.slice AI n cI) n (cells2 f n)) (hb : Below wa.heap.size wa w) (hne : ∀ g, (Value.slice AI n cI).ownBlock = some g → g ≠ gT)
    (hn : NL w base AN cN out) (hg : gT < base) (h1 : b0 ≤ b1) (h2 : b0 ≤ base) (st h x : Value) :
    Blk (((w.setCell ⟨gT, 0, none⟩ st).setCell ⟨gT, 1, none⟩ h).setCell ⟨gT, 2, none⟩ x) gT 31 #[st, h, x] ∧ TL (((w.setCell ⟨gT, 0, none⟩ st).setCell ⟨gT, 1, none⟩ h).setCell ⟨gT, 2, none⟩ x) b0 n f AI cI AN cN out := by
  have F := Fr.set3 w gT st h x
  have F0 : Fr (fun _ => False) wa (fun _ => False) w := Fr.of_below hb
  refine ⟨by simpa using ((hk.set_ 0 st).set_ 1 h).set_ 2 x, own_base (F.row (F0.row ho (fun _ _ h => h)) (fun g hg' e => hne g hg' e)) h1, (hn.keep F (fun k hk' => by subst hk'; exact hg)).low h2⟩
/-- a tree's block, laid behind its lists -/
theorem tree_new {w wa wx : World} {n b0 b1 base cI cN : Nat} {f : Nat → P2} {out : List (Int × List Int)} {AI AN : Option Addr}
    (ho : wa.ownsRow b1 74 2 (.slice AI n cI) n (cells2 f n)) (hb : Below wa.heap.size wa w) (hn : NL w base AN cN out) (h1 : b0 ≤ b1) (h2 : b0 ≤ base) (hx : Below w.heap.size w wx) : TL wx b0 n f AI cI AN cN out := by
  have F0 : Fr (fun _ => False) wa (fun _ => False) wx := Fr.of_below (hb.trans (hx.mono hb.size))
  have F1 : Fr (fun _ => False) w (fun _ => False) wx := Fr.of_below hx
  exact ⟨own_base (F0.row ho (fun _ _ h => h)) h1, (hn.keep F1 (fun k hk' => hk'.elim)).low h2⟩
end Go.Proofs.YtedjjhaopohibaaGreatDoor
