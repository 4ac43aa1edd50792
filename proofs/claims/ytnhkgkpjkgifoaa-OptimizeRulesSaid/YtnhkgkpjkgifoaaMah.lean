/- What changes lies in a set of blocks. -/
/- The gates of a circuit that is built: the walks of gate, chain and either. -/
import Derived.Test.YtnhkgkpjkgifoaaMaa
import Derived.Test.YtnhkgkpjkgifoaaMac
import Derived.Test.YtnhkgkpjkgifoaaMag
import Derived.Deep.AppendLies
import Derived.Test.YtnhkgkpjkgifoaaMab
namespace Go.Proofs.Ytnhkgkpjkgifoaa
open Go.RowKit

/-- only blocks of G were turned, or made; those of G' are of G, or new -/
structure Fr (G : Nat → Prop) (w : World) (G' : Nat → Prop) (w' : World) : Prop where
  os : w'.os = w.os
  tape : w'.tape = w.tape
  output : w'.output = w.output
  size : w.heap.size ≤ w'.heap.size
  block : ∀ k, k < w.heap.size → ¬ G k → w'.heap[k]? = w.heap[k]?
  new : ∀ k, G' k → G k ∨ w.heap.size ≤ k
section
variable {G G' G'' : Nat → Prop} {w w' w'' : World}
theorem Fr.refl (G : Nat → Prop) (w : World) : Fr G w G w := ⟨rfl, rfl, rfl, Nat.le_refl _, fun _ _ _ => rfl, fun _ h => .inl h⟩
theorem Fr.trans (h : Fr G w G' w') (k : Fr G' w' G'' w'') : Fr G w G'' w'' :=
  ⟨k.os.trans h.os, k.tape.trans h.tape, k.output.trans h.output, Nat.le_trans h.size k.size,
   fun i hi hG => (k.block i (Nat.lt_of_lt_of_le hi h.size) (fun h' => by rcases h.new i h' with h1 | h1; exact hG h1; omega)).trans (h.block i hi hG),
   fun i hi => by
    rcases k.new i hi with h1 | h1
    · exact h.new i h1
    · exact .inr (Nat.le_trans h.size h1)⟩
theorem Fr.of_below (h : Below w.heap.size w w') : Fr G w G w' := ⟨h.os, h.tape, h.output, h.size, fun k hk _ => h.block k hk, fun _ h => .inl h⟩
/-- the same, seen from fewer names -/
theorem Fr.weak {H H' : Nat → Prop} (h : Fr G w G' w') (h1 : ∀ k, G k → H k) (h2 : ∀ k, H' k → H k ∨ w.heap.size ≤ k) : Fr H w H' w' :=
  ⟨h.os, h.tape, h.output, h.size, fun k hk hH => h.block k hk (fun hG => hH (h1 k hG)), h2⟩
theorem Fr.below (h : Fr G w G' w') {B : Nat} (hG : ∀ k, G k → B ≤ k) (hB : B ≤ w.heap.size) : Below B w w' :=
  ⟨h.os, h.tape, h.output, h.size, fun k hk => h.block k (by omega) (fun hk' => by have := hG k hk'; omega)⟩
theorem Fr.blk (h : Fr G w G' w') {g : Nat} {t : TypeId} {cs : Array Value} (k : Blk w g t cs) (hg : ¬ G g) : Blk w' g t cs := (h.block g k.lt hg).trans k
theorem Fr.row (h : Fr G w G' w') {base k : Nat} {e : TypeId} {v : Value} {n : Nat} {xs : List Value} (hr : w.ownsRow base e k v n xs) (hv : ∀ g, v.ownBlock = some g → ¬ G g) : w'.ownsRow base e k v n xs := by
  refine ⟨hr.1, ?_⟩
  rcases hr.2 with hn | ⟨g, cap, cur, rfl, hb', hg, rest⟩
  · exact .inl hn
  · refine .inr ⟨g, cap, cur, rfl, hb', ?_, rest⟩
    rw [h.block g (Array.getElem?_eq_some_iff.1 hg).1 (hv g rfl)]; exact hg
theorem Fr.alloc (G : Nat → Prop) (w : World) (o : Obj) : Fr G w G (w.alloc o) := Fr.of_below ((Below.refl _ _).alloc (Nat.le_refl _) o)
theorem Fr.set_ (w : World) {p : Addr} (u : Value) (hp : G p.block) : Fr G w G (w.setCell p u) :=
  ⟨rfl, rfl, rfl, by simp [World.setCell], fun k _ hk => Below.heap_setCell w p u k (fun e => hk (e ▸ hp)), fun _ h => .inl h⟩
end

/-- two rows of different types lie apart -/
theorem own_ne2 {w : World} {base base' k k' n n' : Nat} {e t : TypeId} {v v' : Value} {xs ys : List Value} (h : w.ownsRow base e k v n xs) (h' : w.ownsRow base' t k' v' n' ys) (hne : e ≠ t) {g : Nat} (hg : v.ownBlock = some g) : v'.ownBlock ≠ some g := by
  intro hg'
  rcases h.2 with ⟨rfl, _⟩ | ⟨g2, cap, cur, rfl, _, h2, _⟩
  · cases hg
  · rcases h'.2 with ⟨rfl, _⟩ | ⟨g3, cap3, cur3, rfl, _, h3, _⟩
    · cases hg'
    · injection hg with hg
      injection hg' with hg'
      simp only at hg hg'
      subst hg hg'
      rw [h3] at h2
      injection h2 with h2
      injection h2 with _ ht
      exact hne ht.symm
/-- what the call owns stays owned where its block stays -/
theorem own_keep {w w' : World} {base k n : Nat} {e : TypeId} {v : Value} {xs : List Value} (h : w.ownsRow base e k v n xs) (hb : ∀ g, g < w.heap.size → v.ownBlock = some g → w'.heap[g]? = w.heap[g]?) : w'.ownsRow base e k v n xs := by
  refine ⟨h.1, ?_⟩
  rcases h.2 with hn | ⟨g, cap, cur, rfl, hb', hg, rest⟩
  · exact .inl hn
  · refine .inr ⟨g, cap, cur, rfl, hb', ?_, rest⟩
    rw [hb g (Array.getElem?_eq_some_iff.1 hg).1 rfl]
    exact hg
/-- the block of a row -/
def ob (A : Option Addr) (b : Nat) : Prop := (Value.slice A 0 0).ownBlock = some b
theorem ob_own {A : Option Addr} {n c b : Nat} : ob A b ↔ (Value.slice A n c).ownBlock = some b := by cases A <;> rfl
theorem ob_ge {w : World} {A : Option Addr} {base k n c : Nat} {e : TypeId} {v : List Value} (h : w.ownsRow base e k (.slice A n c) n v) : ∀ b, ob A b → base ≤ b ∧ b < w.heap.size := fun b hb => h.lt b (ob_own.1 hb)
/-- append of one struct of three cells, and where the new row lies -/
theorem wpList_append3L {P : Program} {w : World} {ops : Array Oper} {rest : List Oper} {o : Oper} {a : Act} {Q : Exit → Act → World → Prop} (hgd : o.guard = none) (s x : Operand) (t : TypeId)
    (ho : o.op = .call { callee := .builtin .append, args := #[s, x], argTypes := #[t, t] })
    (base : Nat) (e : TypeId) (i : TypeInfo) (z : Value) (bytes : Nat) (ht : P.underlying t = some (.slice e)) (hi : P.info? e = some i) (hz : i.zero = some z)
    (hsize : i.size = 3) (hby : i.bytes = bytes) (hzs : z.cells.size = 3)
    (A : Option Addr) (n c : Nat) (xs : List Value) (hs : a.eval s = .slice A n c) (hown : w.ownsRow base e 3 (.slice A n c) n xs) (u v r : Value)
    (hx : a.eval x = .slice (some ⟨w.heap.size, 0, none⟩) 1 1) (h1 : u.oneCell' = true) (h2 : v.oneCell' = true) (h3 : r.oneCell' = true) (h63 : n + 1 ≤ maxLen) (hbytes : (n + 1) * bytes ≤ 140737488355328) (hbase : base ≤ w.heap.size)
    (h : ∀ g' c' w', w'.ownsRow base e 3 (.slice (some ⟨g', 0, none⟩) (n + 1) c') (n + 1) (xs ++ [u, v, r]) → Fr (ob A) w (ob (some ⟨g', 0, none⟩)) w' → wpList P ops Q rest (a.put o.dst (.slice (some ⟨g', 0, none⟩) (n + 1) c')) w') :
    wpList P ops Q (o :: rest) a (w.alloc (.cells #[u, v, r] e)) := by
  refine wpList_append_lies _ hgd s x t ho base e i z 3 bytes ht hi hz hsize hby hzs (by decide) _ n xs hs (hown.alloc _) ⟨w.heap.size, 0, none⟩ 1 1 [u, v, r] hx rfl ?_ ?_ (by decide) h63 hbytes (by simp; omega) (w.heap.size + 1) (by simp) ?_
  · intro j y hj
    match j, hj with
    | 0, hj => simp at hj; subst hj; simp [Addr.add]
    | 1, hj => simp at hj; subst hj; simp [Addr.add]
    | 2, hj => simp at hj; subst hj; simp [Addr.add]
  · intro y hy; simp at hy; rcases hy with rfl | rfl | rfl <;> assumption
  · intro g' c' w' hown' hg hat _
    have hs := hg.size
    rw [World.size_alloc] at hs
    refine h g' c' w' hown' ⟨hg.os, hg.tape, hg.output, by omega, fun k hk hn => ?_, fun k hk => ?_⟩
    · rw [hg.block k (by rw [World.size_alloc]; omega) (fun e => hn (ob_own.2 e.symm))]
      exact Below.heap_alloc w _ k hk
    · have e : g' = k := by simpa [ob, Value.ownBlock] using hk
      subst e
      rcases hat with q | q
      · exact .inl (ob_own.2 q)
      · right; omega
theorem Fr.weak' {G G' : Nat → Prop} {w w' : World} (h : Fr G w G' w') (H : Nat → Prop) : Fr (fun k => G k ∨ H k) w (fun k => G' k ∨ H k) w' :=
  ⟨h.os, h.tape, h.output, h.size, fun k hk hn => h.block k hk (fun q => hn (.inl q)), fun k hk => by
    rcases hk with q | q
    · rcases h.new k q with q | q
      · exact .inl (.inl q)
      · exact .inr q
    · exact .inl (.inr q)⟩
theorem Fr.drew {G G' : Nat → Prop} {w w' : World} (h : Fr G w G' w') : Fr G w G' w'.drew := ⟨h.os, h.tape, h.output, h.size, h.block, h.new⟩
end Go.Proofs.Ytnhkgkpjkgifoaa
namespace Go.Proofs.Ytnhkgkpjkgifoaa
open Go.RowKit

theorem info_gate : (Try.prog.info? 57).map (fun i => (i.zero, i.size, i.bytes)) = some (some (.agg #[.int .i64 0, .int .i64 0, .int .i64 0]), 3, 24) := by kernel_rfl
/-- gates as cells -/
def cg (l : List C3) : List Value := l.flatMap fun g => [.int .i64 g.1, .int .i64 g.2.1, .int .i64 g.2.2]
theorem cg_add (l : List C3) (a b c : Int) : cg (l ++ [(a, b, c)]) = cg l ++ [.int .i64 a, .int .i64 b, .int .i64 c] := by simp [cg]
theorem cg_len (l : List C3) : (cg l).length = l.length * 3 := by
  induction l with
  | nil => rfl
  | cons x l ih => simp only [cg, List.flatMap_cons, List.length_append, List.length_cons, List.length_nil] at ih ⊢; omega
/-- the other fields of the structure -/
structure Oc where
  a : Value
  b : Value
  c : Value
  d : Value
  e : Value
  f : Value
  g : Value
  h : Value
/-- the structure's cells -/
def lwc (I : Int) (A : Option Addr) (n c : Nat) (O : Oc) : Array Value := #[.int .i64 I, .slice A n c, O.a, O.b, O.c, O.d, O.e, O.f, O.g, O.h]
/-- the structure with its gates -/
def GSt (lb base : Nat) (I : Int) (O : Oc) (w : World) (A : Option Addr) (gs : List C3) : Prop :=
  ∃ c, Blk w lb 97 (lwc I A gs.length c O) ∧ w.ownsRow base 57 3 (.slice A gs.length c) gs.length (cg gs)
/-- what a gate more turns -/
def gb (lb : Nat) (A : Option Addr) (k : Nat) : Prop := k = lb ∨ ob A k
section
variable {lb base : Nat} {I : Int} {O : Oc} {w w' : World} {A : Option Addr} {gs : List C3}
theorem GSt.two (h : GSt lb base I O w A gs) : ∃ c, w.cell? ⟨lb, 0, none⟩ = some (.int .i64 I) ∧ w.cell? ⟨lb, 1, none⟩ = some (.slice A gs.length c) ∧ w.frozen? ⟨lb, 1, none⟩ = false ∧ lb < w.heap.size := by
  obtain ⟨c, hk, _⟩ := h
  exact ⟨c, (hk.cell 0).trans rfl, (hk.cell 1).trans rfl, hk.frozen 1, hk.lt⟩
theorem GSt.keep (h : GSt lb base I O w A gs) {G G' : Nat → Prop} (hf : Fr G w G' w') (hl : ¬ G lb) (hA : ∀ k, ob A k → ¬ G k) : GSt lb base I O w' A gs := by
  obtain ⟨c, hk, ho⟩ := h
  exact ⟨c, hf.blk hk hl, hf.row ho (fun k e => hA k (ob_own.2 e))⟩
end
set_option maxRecDepth 100000 in
set_option maxHeartbeats 2000000 in
theorem gate_any (lb base : Nat) (I : Int) (O : Oc) (op a b : Int) (w : World) (A : Option Addr) (gs : List C3) (h : GSt lb base I O w A gs) (hlb : lb < base) (hb : base ≤ w.heap.size) (hn : gs.length ≤ 1000000) (hI : 0 ≤ I) (hI2 : I ≤ 1000000) :
    Calls Try.prog 58 #[.pointer (some ⟨lb, 0, none⟩), .int .i64 op, .int .i64 a, .int .i64 b] w fun e w' => ∃ A', e = .returned (.int .i64 (I + (gs.length : Int))) ∧ GSt lb base I O w' A' (gs ++ [(op, a, b)]) ∧ Fr (gb lb A) w (gb lb A') w' := by
  obtain ⟨i0, hi, hz0, hz1, hz2⟩ := info_parts info_gate
  obtain ⟨c, hk, ho⟩ := h
  obtain ⟨N, hN⟩ : ∃ N, gs.length = N := ⟨_, rfl⟩
  rw [hN] at hk ho hn
  have k0 : w.cell? ⟨lb, 0, none⟩ = some (.int .i64 I) := (hk.cell 0).trans rfl
  have k1 : w.cell? ⟨lb, 1, none⟩ = some (.slice A N c) := (hk.cell 1).trans rfl
  have f1 := hk.frozen 1
  have HK := Lib.hid hk
  have HO := Lib.hid ho
  have HN := Lib.hid hN
  have e1 : IntKind.i64.wrap (I + ((N : Int) + 1)) = I + ((N : Int) + 1) := IntWalk.i64_in _ ⟨by omega, by omega⟩
  have e2 : IntKind.i64.wrap (I + ((N : Int) + 1) - 1) = I + (N : Int) := by rw [show I + ((N : Int) + 1) - 1 = I + (N : Int) by omega]; exact IntWalk.i64_in _ ⟨by omega, by omega⟩
  clear hk ho hN
  go_enter Try.func58, Try.ntmps58
  go_wp2_with (at_builtin; refine wpList_append3L rfl _ _ 32 rfl base 57 i0 (.agg #[.int .i64 0, .int .i64 0, .int .i64 0]) 24 Try.underlying32 hi hz0 hz1 hz2 rfl A N c _ rfl HO.out (.int .i64 op) (.int .i64 a) (.int .i64 b) rfl rfl rfl rfl (by unfold maxLen; omega) (by omega) hb ?_; intro g' c' w1 hown hfr; have OW := Lib.hid hown; have FR := Lib.hid hfr; have K1 := Lib.hid (hfr.blk HK.out (fun e => by have := (ob_ge HO.out lb e).1; omega)); have q1 : w1.cell? ⟨lb, 1, none⟩ = some (.slice A N c) := (K1.out.cell 1).trans rfl; have q1f := K1.out.frozen 1; clear hown hfr)
  have K2 := Lib.hid (show Blk (w1.setCell ⟨lb, 1, none⟩ (.slice (some ⟨g', 0, none⟩) (N + 1) c')) lb 97 (lwc I (some ⟨g', 0, none⟩) (N + 1) c' O) from by simpa [lwc] using K1.out.set_ 1 (.slice (some ⟨g', 0, none⟩) (N + 1) c'))
  have hg' := OW.out.lt g' rfl
  have O2 := Lib.hid (show (w1.setCell ⟨lb, 1, none⟩ (.slice (some ⟨g', 0, none⟩) (N + 1) c')).ownsRow base 57 3 (.slice (some ⟨g', 0, none⟩) (N + 1) c') (N + 1) (cg gs ++ [.int .i64 op, .int .i64 a, .int .i64 b]) from own_set OW.out (fun e => by have e : g' = lb := (by simpa [Value.ownBlock] using e); omega) _)
  have F2 := Lib.hid (show Fr (gb lb A) w (gb lb (some ⟨g', 0, none⟩)) (w1.setCell ⟨lb, 1, none⟩ (.slice (some ⟨g', 0, none⟩) (N + 1) c')) from
    ((FR.out.weak (H := gb lb A) (H' := gb lb (some ⟨g', 0, none⟩)) (fun k hk => .inr hk) (fun k hk => by
      rcases hk with hk | hk
      · exact .inl (.inl hk)
      · rcases FR.out.new k hk with q | q
        · exact .inl (.inr q)
        · exact .inr q)).trans (Fr.set_ w1 (p := ⟨lb, 1, none⟩) _ (.inl rfl))))
  clear q1 q1f
  generalize w1.setCell ⟨lb, 1, none⟩ (.slice (some ⟨g', 0, none⟩) (N + 1) c') = w2 at K2 O2 F2 ⊢
  have k0' : w2.cell? ⟨lb, 0, none⟩ = some (.int .i64 I) := (K2.out.cell 0).trans rfl
  have k1' : w2.cell? ⟨lb, 1, none⟩ = some (.slice (some ⟨g', 0, none⟩) (N + 1) c') := (K2.out.cell 1).trans rfl
  go_region
  all_goals
    go_wp2_with fail
    go_ret
    have hN := HN.out
    refine ⟨some ⟨g', 0, none⟩, by rw [hN]; rfl, ⟨c', ?_, ?_⟩, F2.out.drew⟩
    · rw [List.length_append, hN]
      exact K2.out
    · rw [List.length_append, hN, cg_add]
      exact O2.out
/-- the wires of gates in a row, one operand being the wire before -/
def chF (op I : Int) : List Int → Int → List C3 → Int × List C3
  | [], last, gs => (last, gs)
  | x :: r, last, gs => chF op I r (I + (gs.length : Int)) (gs ++ [(op, last, x)])
theorem chF_len (op I : Int) : ∀ (l : List Int) (last : Int) (gs : List C3), (chF op I l last gs).2.length = gs.length + l.length
  | [], _, _ => rfl
  | x :: r, last, gs => by rw [chF, chF_len op I r]; simp; omega
/-- where l is read to k -/
theorem chF_take (op I : Int) : ∀ (l : List Int) (k : Nat) (last : Int) (gs : List C3), k < l.length → chF op I (l.take (k + 1)) last gs = (I + ((chF op I (l.take k) last gs).2.length : Int), (chF op I (l.take k) last gs).2 ++ [(op, (chF op I (l.take k) last gs).1, ig l k)])
  | [], k, _, _, h => absurd h (Nat.not_lt_zero k)
  | x :: r, 0, last, gs, _ => by simp [chF, ig]
  | x :: r, k + 1, last, gs, h => by
    rw [List.take_succ_cons, List.take_succ_cons, chF, chF, chF_take op I r k _ _ (by simpa using h)]
    simp [ig]
theorem Reads.fr {w w' : World} {G G' : Nat → Prop} {A : Option Addr} {n : Nat} {xs : List Value} (h : Reads w w.heap.size A n xs) (hf : Fr G w G' w') (hG : ∀ ad, A = some ad → ¬ G ad.block) : Reads w' w'.heap.size A n xs :=
  ⟨h.1, fun hn => by
    obtain ⟨ad, e, hl, hc⟩ := h.2 hn
    refine ⟨ad, e, Nat.lt_of_lt_of_le hl hf.size, fun j u hu => ?_⟩
    rw [← hc j u hu]
    exact World.cell?_of_block (by rw [block_of_add]; exact hf.block _ hl (hG ad e))⟩
set_option maxRecDepth 100000 in
set_option maxHeartbeats 2000000 in
theorem chain_any (lb base : Nat) (I : Int) (O : Oc) (op : Int) (gw cW : Nat) (x : Int) (l : List Int) (w : World) (A : Option Addr) (gs : List C3) (h : GSt lb base I O w A gs) (hlb : lb < base) (hb : base ≤ w.heap.size) (hn : gs.length + l.length ≤ 1000000) (hI : 0 ≤ I) (hI2 : I ≤ 1000000)
    (hW : Reads w w.heap.size (some ⟨gw, 0, none⟩) (l.length + 1) (il (x :: l))) (hc : l.length + 1 ≤ cW) (hG : ¬ gb lb A gw) :
    Calls Try.prog 98 #[.pointer (some ⟨lb, 0, none⟩), .int .i64 op, .slice (some ⟨gw, 0, none⟩) (l.length + 1) cW] w fun e w' => ∃ A', e = .returned (.int .i64 (chF op I l x gs).1) ∧ GSt lb base I O w' A' (chF op I l x gs).2 ∧ Fr (gb lb A) w (gb lb A') w' := by
  obtain ⟨ad0, e0, _, hx⟩ := il_at hW (show 0 < l.length + 1 by omega)
  injection e0 with e0
  subst e0
  have hx : w.cell? ⟨gw, 0, none⟩ = some (.int .i64 x) := by simpa [Addr.add, ig] using hx
  have HW := Lib.hid hW
  obtain ⟨m, hm⟩ : ∃ m, l.length = m := ⟨_, rfl⟩
  rw [hm] at hc hn ⊢
  have HM := Lib.hid hm
  have b1 : (1 : Int) ≤ (m : Int) + 1 := by omega
  have b2 : (m : Int) + 1 ≤ (cW : Int) := by omega
  have b3 : (1 : Int) ≤ (cW : Int) := by omega
  have HG := Lib.hid hG
  have HL := Lib.hid h
  clear hW h hm hG
  by_cases hm0 : m = 0
  · subst hm0
    go_enter Try.func98, Try.ntmps98
    by_cases hc1 : cW = 1
    · subst hc1
      go_wp2_with fail
      refine wp_loop_rounds 1 ?_
      rw [rounds_succ]
      go_wp2
      go_ret
      have hl : l = [] := List.eq_nil_of_length_eq_zero HM.out
      subst hl
      exact ⟨A, rfl, HL.out, Fr.refl _ _⟩
    · have b4 : ¬ cW = 1 := hc1
      have b5 : ¬ (cW : Int) = 1 := by omega
      go_wp2_with fail
      refine wp_loop_rounds 1 ?_
      rw [rounds_succ]
      go_wp2
      go_ret
      have hl : l = [] := List.eq_nil_of_length_eq_zero HM.out
      subst hl
      exact ⟨A, rfl, HL.out, Fr.refl _ _⟩
  · have b4 : ¬ cW = 1 := by omega
    have b5 : ¬ (cW : Int) = 1 := by omega
    go_enter Try.func98, Try.ntmps98
    go_wp2_with fail
    go_loopw [7, 16] (fun lv iv wr => ∃ (j : Nat) (y : Int) (A1 : Option Addr) (g1 : List C3), j ≤ m ∧ lv = .int .i64 y ∧ iv = .int .i64 (j : Int) ∧ Hid (chF op I (l.take j) x gs = (y, g1)) ∧ Hid (GSt lb base I O wr A1 g1) ∧ Hid (Fr (gb lb A) w (gb lb A1) wr)) (fun _ iv _ => m - (intOf iv).toNat)
    case atStart => exact ⟨0, x, A, gs, Nat.zero_le _, rfl, rfl, Lib.hid rfl, HL, Lib.hid (Fr.refl _ _)⟩
    case round =>
      obtain ⟨j, y, A1, g1, hj, rfl, rfl, HC, HS, HF⟩ := hrel
      by_cases hlt : j < m
      · have hjI : (j : Int) < (m : Int) := by omega
        obtain ⟨ad, e0, _, hcj⟩ := il_at (HW.out.fr HF.out (fun ad e => by injection e with e; subst e; exact HG.out)) (show j + 1 < l.length + 1 by rw [HM.out]; omega)
        injection e0 with e0
        subst e0
        obtain ⟨z, hz⟩ : ∃ z, ig l j = z := ⟨_, rfl⟩
        have hcz : wr.cell? ⟨gw, 1 + j, none⟩ = some (.int .i64 z) := by rw [← hz]; simpa [Addr.add, ig, Nat.add_comm] using hcj
        have hlen : g1.length ≤ 1000000 := by
          have := chF_len op I (l.take j) x gs
          rw [HC.out, List.length_take] at this
          simp only at this
          omega
        have GA := Lib.hid (gate_any lb base I O op y z wr A1 g1 HS.out hlb (Nat.le_trans hb HF.out.size) hlen hI hI2)
        have HZ := Lib.hid hz
        clear hcj hz
        go_wp2_with (go_at_call 58; (with_reducible refine (GA.out).mono ?_); rintro e w2 ⟨A2, rfl, hs, hf⟩; have S2 := Lib.hid hs; have F2 := Lib.hid hf; clear hs hf)
        go_roundw
        case rel =>
          refine ⟨j + 1, _, A2, _, by omega, rfl, by go_num, Lib.hid ?_, S2, Lib.hid (HF.out.trans F2.out)⟩
          rw [chF_take op I l j x gs (by rw [HM.out]; omega), HC.out, HZ.out]
        case measure => simp [intOf]; omega
      · obtain rfl : j = m := by omega
        go_wp2
        go_ret
        have hC := HC.out
        rw [← HM.out, List.take_length] at hC
        exact ⟨A1, by rw [hC]; rfl, by rw [hC]; exact HS.out, HF.out⟩
/-- .. of any number of wires -/
def eiF (I : Int) (l : List Int) (gs : List C3) : Int × List C3 := match l with
  | [] => (I + (gs.length : Int), gs ++ [(0, 0, 0)])
  | x :: r => chF 4 I r x gs
set_option maxRecDepth 100000 in
set_option maxHeartbeats 2000000 in
theorem either_any (lb base : Nat) (I : Int) (O : Oc) (AW : Option Addr) (cW : Nat) (l : List Int) (w : World) (A : Option Addr) (gs : List C3) (h : GSt lb base I O w A gs) (hlb : lb < base) (hb : base ≤ w.heap.size) (hn : gs.length + l.length ≤ 1000000) (hI : 0 ≤ I) (hI2 : I ≤ 1000000)
    (hW : w.ownsRow base 3 1 (.slice AW l.length cW) l.length (il l)) :
    Calls Try.prog 99 #[.pointer (some ⟨lb, 0, none⟩), .slice AW l.length cW] w fun e w' => ∃ A', e = .returned (.int .i64 (eiF I l gs).1) ∧ GSt lb base I O w' A' (eiF I l gs).2 ∧ Fr (gb lb A) w (gb lb A') w' := by
  cases l with
  | nil =>
    have GA := Lib.hid (gate_any lb base I O 0 0 0 w A gs h hlb hb (by simpa using hn) hI hI2)
    clear h hW
    go_enter Try.func99, Try.ntmps99
    go_wp2_with (go_at_call 58; (with_reducible refine (GA.out).mono ?_); rintro e w2 ⟨A2, rfl, hs, hf⟩; have S2 := Lib.hid hs; have F2 := Lib.hid hf; clear hs hf)
    go_ret
    exact ⟨A2, rfl, S2.out, F2.out⟩
  | cons x r =>
    obtain ⟨g, cap, hv, hbg, hgl⟩ := hW.form (by simp)
    injection hv with e1 _ e3
    subst e1 e3
    have hcap : r.length + 1 ≤ cW := by
      rcases hW.2 with ⟨hv, _⟩ | ⟨g', cap', cur, hv, _, _, hn, _⟩
      · cases hv
      · injection hv with _ _ e3
        subst e3
        simpa using hn
    have hne : ¬ gb lb A g := fun e => by
      obtain ⟨c, _, ho⟩ := h
      rcases e with e | e
      · omega
      · exact own_ne2 ho hW (by decide) (ob_own.1 e) rfl
    have GA := Lib.hid (chain_any lb base I O 4 g cW x r w A gs h hlb hb (by simp at hn; omega) hI hI2 (by simpa using Reads.of_own hW) hcap hne)
    have e0 : ((r.length : Int) + 1 == 0) = false := by rw [beq_eq_false_iff_ne]; omega
    clear h hW hne
    rw [List.length_cons]
    generalize r.length = m at GA e0 hcap
    go_enter Try.func99, Try.ntmps99
    go_wp2_with (go_at_call 98; (with_reducible refine (GA.out).mono ?_); rintro e w2 ⟨A2, rfl, hs, hf⟩; have S2 := Lib.hid hs; have F2 := Lib.hid hf; clear hs hf)
    go_ret
    exact ⟨A2, rfl, S2.out, F2.out⟩
end Go.Proofs.Ytnhkgkpjkgifoaa
