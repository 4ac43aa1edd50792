/- A reader's state and its calls. -/
import Derived.Test.YtekjhomjonfgfaaRBits
import Derived.Test.YtekjhomjonfgfaaWrite
namespace Go.Proofs.Ytekjhomjonfgfaa
open Go.RowKit

/-- the blocks in S are as they were -/
structure Fr (S : Nat → Prop) (w w' : World) : Prop where
  os : w'.os = w.os
  tape : w'.tape = w.tape
  output : w'.output = w.output
  size : w.heap.size ≤ w'.heap.size
  block : ∀ k, S k → w'.heap[k]? = w.heap[k]?
section
variable {S T : Nat → Prop} {w w' w'' : World}
theorem Fr.refl (S : Nat → Prop) (w : World) : Fr S w w := ⟨rfl, rfl, rfl, Nat.le_refl _, fun _ _ => rfl⟩
theorem Fr.trans (h : Fr S w w') (h' : Fr S w' w'') : Fr S w w'' :=
  ⟨h'.os.trans h.os, h'.tape.trans h.tape, h'.output.trans h.output, Nat.le_trans h.size h'.size, fun k hk => (h'.block k hk).trans (h.block k hk)⟩
theorem Fr.mono (h : Fr S w w') (hT : ∀ k, T k → S k) : Fr T w w' := ⟨h.os, h.tape, h.output, h.size, fun k hk => h.block k (hT k hk)⟩
theorem Fr.drewN (w : World) (n : Nat) : Fr S w (w.drewN n) := ⟨rfl, rfl, rfl, Nat.le_refl _, fun _ _ => rfl⟩
theorem Fr.set_ (w : World) (p : Addr) (v : Value) (hp : ∀ k, S k → k ≠ p.block) : Fr S w (w.setCell p v) :=
  ⟨rfl, rfl, rfl, by simp [World.setCell], fun k hk => Below.heap_setCell w p v k (hp k hk)⟩
theorem Fr.alloc (w : World) (o : Obj) (hS : ∀ k, S k → k < w.heap.size) : Fr S w (w.alloc o) :=
  ⟨rfl, rfl, rfl, by simp, fun k hk => Below.heap_alloc w o k (hS k hk)⟩
theorem Fr.below {B : Nat} (h : Fr S w w') (hB : ∀ k, k < B → S k) : Below B w w' := ⟨h.os, h.tape, h.output, h.size, fun k hk => h.block k (hB k hk)⟩
end
theorem Fr.of_below {B : Nat} {w w' : World} (h : Below B w w') : Fr (· < B) w w' := ⟨h.os, h.tape, h.output, h.size, h.block⟩
theorem Fr.of_touch {base g : Nat} {w w' : World} (h : Touch base g w w') : Fr (fun k => k < base ∧ k ≠ g) w w' := ⟨h.os, h.tape, h.output, h.size, fun k hk => h.block k hk.1 hk.2⟩
theorem cell_of_block {w w' : World} {p : Addr} (h : w'.heap[p.block]? = w.heap[p.block]?) : w'.cell? p = w.cell? p := World.cell?_of_block h

/-- the reader in block g stands at the position p of the n bytes xs; they lie from lo on, below g -/
def Rd (w : World) (lo g n p : Nat) (xs : List Nat) : Prop := ∃ A c, Blk w g 43 #[.slice A n c, .int .i64 (p : Nat)] ∧ Reads w g A n (u8s xs) ∧ ∀ ad, A = some ad → lo ≤ ad.block
section
variable {w w' : World} {lo g n p : Nat} {xs : List Nat}
theorem Rd.parts (h : Rd w lo g n p xs) : ∃ A c, w.cell? ⟨g, 0, none⟩ = some (.slice A n c) ∧ w.cell? ⟨g, 1, none⟩ = some (.int .i64 (p : Nat)) ∧ w.frozen? ⟨g, 1, none⟩ = false ∧ Reads w g A n (u8s xs) := by
  obtain ⟨A, c, hb, hr, _⟩ := h
  obtain ⟨p0, p1, _, p3, _⟩ := hb.two
  exact ⟨A, c, p0, p1, p3, hr⟩
theorem Rd.lt (h : Rd w lo g n p xs) : g < w.heap.size := by
  obtain ⟨A, c, hb, _⟩ := h
  exact hb.lt
theorem Rd.frame {S : Nat → Prop} (h : Rd w lo g n p xs) (hf : Fr S w w') (hg : S g) (hS : ∀ k, lo ≤ k → k < g → S k) : Rd w' lo g n p xs := by
  obtain ⟨A, c, hb, hr, hlo⟩ := h
  refine ⟨A, c, (hf.block g hg).trans hb, ⟨hr.1, fun hn => ?_⟩, hlo⟩
  obtain ⟨ad, e, hlt, hc⟩ := hr.2 hn
  refine ⟨ad, e, hlt, fun j u hu => ?_⟩
  exact (cell_of_block (w := w) (w' := w') (p := ad.add j) (by rw [block_of_add]; exact hf.block _ (hS _ (hlo ad e) hlt))).trans (hc j u hu)
theorem Rd.set_ (h : Rd w lo g n p xs) (p' : Nat) : Rd (w.setCell ⟨g, 1, none⟩ (.int .i64 (p' : Nat))) lo g n p' xs := by
  obtain ⟨A, c, hb, hr, hlo⟩ := h
  refine ⟨A, c, by simpa using hb.set_ 1 (.int .i64 (p' : Nat)), hr.setCell (by simp) _, hlo⟩
theorem Rd.drewN (h : Rd w lo g n p xs) (k : Nat) : Rd (w.drewN k) lo g n p xs := h
end

theorem u8s_one (l : List Nat) : ∀ u ∈ u8s l, u.oneCell' = true := by
  intro u hu
  simp only [u8s, List.mem_map] at hu
  obtain ⟨z, _, rfl⟩ := hu
  rfl

theorem new_rd (A : Option Addr) (n c B : Nat) (xs : List Nat) (w : World) (hA : A = none → n = 0 ∧ c = 0) (h : Reads w B A n (u8s xs)) (hB : B ≤ w.heap.size) (hn : n ≤ 65536) :
    Calls Try.prog 5 #[.slice A n c] w fun e w' => ∃ g, e = .returned (.tuple #[.pointer (some ⟨g, 0, none⟩), .int .i64 0]) ∧ Rd w' w.heap.size g n 0 xs ∧ w.heap.size ≤ g ∧ Below w.heap.size w w' := by
  refine (new_any A n c B (u8s xs) w hA h hB hn (u8s_one xs)).mono ?_
  rintro e w' ⟨g, A', c', rfl, h1, h2, h3, h4, h5⟩
  refine ⟨g, rfl, ⟨A', c', h1, h3, fun ad hA' => ?_⟩, h4, h5⟩
  subst hA'
  exact (h2.lt ad.block rfl).1

theorem gamma_rd (lo g n p : Nat) (xs : List Nat) (w : World) (h : Rd w lo g n p xs) (hn : n ≤ 65536) (hp : p ≤ 8 * n) (hx : ∀ d ∈ xs, d < 256) :
    Calls Try.prog 6 #[.pointer (some ⟨g, 0, none⟩)] w fun e w' =>
      ((∃ z, Good xs n p z ∧ e = .returned (.tuple #[.int .i64 (num xs (p + z) (z + 1) - 1 : Nat), .int .i64 0]) ∧ Rd w' lo g n (p + 2 * z + 1) xs) ∨
       (∃ er, er ≠ 0 ∧ (∀ z, ¬ Good xs n p z) ∧ e = .returned (.tuple #[.int .i64 0, .int .i64 er]) ∧ Rd w' lo g n p xs)) ∧ Fr (· ≠ g) w w' := by
  obtain ⟨A, c, h0, h1, hf, hr⟩ := h.parts
  refine (gamma_any g n c p g A xs w h0 h1 hf hr hn hp hx).mono ?_
  rintro e w' (⟨z, k, hz, rfl, rfl⟩ | ⟨er, k, he, hz, rfl, rfl⟩)
  · exact ⟨.inl ⟨z, hz, rfl, (h.drewN k).set_ _⟩, (Fr.drewN w k).trans (Fr.set_ _ _ _ fun _ hk => hk)⟩
  · exact ⟨.inr ⟨er, he, hz, rfl, h.drewN k⟩, Fr.drewN w k⟩

theorem bits_rd (lo g n p m : Nat) (xs : List Nat) (w : World) (h : Rd w lo g n p xs) (hn : n ≤ 65536) (hp : p + m ≤ 8 * n) (hm : m ≤ 64) (hx : ∀ d ∈ xs, d < 256) :
    Calls Try.prog 10 #[.pointer (some ⟨g, 0, none⟩), .int .i64 (m : Nat)] w fun e w' => e = .returned (.tuple #[.int .u64 (num xs p m : Nat), .int .i64 0]) ∧ Rd w' lo g n (p + m) xs ∧ Fr (· ≠ g) w w' := by
  obtain ⟨A, c, h0, h1, hf, hr⟩ := h.parts
  refine (rbits_any g n c p m g A xs w h0 h1 hf hr hn hp hm hx).mono ?_
  rintro e w' ⟨rfl, k, rfl⟩
  exact ⟨rfl, (h.drewN k).set_ _, (Fr.drewN w k).trans (Fr.set_ _ _ _ fun _ hk => hk)⟩

theorem short_rd (lo g n p m : Nat) (xs : List Nat) (w : World) (h : Rd w lo g n p xs) (hn : n ≤ 65536) (hp : p ≤ 8 * n) (hp2 : 8 * n < p + m) (hm : m ≤ 64) :
    Calls Try.prog 10 #[.pointer (some ⟨g, 0, none⟩), .int .i64 (m : Nat)] w fun e w' => e = .returned (.tuple #[.int .u64 0, .int .i64 4]) ∧ ∃ k, w' = w.drewN k := by
  obtain ⟨A, c, h0, h1, hf, hr⟩ := h.parts
  exact rbits_short g n c p m A w h0 h1 hn hp hp2 hm

theorem left_rd (lo g n p : Nat) (xs : List Nat) (w : World) (h : Rd w lo g n p xs) (hn : n ≤ 65536) (hp : p ≤ 8 * n) :
    Calls Try.prog 7 #[.pointer (some ⟨g, 0, none⟩)] w fun e w' => e = .returned (.int .i64 (8 * n - p : Nat)) ∧ ∃ k, w' = w.drewN k := by
  obtain ⟨A, c, h0, h1, hf, hr⟩ := h.parts
  exact left_any g n c p A w h0 h1 hn hp

theorem end_rd (lo g n p : Nat) (xs : List Nat) (w : World) (h : Rd w lo g n p xs) (hn : n ≤ 65536) (hp : p ≤ 8 * n) (hp8 : 8 * n < p + 8) (hx : ∀ d ∈ xs, d < 256) (hv : num xs p (8 * n - p) = 0) :
    Calls Try.prog 15 #[.pointer (some ⟨g, 0, none⟩)] w fun e w' => e = .returned (.bool true) ∧ ∃ k, w' = w.drewN k := by
  obtain ⟨A, c, h0, h1, hf, hr⟩ := h.parts
  exact end_yes g n c p g A xs w h0 h1 hr hn hp hp8 hx hv

theorem Wr.frame {S : Nat → Prop} {w w' : World} {base g : Nat} {l : List Nat} (h : Wr w base g l) (hf : Fr S w w') (hg : S g) (hS : ∀ k, base ≤ k → k < w.heap.size → S k) : Wr w' base g l := by
  obtain ⟨A, c, hb, ho⟩ := h
  exact ⟨A, c, (hf.block g hg).trans hb, own_same ho fun ad hA h1 h2 => hf.block _ (hS _ h1 h2)⟩
theorem Wr.drewN {w : World} {base g : Nat} {l : List Nat} (h : Wr w base g l) (k : Nat) : Wr (w.drewN k) base g l := h
theorem Wr.new_ (w : World) (base g : Nat) (h : Blk w g 32 #[.slice none 0 0, .int .i64 0]) : Wr w base g [] := ⟨none, 0, h, World.ownsRow_nil _ _ _ _⟩

theorem bytes_wr (base g : Nat) (l : List Nat) (w : World) (h : Wr w base g l) (hl : l.length ≤ 524288) :
    Calls Try.prog 13 #[.pointer (some ⟨g, 0, none⟩)] w fun e w' => ∃ A c, e = .returned (.slice A (pack l).length c) ∧ Reads w' w'.heap.size A (pack l).length (i8s (pack l)) ∧ Below w.heap.size w w' := by
  obtain ⟨A, c, hb, ho⟩ := h
  refine (bytes_any g (pack l).length c w.heap.size A (i8s (pack l)) w hb.two.1 ?_ (Reads.of_own ho) (Nat.le_refl _) (by rw [pack_len]; omega) (i8s_one _)).mono ?_
  · intro hA
    subst hA
    rcases ho.2 with ⟨h1, h2⟩ | ⟨g', cap, cur, h1, _⟩
    · injection h1 with _ _ h3; exact ⟨h2, h3⟩
    · injection h1 with h1; cases h1
  · rintro e w' ⟨A', c', rfl, h1, h2⟩
    exact ⟨A', c', rfl, Reads.of_own h1, h2⟩
end Go.Proofs.Ytekjhomjonfgfaa
