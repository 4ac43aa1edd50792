/- The walk of collected, over any function that adds gates. -/
import Derived.Test.YtpkhioiabahhaaaGst
import Derived.Deep.OwnRows
namespace Go.Proofs.Ytpkhioiabahhaaa
open Go.RowKit

theorem Try.info_intL : (Try.prog.info? 3).map (fun i => (i.zero, i.size, i.bytes)) = some (some (.int .i64 0), 1, 8) := by kernel_rfl
theorem made_il (n : Nat) : madeCells #[Value.int .i64 0] n = (il (List.replicate n 0)).toArray := by
  apply Array.ext
  · simp [madeCells, il]
  · intro i h1 h2
    simp [madeCells, il, Nat.mod_one]
theorem mk_ints (n : Nat) (hn : n ≤ 1000000) (w : World) : (Instr.makeSlice 32 (.int .i64 (n : Int)) (.int .i64 (n : Int))).run Try.prog w = .ok (.slice (some ⟨w.heap.size, 0, none⟩) n n) (w.alloc (.cells (il (List.replicate n 0)).toArray 3)) := by
  rw [run_make_row' 32 3 (.int .i64 0) 8 Try.underlying32 Try.info_intL rfl .i64 .i64 n (by omega) (by omega) w, made_il]
/-- a row's block is none of another type -/
theorem own_ob_ne {w : World} {base k n c gc : Nat} {e t : TypeId} {A : Option Addr} {xs : List Value} {cs : Array Value} (h : w.ownsRow base e k (.slice A n c) n xs) (hb : Blk w gc t cs) (hne : e ≠ t) : ¬ ob A gc := by
  intro ha
  rcases h.2 with ⟨hv, _⟩ | ⟨g, cap, cur, hv, _, hg, _⟩
  · injection hv with e1; subst e1; cases ha
  · injection hv with e1
    subst e1
    have q : g = gc := by simpa [ob, Value.ownBlock] using ha
    subst q
    rw [show w.heap[g]? = _ from hb] at hg
    injection hg with hg
    injection hg with _ ht
    exact hne ht.symm
/-- the wires of the numbers below n -/
def coF (M : Nat → List C3 → Int × List C3) : Nat → List C3 → List Int × List C3
  | 0, gs => ([], gs)
  | j + 1, gs => ((coF M j gs).1 ++ [(M j (coF M j gs).2).1], (M j (coF M j gs).2).2)
theorem coF_len (M : Nat → List C3 → Int × List C3) (gs : List C3) : ∀ j, (coF M j gs).1.length = j
  | 0 => rfl
  | j + 1 => by rw [coF, List.length_append, coF_len M gs j]; rfl
theorem set_il (l : List Int) (k : Nat) (v : Int) (n : Nat) (hn : n = l.length) : (il (l ++ List.replicate (k + 1) 0)).toArray.setIfInBounds n (.int .i64 v) = (il (l ++ [v] ++ List.replicate k 0)).toArray := by
  subst hn
  rw [List.replicate_succ, List.append_assoc]
  simp [il]
set_option maxRecDepth 100000 in
set_option maxHeartbeats 2000000 in
theorem collected_any (G : FuncId) (cb : Array Value) (eg : ∀ args w, (callFunc G args).run Try.prog w = .ok (.enter G args) w) (lb base : Nat) (I : Int) (O : Oc) (M : Nat → List C3 → Int × List C3) (n : Nat) (w : World) (A : Option Addr) (gs : List C3) (h : GSt lb base I O w A gs) (hlb : lb < base) (hb : base ≤ w.heap.size) (hn : n ≤ 1000000)
    (HM : ∀ (i : Nat) (w' : World) (A' : Option Addr) (G' : Nat → Prop), i < n → GSt lb base I O w' A' (coF M i gs).2 → Fr (gb lb A) w G' w' → Calls Try.prog G (#[.int .i64 (i : Int)] ++ cb) w' fun e w'' => ∃ A'', e = .returned (.int .i64 (M i (coF M i gs).2).1) ∧ GSt lb base I O w'' A'' (M i (coF M i gs).2).2 ∧ Fr (gb lb A') w' (gb lb A'') w'') :
    Calls Try.prog 44 #[.int .i64 (n : Int), .func (.func G) #[] cb] w fun e w' => ∃ g A', e = .returned (.slice (some ⟨g, 0, none⟩) n n) ∧ Blk w' g 3 (il (coF M n gs).1).toArray ∧ w.heap.size ≤ g ∧ GSt lb base I O w' A' (coF M n gs).2 ∧ Fr (gb lb A) w (gb lb A') w' := by
  have mk := mk_ints n hn w
  have K0 := Blk.new w 3 (il (List.replicate n 0)).toArray
  have F0 := Fr.alloc (gb lb A) w (.cells (il (List.replicate n 0)).toArray 3)
  have z0 : (w.alloc (.cells (il (List.replicate n 0)).toArray 3)).heap.size = w.heap.size + 1 := by simp
  have HMH := Lib.hid HM
  have HL := Lib.hid h
  clear HM h
  go_enter Try.func44, Try.ntmps44
  go_wp2_with fail
  have HS0 := Lib.hid (show GSt lb base I O (w.alloc (.cells (il (List.replicate n 0)).toArray 3)) A gs from by
    obtain ⟨c, hk, ho⟩ := HL.out
    exact ⟨c, hk.alloc _, ho.alloc _⟩)
  have HF0 := Lib.hid (show Fr (gb lb A) w (fun k => gb lb A k ∨ k = w.heap.size) (w.alloc (.cells (il (List.replicate n 0)).toArray 3)) from F0.weak (fun _ h => h) (fun k hk => by
    rcases hk with hk | hk
    · exact .inl hk
    · right; omega))
  have K0 := Lib.hid K0
  generalize w.alloc (.cells (il (List.replicate n 0)).toArray 3) = w0 at K0 HS0 HF0 ⊢
  have hnl : lb ≠ w.heap.size := by omega
  clear mk z0 F0
  exact (by
    go_loopw [11] (fun iv wr => ∃ (j : Nat) (ws : List Int) (A1 : Option Addr) (g1 : List C3), j ≤ n ∧ iv = .int .i64 (j : Int) ∧ Hid (coF M j gs = (ws, g1)) ∧ Hid (Blk wr w.heap.size 3 (il (ws ++ List.replicate (n - j) 0)).toArray) ∧ Hid (GSt lb base I O wr A1 g1) ∧ Hid (Fr (gb lb A) w (fun k => gb lb A1 k ∨ k = w.heap.size) wr)) (fun iv _ => n - (intOf iv).toNat)
    case atStart => exact ⟨0, [], A, gs, Nat.zero_le _, rfl, Lib.hid rfl, by simpa using K0, HS0, HF0⟩
    case round =>
      obtain ⟨j, ws, A1, g1, hj, rfl, HC, HK, HS, HF⟩ := hrel
      have hwl : ws.length = j := by have := coF_len M gs j; rw [HC.out] at this; exact this
      by_cases hlt : j < n
      · have hjI : (j : Int) < (n : Int) := by omega
        have CC := HMH.out j wr A1 _ hlt (by rw [HC.out]; exact HS.out) HF.out
        rw [HC.out] at CC
        simp only at CC
        have HCS := Lib.hid (show coF M (j + 1) gs = (ws ++ [(M j g1).1], (M j g1).2) from by rw [coF, HC.out])
        generalize (M j g1).1 = z at CC HCS
        generalize (M j g1).2 = g2 at CC HCS
        have hne : ¬ gb lb A1 w.heap.size := fun e => by
          rcases e with e | e
          · exact hnl e.symm
          · obtain ⟨c, _, ho⟩ := HS.out
            exact own_ob_ne ho HK.out (by decide) e
        have CC := Lib.hid CC
        have kc : (il (ws ++ List.replicate (n - j) 0)).toArray[j]? = some (.int .i64 0) := by
          rw [show n - j = (n - (j + 1)) + 1 by omega, List.replicate_succ]
          simp [il, hwl]
        have HKC := Lib.hid kc
        have HWL := Lib.hid hwl
        have HNE := Lib.hid hne
        clear kc hwl hne
        exact (by
          go_wp2_with ((with_reducible refine (CC.out).mono ?_); rintro e w2 ⟨A2, rfl, hs, hf⟩; have S2 := Lib.hid hs; have F2 := Lib.hid hf; have K2 := Lib.hid (hf.blk HK.out HNE.out); have c2 : w2.cell? ⟨w.heap.size, j, none⟩ = some (.int .i64 0) := (K2.out.cell j).trans HKC.out; have f2 := K2.out.frozen j; have l2 := K2.out.lt; clear hs hf)
          go_roundw
          case rel =>
            have hwl := HWL.out
            have FS : Fr (fun k => gb lb A2 k ∨ k = w.heap.size) w2 (fun k => gb lb A2 k ∨ k = w.heap.size) (w2.setCell ⟨w.heap.size, j, none⟩ (.int .i64 z)) := Fr.set_ w2 (p := ⟨w.heap.size, j, none⟩) _ (.inr rfl)
            have FT : Fr (fun k => gb lb A1 k ∨ k = w.heap.size) wr (fun k => gb lb A2 k ∨ k = w.heap.size) w2 := F2.out.weak' (fun k => k = w.heap.size)
            refine ⟨j + 1, ws ++ [z], A2, g2, by omega, by go_num, HCS, Lib.hid ?_, Lib.hid ?_, Lib.hid ((HF.out.trans FT).trans FS)⟩
            · have := K2.out.set_ j (.int .i64 z)
              rw [show n - j = (n - (j + 1)) + 1 by omega, set_il ws (n - (j + 1)) z j hwl.symm] at this
              exact this
            · refine S2.out.keep (Fr.set_ (G := fun k => k = w.heap.size) w2 (p := ⟨w.heap.size, j, none⟩) _ rfl) hnl (fun k hk e => ?_)
              subst e
              obtain ⟨c, _, ho⟩ := S2.out
              exact own_ob_ne ho K2.out (by decide) hk
          case measure => simp [intOf]; omega)
      · obtain rfl : j = n := by omega
        go_wp2
        go_ret
        have hK := HK.out
        rw [Nat.sub_self, List.replicate_zero, List.append_nil] at hK
        exact ⟨w.heap.size, A1, rfl, by rw [HC.out]; exact hK, Nat.le_refl _, by rw [HC.out]; exact HS.out, ⟨HF.out.os, HF.out.tape, HF.out.output, HF.out.size, HF.out.block, fun k hk => HF.out.new k (.inl hk)⟩⟩)
end Go.Proofs.Ytpkhioiabahhaaa
