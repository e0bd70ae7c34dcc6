/-
  Spoil; Pick.
-/
import Derived.Test.YtpdfmeaemlgniaaNetO
namespace Go.Proofs.Ytpdfmeaemlgniaa
open Go.RowKit
set_option linter.unusedVariables false
set_option linter.unusedSimpArgs false
theorem spoilAt_zero (s : Nat) (l : List Par) (i : Nat) (p : Par) (at_ : Int) (y : UInt8) : (spoilAt s l i p at_ y).e ≠ 0 → (spoilAt s l i p at_ y).n = zNt := by
  unfold spoilAt
  split
  · exact fun _ => rfl
  · split
    · exact fun _ => rfl
    · exact fun h => absurd rfl h
set_option maxRecDepth 100000 in
set_option maxHeartbeats 4000000 in
theorem Spoil_any (w : World) (s k : Nat) (v : Value) (l : List Par) (at_ : Int) (y : UInt8) (hP : Ps w v l) :
    Calls Try.prog 36 #[NV s v, .int .u64 (k : Int), .int .i64 at_, .int .u8 (y.toNat : Int)] w (Ans2 w (ofM ⟨s, l⟩ (spoilM ⟨s, l⟩ k at_ y))) := by
  obtain ⟨a, c, rfl⟩ := hP.shape
  have e1 := (Ext.refl [] w).alloc (.cells #[.int .u64 (s : Int), .slice a l.length c] 25)
  have e2 := (Ext.refl [] (w.alloc (.cells #[.int .u64 (s : Int), .slice a l.length c] 25))).alloc (.cells #[.int .i64 at_] 3)
  have e3 := (Ext.refl [] ((w.alloc (.cells #[.int .u64 (s : Int), .slice a l.length c] 25)).alloc (.cells #[.int .i64 at_] 3))).alloc (.cells #[.int .u8 (y.toNat : Int)] 5)
  have e4 := (Ext.refl [] (((w.alloc (.cells #[.int .u64 (s : Int), .slice a l.length c] 25)).alloc (.cells #[.int .i64 at_] 3)).alloc (.cells #[.int .u8 (y.toNat : Int)] 5))).alloc (.cells #[.int .u64 0, .slice none 0 0] 25)
  have b1 := (Blk.new w [.int .u64 (s : Int), .slice a l.length c] 25).ext ((e2.trans e3).trans e4) (by simp)
  have b2 := (Blk.new (w.alloc (.cells #[.int .u64 (s : Int), .slice a l.length c] 25)) [.int .i64 at_] 3).ext (e3.trans e4) (by simp)
  have b3 := (Blk.new ((w.alloc (.cells #[.int .u64 (s : Int), .slice a l.length c] 25)).alloc (.cells #[.int .i64 at_] 3)) [.int .u8 (y.toNat : Int)] 5).ext e4 (by simp)
  have b5 := Blk.new (((w.alloc (.cells #[.int .u64 (s : Int), .slice a l.length c] 25)).alloc (.cells #[.int .i64 at_] 3)).alloc (.cells #[.int .u8 (y.toNat : Int)] 5)) [.int .u64 0, .slice none 0 0] 25
  have hE := ((e1.trans e2).trans e3).trans e4
  simp only [World.size_alloc] at b2 b3 b5
  have hP := hP.ext hE
  have hsz : ((((w.alloc (.cells #[.int .u64 (s : Int), .slice a l.length c] 25)).alloc (.cells #[.int .i64 at_] 3)).alloc (.cells #[.int .u8 (y.toNat : Int)] 5)).alloc (.cells #[.int .u64 0, .slice none 0 0] 25)).heap.size = w.heap.size + 4 := by simp
  clear e1 e2 e3 e4
  have ch := changedAt_Spoil ((((w.alloc (.cells #[.int .u64 (s : Int), .slice a l.length c] 25)).alloc (.cells #[.int .i64 at_] 3)).alloc (.cells #[.int .u8 (y.toNat : Int)] 5)).alloc (.cells #[.int .u64 0, .slice none 0 0] 25)) s k _ l hP #[pt (w.heap.size + 1), pt (w.heap.size + 1 + 1)] (spoilM ⟨s, l⟩ k at_ y).e [] (by simp) (DN w.heap.size (spoilM ⟨s, l⟩ k at_ y)) (fun hn => by
      have : spoilM ⟨s, l⟩ k at_ y = { e := 4 } := atM_none hn
      rw [this]
      exact ⟨rfl, fun _ _ _ _ h => by cases h⟩)
    (fun hr b S W' vv rs x hb1 hb2 hs hN hO W'' i p x2 hp hnum hf => by
      have : spoilM ⟨s, l⟩ k at_ y = spoilAt s l i p at_ y := atM_some hf hp
      rw [this]
      have hrl := right_len hr
      refine (spoil1_any W'' b S s i (w.heap.size + 1) (w.heap.size + 1 + 1) vv l rs p at_ y (hN.ext x2 (by simp)) (hO.ext x2) hb2 hp (by have := parOK_len (chk_num hrl.2.2 p (List.mem_of_getElem? hp)).2.2; omega) (((b2.ext x (by simp)).ext x2 (by simp)).cell 0) (((b3.ext x (by simp)).ext x2 (by simp)).cell 0)).mono ?_
      rintro e w' ⟨s', v', h1, h2, h3, h4, h5⟩
      exact ⟨s', v', h1, h2, h3, fun hz => by obtain ⟨h6, rs', h7⟩ := h4 hz; exact ⟨h6, rs', h7.mono (by omega)⟩, h5⟩)
  have hz : (spoilM ⟨s, l⟩ k at_ y).e ≠ 0 → (spoilM ⟨s, l⟩ k at_ y).n = zNt := by
    rcases atM_cases ⟨s, l⟩ k with ⟨i, p, h1, h2⟩ | h1
    · rw [show spoilM ⟨s, l⟩ k at_ y = spoilAt s l i p at_ y from atM_some h1 h2]; exact spoilAt_zero _ _ _ _ _ _
    · rw [show spoilM ⟨s, l⟩ k at_ y = { e := 4 } from atM_none h1]; exact fun _ => rfl
  have ch := ch.mono fun e w' h => Changed.sum (A := w.heap.size) h (by omega) hz (fun _ _ _ h => h)
  unfold Ans2
  generalize ofM ⟨s, l⟩ (spoilM ⟨s, l⟩ k at_ y) = T at *
  clear hz hP b2 b3
  go_enter Try.func36, Try.ntmps36
  go_upto_region 1 with (fail)
  generalize ((((w.alloc (.cells #[.int .u64 (s : Int), .slice a l.length c] 25)).alloc (.cells #[.int .i64 at_] 3)).alloc (.cells #[.int .u8 (y.toNat : Int)] 5)).alloc (.cells #[.int .u64 0, .slice none 0 0] 25)) = W at *
  generalize hwb : w.heap.size = wb at *
  have HWB := Lib.hid hwb
  clear hwb
  obtain ⟨n0, n1⟩ := b1.c2
  go_wp2_with (go_at_call 55; (with_reducible refine ch.mono ?_); rintro e w1 ⟨v1, rs1, ⟨a1, n1, c1, rfl⟩, rfl, hO1, x1, _⟩; have b5 := b5.ext x1 (by simp); obtain ⟨r0, r1⟩ := b5.c2; have rf := b5.frozen)
  have x3 := ((Ext.refl [wb + 1 + 1 + 1] w1).setCell (p := ⟨wb + 1 + 1 + 1, 0, none⟩) (.inl (by simp)) (.int .u64 (T.n.s : Int))).setCell (p := ⟨wb + 1 + 1 + 1, 1, none⟩) (.inl (by simp)) (.slice a1 n1 c1)
  have hB3 := (b5.set 0 (.int .u64 (T.n.s : Int))).set 1 (.slice a1 n1 c1)
  simp only [List.set_cons_zero, List.set_cons_succ] at hB3
  have hO3 := hO1.other b5 (by decide) (by decide) x3
  have hX3 := (hE.trans x1).trans' x3 (fun i hi => .inr (by have := HWB.out; simp at hi; omega))
  refine ret_cell_tmp Try.results36 rfl hB3 Try.underlying25 rfl net_info rfl ⟨_, rs1, ⟨_, _, _, rfl⟩, rfl, ?_, hX3⟩
  rw [HWB.out]
  exact hO3
end Go.Proofs.Ytpdfmeaemlgniaa
