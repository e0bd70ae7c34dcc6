/-
  Twin; slices.Delete.
-/
import Derived.Test.YtpdfmeaemlgniaaNetJ
import Derived.Deep.RegionLaw
import Derived.Lib.SliceRun
namespace Go.Proofs.Ytpdfmeaemlgniaa
open Go.RowKit
set_option linter.unusedVariables false
set_option linter.unusedSimpArgs false
theorem atM_some {n : Nt} {k i : Nat} {p : Par} {g : Nat → Par → Told} (hi : fnd n.ps k = i) (hp : n.ps[i]? = some p) : atM n k g = g i p := by
  unfold atM; rw [hi, hp]
theorem atM_none {n : Nt} {k : Nat} {g : Nat → Par → Told} (hi : fnd n.ps k = n.ps.length) : atM n k g = { e := 4 } := by
  unfold atM; rw [hi, List.getElem?_eq_none (Nat.le_refl _)]
theorem fnd_le (l : List Par) (k : Nat) : fnd l k ≤ l.length := List.findIdx_le_length
theorem atM_cases (n : Nt) (k : Nat) : (∃ i p, fnd n.ps k = i ∧ n.ps[i]? = some p) ∨ fnd n.ps k = n.ps.length := by
  by_cases h : fnd n.ps k < n.ps.length
  · exact .inl ⟨_, _, rfl, List.getElem?_eq_getElem h⟩
  · exact .inr (by have := fnd_le n.ps k; omega)
theorem addM_zero (n : Nt) (p : Par) : (addM n p).e ≠ 0 → (addM n p).n = zNt := by
  unfold addM
  split
  · exact fun _ => rfl
  · exact fun h => absurd rfl h
theorem addM_num (n : Nt) (p : Par) : (addM n p).num = (addM n p).n.s := by
  unfold addM
  split <;> rfl
set_option maxRecDepth 100000 in
set_option maxHeartbeats 4000000 in
theorem Twin_any (w : World) (s k : Nat) (v : Value) (l : List Par) (hP : Ps w v l) :
    Calls Try.prog 26 #[NV s v, .int .u64 (k : Int)] w (Ans3 w (ofM ⟨s, l⟩ (twinM ⟨s, l⟩ k))) := by
  obtain ⟨a, c, rfl⟩ := hP.shape
  have e1 := (Ext.refl [] w).alloc (.cells #[.int .u64 (s : Int), .slice a l.length c] 25)
  have e2 := (Ext.refl [] (w.alloc (.cells #[.int .u64 (s : Int), .slice a l.length c] 25))).alloc (.cells #[.int .u64 0, .slice none 0 0] 25)
  have b1 := (Blk.new w [.int .u64 (s : Int), .slice a l.length c] 25).ext e2 (by simp)
  have b5 := Blk.new (w.alloc (.cells #[.int .u64 (s : Int), .slice a l.length c] 25)) [.int .u64 0, .slice none 0 0] 25
  have hE := e1.trans e2
  simp only [World.size_alloc] at b5
  have hP := hP.ext hE
  have hsz : ((w.alloc (.cells #[.int .u64 (s : Int), .slice a l.length c] 25)).alloc (.cells #[.int .u64 0, .slice none 0 0] 25)).heap.size = w.heap.size + 2 := by simp
  clear e1 e2
  have ch := changedAt_Twin ((w.alloc (.cells #[.int .u64 (s : Int), .slice a l.length c] 25)).alloc (.cells #[.int .u64 0, .slice none 0 0] 25)) s k _ l hP #[] (twinM ⟨s, l⟩ k).e [] (by simp) (DN w.heap.size (twinM ⟨s, l⟩ k)) (fun hn => by
      have : twinM ⟨s, l⟩ k = { e := 4 } := atM_none hn
      rw [this]
      exact ⟨rfl, fun _ _ _ _ h => by cases h⟩)
    (fun hr b S W' vv rs x hb1 hb2 hs hN hO W'' i p x2 hp hnum hf => by
      have : twinM ⟨s, l⟩ k = addM ⟨s, l⟩ p := atM_some hf hp
      rw [this]
      refine (twin1_any W'' b S s i vv l rs p (hN.ext x2 (by simp)) (hO.ext x2) hb2 (by have := x2.size; omega) hr hp).mono ?_
      rintro e w' ⟨s', v', h1, h2, h3, h4, h5⟩
      exact ⟨s', v', h1, h2, h3, fun hz => by obtain ⟨h6, rs', h7⟩ := h4 hz; exact ⟨h6, rs', h7.mono (by omega)⟩, h5⟩)
  have hz : (twinM ⟨s, l⟩ k).e ≠ 0 → (twinM ⟨s, l⟩ k).n = zNt := by
    rcases atM_cases ⟨s, l⟩ k with ⟨i, p, h1, h2⟩ | h1
    · rw [show twinM ⟨s, l⟩ k = addM ⟨s, l⟩ p from atM_some h1 h2]; exact addM_zero _ _
    · rw [show twinM ⟨s, l⟩ k = { e := 4 } from atM_none h1]; exact fun _ => rfl
  have hnum : (ofM ⟨s, l⟩ (twinM ⟨s, l⟩ k)).num = (ofM ⟨s, l⟩ (twinM ⟨s, l⟩ k)).n.s := by
    unfold ofM
    split
    · rcases atM_cases ⟨s, l⟩ k with ⟨i, p, h1, h2⟩ | h1
      · rw [show twinM ⟨s, l⟩ k = addM ⟨s, l⟩ p from atM_some h1 h2]; exact addM_num _ _
      · rw [show twinM ⟨s, l⟩ k = { e := 4 } from atM_none h1]; rfl
    · rfl
  have ch := ch.mono fun e w' h => Changed.sum (A := w.heap.size) h (by omega) hz (fun _ _ _ h => h)
  unfold Ans3
  rw [hnum]
  generalize ofM ⟨s, l⟩ (twinM ⟨s, l⟩ k) = T at *
  clear hz hnum hP
  go_enter Try.func26, Try.ntmps26
  go_upto_region 1 with (fail)
  generalize ((w.alloc (.cells #[.int .u64 (s : Int), .slice a l.length c] 25)).alloc (.cells #[.int .u64 0, .slice none 0 0] 25)) = W at *
  generalize hwb : w.heap.size = wb at *
  have HWB := Lib.hid hwb
  clear hwb
  obtain ⟨n0, n1⟩ := b1.c2
  go_upto_region 2 with (go_at_call 55; (with_reducible refine ch.mono ?_); rintro e w1 ⟨v1, rs1, ⟨a1, n1, c1, rfl⟩, rfl, hO1, x1, _⟩; have b5 := b5.ext x1 (by simp))
  have e2 := (Ext.refl [] w1).alloc (.cells #[.int .u64 (T.n.s : Int), .slice a1 n1 c1] 25)
  have d2 := Blk.new w1 [.int .u64 (T.n.s : Int), .slice a1 n1 c1] 25
  have b5 := b5.ext e2 (by simp)
  have hO2 := hO1.ext e2
  have hlt := (b5).lt
  have hlt1 := x1.size
  generalize w1.alloc (.cells #[.int .u64 (T.n.s : Int), .slice a1 n1 c1] 25) = W2 at *
  obtain ⟨d0, d1⟩ := d2.c2
  obtain ⟨r0, r1⟩ := b5.c2
  have rf := b5.frozen
  go_region
  have x3 := ((Ext.refl [wb + 1] W2).setCell (p := ⟨wb + 1, 0, none⟩) (.inl (by simp)) (.int .u64 (T.n.s : Int))).setCell (p := ⟨wb + 1, 1, none⟩) (.inl (by simp)) (.slice a1 n1 c1)
  have hB3 := (b5.set 0 (.int .u64 (T.n.s : Int))).set 1 (.slice a1 n1 c1)
  simp only [List.set_cons_zero, List.set_cons_succ] at hB3
  have hO3 := hO2.other b5 (by decide) (by decide) x3
  have hX3 := ((hE.trans x1).trans e2).trans' x3 (fun i hi => .inr (by have := HWB.out; simp at hi; omega))
  have HH := Lib.hid (And.intro hB3 (And.intro hO3 hX3))
  clear hB3 hO3 hX3 x3 hO2 hO1 ch
  go_wp2_with (fail)
  refine ret_cell_tmp2 Try.results26 rfl (Blk.drew HH.out.1) Try.underlying25 rfl net_info rfl ⟨_, rs1, ⟨_, _, _, rfl⟩, rfl, ?_, HH.out.2.2.drew⟩
  rw [HWB.out]
  exact HH.out.2.1.ext ((Ext.refl [] _).drew)
end Go.Proofs.Ytpdfmeaemlgniaa
