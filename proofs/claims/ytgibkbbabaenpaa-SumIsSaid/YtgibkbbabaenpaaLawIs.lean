/-
  PROVED: bowspritlaw03.SumIs: for every two lists of bytes the call returns true: their sums are what a register comes to, bit by bit, and how far they are apart is what the document says. No condition.
-/
import Derived.Test.YtgibkbbabaenpaaSumD
import Derived.OpenShut
import Derived.ChangeOld
namespace Go.Proofs.Ytgibkbbabaenpaa
open Go.RowKit
set_option linter.unusedVariables false

set_option maxHeartbeats 400000 in
theorem walkIs_out (w : World) (a a' : Option Addr) (m c m' c' : Nat) (h : 3000 < (m : Int) ∨ 3000 < (m' : Int)) :
    Calls Try.prog 3 #[.slice a m c, .slice a' m' c'] w fun e w' => e = .returned (.bool true) ∧ Below w.heap.size w w' := by
  by_cases h1 : 3000 < (m : Int)
  · clear h
    go_enter Try.func3, Try.ntmps3
    go_wp2_with (go_at_call 10; refine (wakes_any _).mono ?_; rintro e w0 ⟨rfl, h0⟩)
    go_ret
    exact ⟨rfl, h0.below⟩
  · have h2 : 3000 < (m' : Int) := by omega
    clear h
    go_enter Try.func3, Try.ntmps3
    go_wp2_with (go_at_call 10; refine (wakes_any _).mono ?_; rintro e w0 ⟨rfl, h0⟩)
    go_ret
    exact ⟨rfl, h0.below⟩

set_option maxHeartbeats 1000000 in
theorem walkIs_ne (w : World) (va vb : Value) (oa ob : Nat) (la lb : List UInt8) (ha : Bs w va oa la) (hb : Bs w vb ob lb) (hl : la.length ≤ 3000) (hl' : lb.length ≤ 3000) (hne : la.length ≠ lb.length) :
    Calls Try.prog 3 #[va, vb] w fun e w' => e = .returned (.bool true) ∧ Below w.heap.size w w' := by
  have i1 : ((la.length : Int) != lb.length) = true := by simpa using (show ¬ (la.length : Int) = lb.length by omega)
  have i2 : (la.length != lb.length) = true := by simpa using hne
  have hap := fun w1 (he : Ext [] w w1) => Apart_len w1 va vb oa ob la lb (ha.ext he (by simp)) (hb.ext he (by simp)) hne
  have hs := fun w1 (he : Ext [] w w1) => Sum32_any w1 va oa la (ha.ext he (by simp)) (by omega)
  have hr := fun w1 (he : Ext [] w w1) => refSum_any w1 va oa la (ha.ext he (by simp)) (by omega)
  obtain ⟨av, cv, rfl⟩ := ha.shape
  obtain ⟨av', cv', rfl⟩ := hb.shape
  clear ha hb hne
  generalize crc la = A at *
  generalize la.length = m at *
  generalize lb.length = n at *
  go_enter Try.func3, Try.ntmps3
  go_wp2_with (first
    | (go_at_call 10; refine (wakes_any _).mono ?_; rintro e w0 ⟨rfl, h0⟩)
    | (go_at_call 11; refine (hap _ h0).mono ?_; rintro e w1 ⟨rfl, rfl⟩)
    | (go_at_call 12; refine (hs _ h0).mono ?_; rintro e w1 ⟨rfl, h1⟩)
    | (go_at_call 13; refine (hr _ (h0.trans h1)).mono ?_; rintro e w2 ⟨rfl, rfl⟩))
  go_ret
  exact ⟨rfl, (h0.trans h1).below⟩

set_option maxHeartbeats 1000000 in
theorem walkIs_eq (w : World) (va vb : Value) (oa ob : Nat) (la lb : List UInt8) (ha : Bs w va oa la) (hb : Bs w vb ob lb) (hl : la.length ≤ 3000) (hl' : lb.length ≤ 3000) (heq : la.length = lb.length) :
    Calls Try.prog 3 #[va, vb] w fun e w' => e = .returned (.bool true) ∧ Below w.heap.size w w' := by
  have i1 : ((la.length : Int) != lb.length) = false := by simpa using (show (la.length : Int) = lb.length by omega)
  have i2 : (la.length != lb.length) = false := by simpa using heq
  have hap := fun w1 (he : Ext [] w w1) => Apart_any w1 va vb oa ob la lb (ha.ext he (by simp)) (hb.ext he (by simp)) heq (by omega)
  have hs := fun w1 (he : Ext [] w w1) => Sum32_any w1 va oa la (ha.ext he (by simp)) (by omega)
  have hr := fun w1 (he : Ext [] w w1) => refSum_any w1 va oa la (ha.ext he (by simp)) (by omega)
  have hr2 := fun w1 (he : Ext [] w w1) => refSum_any w1 vb ob lb (hb.ext he (by simp)) (by omega)
  have hx := xor_u32 (crc la) (crc lb) (crc_lt la) (crc_lt lb)
  obtain ⟨av, cv, rfl⟩ := ha.shape
  obtain ⟨av', cv', rfl⟩ := hb.shape
  clear ha hb heq
  generalize crc la ^^^ crc lb = X at *
  generalize crc la = A at *
  generalize crc lb = B at *
  generalize la.length = m at *
  generalize lb.length = n at *
  go_enter Try.func3, Try.ntmps3
  go_wp2_with (first
    | (go_at_call 10; refine (wakes_any _).mono ?_; rintro e w0 ⟨rfl, h0⟩)
    | (go_at_call 11; refine (hap _ h0).mono ?_; rintro e w1 ⟨rfl, h1⟩)
    | (go_at_call 12; refine (hs _ (h0.trans h1)).mono ?_; rintro e w2 ⟨rfl, h2⟩)
    | (go_at_call 13; ((with_reducible refine (hr _ ((h0.trans h1).trans h2)).mono ?_); rintro e w3 ⟨rfl, rfl⟩))
    | (go_at_call 13; ((with_reducible refine (hr2 _ ((h0.trans h1).trans h2)).mono ?_); rintro e w3 ⟨rfl, rfl⟩)))
  go_ret
  exact ⟨rfl, ((h0.trans h1).trans h2).below⟩

open Go.ChangeShapes Go.WideShapes Go.ChangeAt in
theorem walk_SumIs {H : Type} {enc : TypeId × Value → H} (W : World) (v0 : Value) (d0 : DataW H) (p0 : List MemPlace) (base0 : Nat) (h0 : DataW.Trod enc Try.prog W 0 (fun _ => true) true 22 v0 d0 p0) (k0 : Value.okWide Try.prog W .any base0 22 v0) (v1 : Value) (d1 : DataW H) (p1 : List MemPlace) (base1 : Nat) (h1 : DataW.Trod enc Try.prog W 0 (fun _ => true) true 22 v1 d1 p1) (k1 : Value.okWide Try.prog W .any base1 22 v1) :
    Calls Try.prog 3 #[v0, v1] W fun e w' => e = .returned (.bool true) ∧ Below W.heap.size W w' := by
  obtain ⟨a, n, c, rfl, oa, la, hl, hA⟩ := read_bytes h0 k0
  subst hl
  obtain ⟨a', n', c', rfl, ob, lb, hl, hB⟩ := read_bytes h1 k1
  subst hl
  by_cases hn : 3000 < (la.length : Int) ∨ 3000 < (lb.length : Int)
  · exact walkIs_out W a a' _ c _ c' hn
  · by_cases heq : la.length = lb.length
    · exact walkIs_eq W _ _ oa ob la lb hA hB (by omega) (by omega) heq
    · exact walkIs_ne W _ _ oa ob la lb hA hB (by omega) (by omega) heq

namespace sumIs
open Go.ChangeShapes Go.WideShapes Go.ChangeAt Go.RowKit
theorem own : ownKnob Try.prog.godebug = none := by kernel_rfl
theorem laidOut : laidOutB Try.prog = true := by kernel_rfl
set_option maxRecDepth 100000 in
theorem lifted (os : Os) (started : os.Started) (H : Type) (enc : TypeId × Value → H) :
    ReturnsInHanded {} Try.checked os 3 .any (Rows.sumIsSpec.pre6 enc Try.prog Try.f3 Rows.sumIsRow.domain false) (Rows.sumIsSpec.post enc Try.prog Try.f3 false true false false) := by
  refine returnsInHanded_of_change (C := Try.checked) own started (by kernel_rfl) Try.func3
    (ChangeSpec.witness6 (enc := enc) (C := Try.checked) false ⟨#[], #[.slice none 0 0, .slice none 0 0], []⟩ 8 (by kernel_rfl) (by kernel_rfl) (by kernel_rfl) (by kernel_rfl)) ?_
  intro W base args ds gs before hval0 hW hcnd _
  have hval : ∀ (j : Nat) t v, Try.f3.params[j]? = some t → args[j]? = some v → Value.okWide Try.prog W .any base t v := hval0
  have hW' := hW
  obtain ⟨p, q, hA0, hV, rfl, hfz, hnd⟩ := hW
  have hA : DataW.TrodAll enc Try.prog W 0 (fun _ => true) true Try.f3.params.toList args.toList ds p := hA0
  rw [Try.params3] at hA hval
  obtain ⟨v0, vs0, d0, ds0, p0, q0, hargs, rfl, rfl, h0, r0⟩ := trodAll_cons hA
  obtain ⟨v1, vs1, d1, ds1, p1, q1, rfl, rfl, rfl, h1, r1⟩ := trodAll_cons r0
  obtain ⟨rfl, rfl, rfl⟩ := trodAll_nil r1
  obtain rfl : args = #[v0, v1] := by cases args; simp_all
  obtain ⟨rfl, rfl⟩ := trodVars_none hV
  have lt0 : ∀ x ∈ p0, x.block < W.heap.size := by obtain ⟨m, hm⟩ := h0; exact DataW.trod_lt m _ _ _ hm
  have lt1 : ∀ x ∈ p1, x.block < W.heap.size := by obtain ⟨m, hm⟩ := h1; exact DataW.trod_lt m _ _ _ hm
  have k0 := hval 0 22 v0 rfl rfl
  have k1 := hval 1 22 v1 rfl rfl
  clear hA0 hval0
  refine (walk_SumIs W v0 d0 p0 base h0 k0 v1 d1 p1 base h1 k1).mono fun e W' ⟨he, bel⟩ => ?_
  subst he
  exact ⟨_, rfl, _, _, _, [], _, [], hW', trodAll_mk1 (shut_bool Try.underlying4 _), (trodAll_cons_mk (Below.trod laidOut (by kernel_rfl) (of_decide_eq_true (by kernel_rfl)) h0 bel lt0) (trodAll_cons_mk (Below.trod laidOut (by kernel_rfl) (of_decide_eq_true (by kernel_rfl)) h1 bel lt1) trodAll_mk0)), rfl, bel.frame _, fun h => by cases h⟩
theorem over : Rows.sumIsRow.holds Try.pinned (OpenSpec.ofChange Rows.sumIsSpec) :=
  OpenClaim.holds_of_wide 3 Try.f3 rfl rfl rfl rfl rfl rfl rfl ⟨rfl, rfl, rfl, rfl, rfl⟩ rfl rfl rfl rfl rfl (by kernel_rfl) Try.func3 (by kernel_rfl)
    (of_decide_eq_true (by kernel_rfl)) (by unfold Func.isWrapper; first | (rw [if_pos (by decide +kernel)]; kernel_rfl) | (rw [if_neg (by decide +kernel)]; exact ⟨rfl, rfl⟩))
    (fun os started H enc _ => lifted os started H enc)
theorem proved : Rows.SumIsSaid := over
#print axioms proved
end sumIs
end Go.Proofs.Ytgibkbbabaenpaa
