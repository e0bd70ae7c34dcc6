/-
  PROVED: bowspritlaw03.SumPlaces: for every list of bytes and every int the call returns true: the bytes are spread over n places as the document's own sum, divided by n, leaves, or it is refused below 1. No condition.
-/
import Derived.Test.YtgibkbbabaenpaaSumD
import Derived.OpenShut
import Derived.ChangeOld
namespace Go.Proofs.Ytgibkbbabaenpaa
open Go.RowKit
set_option linter.unusedVariables false

theorem walkPlaces_long (w : World) (a : Option Addr) (n c : Nat) (x : Int) (hn : 3000 < (n : Int)) :
    Calls Try.prog 5 #[.slice a n c, .int .i64 x] w fun e w' => e = .returned (.bool true) ∧ Below w.heap.size w w' := by
  go_enter Try.func5, Try.ntmps5
  go_wp2_with (go_at_call 10; refine (wakes_any _).mono ?_; rintro e w0 ⟨rfl, h0⟩)
  go_ret
  exact ⟨rfl, h0.below⟩
set_option maxHeartbeats 400000 in
theorem walkPlaces_low (w : World) (v : Value) (ob : Nat) (l : List UInt8) (x : Int) (h : Bs w v ob l) (hl : l.length ≤ 3000) (hx : x < 1) :
    Calls Try.prog 5 #[v, .int .i64 x] w fun e w' => e = .returned (.bool true) ∧ Below w.heap.size w w' := by
  obtain ⟨av, cv, rfl⟩ := h.shape
  clear h
  go_enter Try.func5, Try.ntmps5
  go_wp2_with (first
    | (go_at_call 10; refine (wakes_any _).mono ?_; rintro e w0 ⟨rfl, h0⟩)
    | (go_at_call 20; refine (Spread_low _ _ x hx).mono ?_; rintro e w1 ⟨rfl, rfl⟩))
  go_ret
  exact ⟨rfl, h0.below⟩
set_option maxHeartbeats 400000 in
theorem walkPlaces_any (w : World) (v : Value) (ob : Nat) (l : List UInt8) (n : Nat) (h : Bs w v ob l) (hl : l.length ≤ 3000) (hn : 1 ≤ n) (hn2 : (n : Int) ≤ 9223372036854775807) :
    Calls Try.prog 5 #[v, .int .i64 (n : Int)] w fun e w' => e = .returned (.bool true) ∧ Below w.heap.size w w' := by
  have hsp := fun w1 (he : Ext [] w w1) => Spread_any w1 v ob l n (h.ext he (by simp)) (by omega) hn hn2
  have hrf := fun w1 (he : Ext [] w w1) => refSum_any w1 v ob l (h.ext he (by simp)) (by omega)
  have hc := crc_lt l
  obtain ⟨av, cv, rfl⟩ := h.shape
  clear h
  generalize crc l = C at *
  have hC : (C : Int) ≤ 4294967295 := by omega
  have hn1 : (1 : Int) ≤ n := by omega
  have hn3 : ¬ (n : Int) < 1 := by omega
  have hr : ((C : Int) % n) = ((C % n : Nat) : Int) := by simp
  have hr0 : ((C % n : Nat) : Int) ≤ 4294967295 := by have := Nat.mod_le C n; omega
  have hr1 : 0 ≤ ((C % n : Nat) : Int) := by omega
  generalize C % n = M at *
  clear hc hn
  go_enter Try.func5, Try.ntmps5
  go_wp2_with (first
    | (go_at_call 10; refine (wakes_any _).mono ?_; rintro e w0 ⟨rfl, h0⟩)
    | (go_at_call 20; refine (hsp _ h0).mono ?_; rintro e w1 ⟨rfl, h1⟩)
    | (go_at_call 13; refine (hrf _ (h0.trans h1)).mono ?_; rintro e w2 ⟨rfl, rfl⟩))
  go_ret
  exact ⟨rfl, (h0.trans h1).below⟩

open Go.ChangeShapes Go.WideShapes Go.ChangeAt in
theorem walk_SumPlaces {H : Type} {enc : TypeId × Value → H} (W : World) (v0 : Value) (d0 : DataW H) (p0 : List MemPlace) (base0 : Nat) (h0 : DataW.Trod enc Try.prog W 0 (fun _ => true) true 22 v0 d0 p0) (k0 : Value.okWide Try.prog W .any base0 22 v0) (v1 : Value) (d1 : DataW H) (p1 : List MemPlace) (base1 : Nat) (h1 : DataW.Trod enc Try.prog W 0 (fun _ => true) true 3 v1 d1 p1) (k1 : Value.okWide Try.prog W .any base1 3 v1) :
    Calls Try.prog 5 #[v0, v1] W fun e w' => e = .returned (.bool true) ∧ Below W.heap.size W w' := by
  obtain ⟨x, rfl, rfl, rfl, w1⟩ := open_int Try.underlying3 k1 h1
  obtain ⟨a, n, c, rfl, ob, l, hl, hB⟩ := read_bytes h0 k0
  subst hl
  by_cases hn : 3000 < (l.length : Int)
  · exact walkPlaces_long W a _ c x hn
  · by_cases hx : x < 1
    · exact walkPlaces_low W _ ob l x hB (by omega) hx
    · obtain ⟨n, rfl⟩ := Int.eq_ofNat_of_zero_le (show 0 ≤ x by omega)
      exact walkPlaces_any W _ ob l n hB (by omega) (by omega) (bounds_i64 w1).2

namespace sumPlaces
open Go.ChangeShapes Go.WideShapes Go.ChangeAt Go.RowKit
theorem own : ownKnob Try.prog.godebug = none := by kernel_rfl
theorem laidOut : laidOutB Try.prog = true := by kernel_rfl
set_option maxRecDepth 100000 in
theorem lifted (os : Os) (started : os.Started) (H : Type) (enc : TypeId × Value → H) :
    ReturnsInHanded {} Try.checked os 5 .any (Rows.sumPlacesSpec.pre6 enc Try.prog Try.f5 Rows.sumPlacesRow.domain false) (Rows.sumPlacesSpec.post enc Try.prog Try.f5 false true false false) := by
  refine returnsInHanded_of_change (C := Try.checked) own started (by kernel_rfl) Try.func5
    (ChangeSpec.witness6 (enc := enc) (C := Try.checked) false ⟨#[], #[.slice none 0 0, .int .i64 0], []⟩ 8 (by kernel_rfl) (by kernel_rfl) (by kernel_rfl) (by kernel_rfl)) ?_
  intro W base args ds gs before hval0 hW hcnd _
  have hval : ∀ (j : Nat) t v, Try.f5.params[j]? = some t → args[j]? = some v → Value.okWide Try.prog W .any base t v := hval0
  have hW' := hW
  obtain ⟨p, q, hA0, hV, rfl, hfz, hnd⟩ := hW
  have hA : DataW.TrodAll enc Try.prog W 0 (fun _ => true) true Try.f5.params.toList args.toList ds p := hA0
  rw [Try.params5] at hA hval
  obtain ⟨v0, vs0, d0, ds0, p0, q0, hargs, rfl, rfl, h0, r0⟩ := trodAll_cons hA
  obtain ⟨v1, vs1, d1, ds1, p1, q1, rfl, rfl, rfl, h1, r1⟩ := trodAll_cons r0
  obtain ⟨rfl, rfl, rfl⟩ := trodAll_nil r1
  obtain rfl : args = #[v0, v1] := by cases args; simp_all
  obtain ⟨rfl, rfl⟩ := trodVars_none hV
  have lt0 : ∀ x ∈ p0, x.block < W.heap.size := by obtain ⟨m, hm⟩ := h0; exact DataW.trod_lt m _ _ _ hm
  have lt1 : ∀ x ∈ p1, x.block < W.heap.size := by obtain ⟨m, hm⟩ := h1; exact DataW.trod_lt m _ _ _ hm
  have k0 := hval 0 22 v0 rfl rfl
  have k1 := hval 1 3 v1 rfl rfl
  clear hA0 hval0
  refine (walk_SumPlaces W v0 d0 p0 base h0 k0 v1 d1 p1 base h1 k1).mono fun e W' ⟨he, bel⟩ => ?_
  subst he
  exact ⟨_, rfl, _, _, _, [], _, [], hW', trodAll_mk1 (shut_bool Try.underlying4 _), (trodAll_cons_mk (Below.trod laidOut (by kernel_rfl) (of_decide_eq_true (by kernel_rfl)) h0 bel lt0) (trodAll_cons_mk (Below.trod laidOut (by kernel_rfl) (of_decide_eq_true (by kernel_rfl)) h1 bel lt1) trodAll_mk0)), rfl, bel.frame _, fun h => by cases h⟩
theorem over : Rows.sumPlacesRow.holds Try.pinned (OpenSpec.ofChange Rows.sumPlacesSpec) :=
  OpenClaim.holds_of_wide 5 Try.f5 rfl rfl rfl rfl rfl rfl rfl ⟨rfl, rfl, rfl, rfl, rfl⟩ rfl rfl rfl rfl rfl (by kernel_rfl) Try.func5 (by kernel_rfl)
    (of_decide_eq_true (by kernel_rfl)) (by unfold Func.isWrapper; first | (rw [if_pos (by decide +kernel)]; kernel_rfl) | (rw [if_neg (by decide +kernel)]; exact ⟨rfl, rfl⟩))
    (fun os started H enc _ => lifted os started H enc)
theorem proved : Rows.SumPlacesSaid := over
#print axioms proved
end sumPlaces
end Go.Proofs.Ytgibkbbabaenpaa
