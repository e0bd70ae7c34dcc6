/-
  PROVED: bowspritlaw03.SumSpread: for every list of bytes and every two ints the call returns true: who is spread over n places, and over m times as many, stands in the place of the one that the other one says, and within them. No condition.
-/
import Derived.Test.YtgibkbbabaenpaaSumD
import Derived.OpenShut
import Derived.ChangeOld
namespace Go.Proofs.Ytgibkbbabaenpaa
open Go.RowKit
set_option linter.unusedVariables false

set_option maxRecDepth 100000 in
set_option maxHeartbeats 1000000 in
theorem walkSpread_out (w : World) (a : Option Addr) (l c : Nat) (x y : Int) (h : 1000 < (l : Int) ∨ x < 1 ∨ y < 1 ∨ 1000 < x ∨ 1000 < y) :
    Calls Try.prog 9 #[.slice a l c, .int .i64 x, .int .i64 y] w fun e w' => e = .returned (.bool true) ∧ Below w.heap.size w w' := by
  by_cases h1 : 1000 < (l : Int)
  · clear h
    go_enter Try.func9, Try.ntmps9
    go_wp2_with (go_at_call 10; refine (wakes_any _).mono ?_; rintro e w0 ⟨rfl, h0⟩)
    go_ret
    exact ⟨rfl, h0.below⟩
  by_cases h2 : x < 1
  · clear h
    go_enter Try.func9, Try.ntmps9
    go_wp2_with (go_at_call 10; refine (wakes_any _).mono ?_; rintro e w0 ⟨rfl, h0⟩)
    go_ret
    exact ⟨rfl, h0.below⟩
  by_cases h3 : y < 1
  · clear h
    go_enter Try.func9, Try.ntmps9
    go_wp2_with (go_at_call 10; refine (wakes_any _).mono ?_; rintro e w0 ⟨rfl, h0⟩)
    go_ret
    exact ⟨rfl, h0.below⟩
  by_cases h4 : 1000 < x
  · clear h
    go_enter Try.func9, Try.ntmps9
    go_wp2_with (go_at_call 10; refine (wakes_any _).mono ?_; rintro e w0 ⟨rfl, h0⟩)
    go_ret
    exact ⟨rfl, h0.below⟩
  have h5 : 1000 < y := by omega
  clear h
  go_enter Try.func9, Try.ntmps9
  go_wp2_with (go_at_call 10; refine (wakes_any _).mono ?_; rintro e w0 ⟨rfl, h0⟩)
  go_ret
  exact ⟨rfl, h0.below⟩

set_option maxRecDepth 100000 in
set_option maxHeartbeats 1000000 in
theorem walkSpread_in (w : World) (v : Value) (ob : Nat) (l : List UInt8) (m n : Nat) (h : Bs w v ob l) (hl : l.length ≤ 1000) (hm : 1 ≤ m) (hn : 1 ≤ n) (hm2 : m ≤ 1000) (hn2 : n ≤ 1000) :
    Calls Try.prog 9 #[v, .int .i64 (m : Int), .int .i64 (n : Int)] w fun e w' => e = .returned (.bool true) ∧ Below w.heap.size w w' := by
  have hP1 : 1 ≤ m * n := Nat.mul_le_mul hm hn
  have hP2 : m * n ≤ 1000000 := Nat.mul_le_mul hm2 hn2
  have hPi : (m : Int) * n = ((m * n : Nat) : Int) := by simp
  have hs1 := fun w1 (he : Ext [] w w1) => Spread_any w1 v ob l n (h.ext he (by simp)) (by omega) hn (by omega)
  have hs2 := fun w1 (he : Ext [] w w1) => Spread_any w1 v ob l (m * n) (h.ext he (by simp)) (by omega) hP1 (by omega)
  have hs3 := fun w1 (he : Ext [] w w1) => Spread_any w1 v ob l 1 (h.ext he (by simp)) (by omega) (by omega) (by omega)
  have e1 : crc l % 1 = 0 := Nat.mod_one _
  have e2 : (crc l % (m * n)) % n = crc l % n := Nat.mod_mul_left_mod _ _ _
  have e3 : crc l % n < n := Nat.mod_lt _ (by omega)
  have e4 : crc l % (m * n) < m * n := Nat.mod_lt _ (by omega)
  rw [e1] at hs3
  obtain ⟨av, cv, rfl⟩ := h.shape
  clear h
  generalize crc l % n = A at *
  generalize crc l % (m * n) = B at *
  generalize m * n = P at *
  have e5 : ((B : Int) % n == (A : Int)) = true := by simp; omega
  have b1 : (A : Int) < n := by omega
  have b2 : (B : Int) < P := by omega
  have b3 : (1 : Int) ≤ n := by omega
  have b4 : (1 : Int) ≤ m := by omega
  have b5 : (n : Int) ≤ 1000 := by omega
  have b6 : (m : Int) ≤ 1000 := by omega
  have b7 : (P : Int) ≤ 1000000 := by omega
  have hs3 : ∀ w1, Ext [] w w1 → Calls Try.prog 20 #[.slice av l.length cv, .int .i64 1] w1 fun e w' => e = .returned (.tuple #[.int .i64 0, .int .i64 0]) ∧ Ext [] w1 w' := hs3
  clear e1 e2
  go_enter Try.func9, Try.ntmps9
  go_wp2_with (first
    | (go_at_call 10; refine (wakes_any _).mono ?_; rintro e w0 ⟨rfl, h0⟩)
    | (go_at_call 20; ((with_reducible refine (hs1 _ h0).mono ?_); rintro e w1 ⟨rfl, h1⟩))
    | (go_at_call 20; ((with_reducible refine (hs2 _ (h0.trans h1)).mono ?_); rintro e w2 ⟨rfl, h2⟩))
    | (go_at_call 20; ((with_reducible refine (hs3 _ ((h0.trans h1).trans h2)).mono ?_); rintro e w3 ⟨rfl, h3⟩)))
  go_ret
  exact ⟨rfl, (((h0.trans h1).trans h2).trans h3).below⟩

open Go.ChangeShapes Go.WideShapes Go.ChangeAt in
theorem walk_SumSpread {H : Type} {enc : TypeId × Value → H} (W : World) (v0 : Value) (d0 : DataW H) (p0 : List MemPlace) (base0 : Nat) (h0 : DataW.Trod enc Try.prog W 0 (fun _ => true) true 22 v0 d0 p0) (k0 : Value.okWide Try.prog W .any base0 22 v0) (v1 : Value) (d1 : DataW H) (p1 : List MemPlace) (base1 : Nat) (h1 : DataW.Trod enc Try.prog W 0 (fun _ => true) true 3 v1 d1 p1) (k1 : Value.okWide Try.prog W .any base1 3 v1) (v2 : Value) (d2 : DataW H) (p2 : List MemPlace) (base2 : Nat) (h2 : DataW.Trod enc Try.prog W 0 (fun _ => true) true 3 v2 d2 p2) (k2 : Value.okWide Try.prog W .any base2 3 v2) :
    Calls Try.prog 9 #[v0, v1, v2] W fun e w' => e = .returned (.bool true) ∧ Below W.heap.size W w' := by
  obtain ⟨x, rfl, rfl, rfl, w1⟩ := open_int Try.underlying3 k1 h1
  obtain ⟨y, rfl, rfl, rfl, w2⟩ := open_int Try.underlying3 k2 h2
  obtain ⟨a, n, c, rfl, ob, l, hl, hB⟩ := read_bytes h0 k0
  subst hl
  by_cases hn : 1000 < (l.length : Int) ∨ x < 1 ∨ y < 1 ∨ 1000 < x ∨ 1000 < y
  · exact walkSpread_out W a _ c x y hn
  · obtain ⟨m, rfl⟩ := Int.eq_ofNat_of_zero_le (show 0 ≤ x by omega)
    obtain ⟨n, rfl⟩ := Int.eq_ofNat_of_zero_le (show 0 ≤ y by omega)
    exact walkSpread_in W _ ob l m n hB (by omega) (by omega) (by omega) (by omega) (by omega)

namespace sumSpread
open Go.ChangeShapes Go.WideShapes Go.ChangeAt Go.RowKit
theorem own : ownKnob Try.prog.godebug = none := by kernel_rfl
theorem laidOut : laidOutB Try.prog = true := by kernel_rfl
set_option maxRecDepth 100000 in
theorem lifted (os : Os) (started : os.Started) (H : Type) (enc : TypeId × Value → H) :
    ReturnsInHanded {} Try.checked os 9 .any (Rows.sumSpreadSpec.pre6 enc Try.prog Try.f9 Rows.sumSpreadRow.domain false) (Rows.sumSpreadSpec.post enc Try.prog Try.f9 false true false false) := by
  refine returnsInHanded_of_change (C := Try.checked) own started (by kernel_rfl) Try.func9
    (ChangeSpec.witness6 (enc := enc) (C := Try.checked) false ⟨#[], #[.slice none 0 0, .int .i64 0, .int .i64 0], []⟩ 8 (by kernel_rfl) (by kernel_rfl) (by kernel_rfl) (by kernel_rfl)) ?_
  intro W base args ds gs before hval0 hW hcnd _
  have hval : ∀ (j : Nat) t v, Try.f9.params[j]? = some t → args[j]? = some v → Value.okWide Try.prog W .any base t v := hval0
  have hW' := hW
  obtain ⟨p, q, hA0, hV, rfl, hfz, hnd⟩ := hW
  have hA : DataW.TrodAll enc Try.prog W 0 (fun _ => true) true Try.f9.params.toList args.toList ds p := hA0
  rw [Try.params9] at hA hval
  obtain ⟨v0, vs0, d0, ds0, p0, q0, hargs, rfl, rfl, h0, r0⟩ := trodAll_cons hA
  obtain ⟨v1, vs1, d1, ds1, p1, q1, rfl, rfl, rfl, h1, r1⟩ := trodAll_cons r0
  obtain ⟨v2, vs2, d2, ds2, p2, q2, rfl, rfl, rfl, h2, r2⟩ := trodAll_cons r1
  obtain ⟨rfl, rfl, rfl⟩ := trodAll_nil r2
  obtain rfl : args = #[v0, v1, v2] := by cases args; simp_all
  obtain ⟨rfl, rfl⟩ := trodVars_none hV
  have lt0 : ∀ x ∈ p0, x.block < W.heap.size := by obtain ⟨m, hm⟩ := h0; exact DataW.trod_lt m _ _ _ hm
  have lt1 : ∀ x ∈ p1, x.block < W.heap.size := by obtain ⟨m, hm⟩ := h1; exact DataW.trod_lt m _ _ _ hm
  have lt2 : ∀ x ∈ p2, x.block < W.heap.size := by obtain ⟨m, hm⟩ := h2; exact DataW.trod_lt m _ _ _ hm
  have k0 := hval 0 22 v0 rfl rfl
  have k1 := hval 1 3 v1 rfl rfl
  have k2 := hval 2 3 v2 rfl rfl
  clear hA0 hval0
  refine (walk_SumSpread W v0 d0 p0 base h0 k0 v1 d1 p1 base h1 k1 v2 d2 p2 base h2 k2).mono fun e W' ⟨he, bel⟩ => ?_
  subst he
  exact ⟨_, rfl, _, _, _, [], _, [], hW', trodAll_mk1 (shut_bool Try.underlying4 _), (trodAll_cons_mk (Below.trod laidOut (by kernel_rfl) (of_decide_eq_true (by kernel_rfl)) h0 bel lt0) (trodAll_cons_mk (Below.trod laidOut (by kernel_rfl) (of_decide_eq_true (by kernel_rfl)) h1 bel lt1) (trodAll_cons_mk (Below.trod laidOut (by kernel_rfl) (of_decide_eq_true (by kernel_rfl)) h2 bel lt2) trodAll_mk0))), rfl, bel.frame _, fun h => by cases h⟩
theorem over : Rows.sumSpreadRow.holds Try.pinned (OpenSpec.ofChange Rows.sumSpreadSpec) :=
  OpenClaim.holds_of_wide 9 Try.f9 rfl rfl rfl rfl rfl rfl rfl ⟨rfl, rfl, rfl, rfl, rfl⟩ rfl rfl rfl rfl rfl (by kernel_rfl) Try.func9 (by kernel_rfl)
    (of_decide_eq_true (by kernel_rfl)) (by unfold Func.isWrapper; first | (rw [if_pos (by decide +kernel)]; kernel_rfl) | (rw [if_neg (by decide +kernel)]; exact ⟨rfl, rfl⟩))
    (fun os started H enc _ => lifted os started H enc)
theorem proved : Rows.SumSpreadSaid := over
#print axioms proved
end sumSpread
end Go.Proofs.Ytgibkbbabaenpaa
