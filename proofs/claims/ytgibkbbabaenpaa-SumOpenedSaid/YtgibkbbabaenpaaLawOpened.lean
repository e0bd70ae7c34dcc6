/-
  PROVED: bowspritlaw03.SumOpened: for every list of bytes, int and byte the call returns true: what was sealed twice is opened twice; with one byte that is another one, wherever, it is not opened. No condition.
-/
import Derived.Test.YtgibkbbabaenpaaSumE
import Derived.OpenShut
import Derived.ChangeOld
namespace Go.Proofs.Ytgibkbbabaenpaa
open Go.RowKit
set_option linter.unusedVariables false

theorem turned_none' : ∀ (l : List UInt8), turned l (List.replicate l.length 0) = l
  | [] => rfl
  | x :: l => by
    show (x ^^^ 0) :: turned l (List.replicate l.length 0) = _
    have e : x ^^^ 0 = x := by apply UInt8.toNat_inj.1; rw [UInt8.toNat_xor]; simp
    rw [e, turned_none' l]
/-- one byte turned -/
theorem turned_one (l : List UInt8) (p : Nat) (x y : UInt8) (hx : l[p]? = some x) : turned l (List.replicate p 0 ++ [y] ++ List.replicate (l.length - p - 1) 0) = l.set p (x ^^^ y) := by
  obtain ⟨hp, hxe⟩ := List.getElem?_eq_some_iff.1 hx
  have e : l = l.take p ++ [x] ++ l.drop (p + 1) := by
    rw [List.append_assoc, ← hxe, List.singleton_append, ← List.drop_eq_getElem_cons hp, List.take_append_drop]
  have l1 : (l.take p).length = p := by rw [List.length_take]; omega
  have l2 : (l.drop (p + 1)).length = l.length - p - 1 := by rw [List.length_drop]; omega
  have e2 : l.set p (x ^^^ y) = l.take p ++ [x ^^^ y] ++ l.drop (p + 1) := by
    rw [List.set_eq_take_append_cons_drop, if_pos hp, List.append_assoc]; rfl
  have e3 : turned (l.take p ++ [x] ++ l.drop (p + 1)) (List.replicate p 0 ++ [y] ++ List.replicate (l.length - p - 1) 0) = l.take p ++ [x ^^^ y] ++ l.drop (p + 1) := by
    unfold turned
    rw [List.zipWith_append (by rw [List.length_append, List.length_append, List.length_replicate, l1]; rfl), List.zipWith_append (by rw [List.length_replicate, l1])]
    have a1 := turned_none' (l.take p)
    have a2 := turned_none' (l.drop (p + 1))
    rw [l1] at a1
    rw [l2] at a2
    unfold turned at a1 a2
    rw [a1, a2]; rfl
  rw [e2, ← e3, ← e]
theorem xor_ne (x y : UInt8) (h : y ≠ 0) : x ^^^ y ≠ x := by
  intro e
  apply h
  have e1 := congrArg UInt8.toNat e
  rw [UInt8.toNat_xor] at e1
  have e2 := congrArg (x.toNat ^^^ ·) e1
  simp only [xor_cancel, Nat.xor_self] at e2
  exact UInt8.toNat_inj.1 (by simpa using e2)
/-- what was sealed and has one byte that is another one is not opened -/
theorem opened_spoiled (m : List UInt8) (p : Nat) (x y : UInt8) (hx : (m ++ le4 (crc m))[p]? = some x) (hy : y ≠ 0) : opened ((m ++ le4 (crc m)).set p (x ^^^ y)) = none := by
  have hlen : ((m ++ le4 (crc m)).set p (x ^^^ y)).length - 4 = m.length := by rw [List.length_set, List.length_append, le4_length]; omega
  unfold opened
  rw [hlen]
  by_cases hp : p < m.length
  · rw [List.getElem?_append_left hp] at hx
    rw [List.set_append_left _ _ hp, List.drop_left' (by simp), List.take_left' (by simp), if_neg]
    intro e
    have := le4_inj (crc_lt m) (crc_lt _) e
    rw [← turned_one m p x y hx] at this
    exact crc_one m p (m.length - p - 1) y hy (by omega) this
  · rw [List.getElem?_append_right (by omega)] at hx
    rw [List.set_append_right _ _ (by omega), List.drop_left' rfl, List.take_left' rfl, if_neg]
    intro e
    have e2 : ((le4 (crc m)).set (p - m.length) (x ^^^ y))[p - m.length]? = (le4 (crc m))[p - m.length]? := by rw [e]
    have hl : p - m.length < (le4 (crc m)).length := (List.getElem?_eq_some_iff.1 hx).1
    rw [hx, List.getElem?_set_self hl] at e2
    exact xor_ne x y hy (by simpa using e2)

theorem walkOpened_out (w : World) (a : Option Addr) (n c : Nat) (x y : Int) (hn : 1000 < (n : Int)) :
    Calls Try.prog 8 #[.slice a n c, .int .i64 x, .int .u8 y] w fun e w' => e = .returned (.bool true) ∧ Below w.heap.size w w' := by
  go_enter Try.func8, Try.ntmps8
  go_wp2_with (go_at_call 10; refine (wakes_any _).mono ?_; rintro e w0 ⟨rfl, h0⟩)
  go_ret
  exact ⟨rfl, h0.below⟩

theorem place_in (x m : Int) (h : 1 ≤ m) (h2 : m ≤ 1000000) : ∃ p : Nat, (IntKind.u64.wrap x).tmod m = p ∧ (p : Int) < m := by
  have e : (IntKind.u64.wrap x).tmod m = (IntKind.u64.wrap x) % m := Int.tmod_eq_emod_of_nonneg (by rw [wrap_u64_mod]; omega)
  rw [e]
  have l0 := Int.emod_nonneg (IntKind.u64.wrap x) (show m ≠ 0 by omega)
  have l1 := Int.emod_lt_of_pos (IntKind.u64.wrap x) (show 0 < m by omega)
  generalize (IntKind.u64.wrap x) % m = y at *
  exact ⟨y.toNat, by omega, by omega⟩

set_option maxRecDepth 100000 in
set_option maxHeartbeats 1000000 in
theorem walkOpened_in (w : World) (v : Value) (ob : Nat) (l : List UInt8) (x : Int) (y : UInt8) (h : Bs w v ob l) (hl : l.length ≤ 1000) :
    Calls Try.prog 8 #[v, .int .i64 x, .int .u8 (y.toNat : Int)] w fun e w' => e = .returned (.bool true) ∧ Below w.heap.size w w' := by
  obtain ⟨p, hP, hp1⟩ := place_in x ((l.length : Int) + 8) (by omega) (by omega)
  have l1 : (l ++ le4 (crc l)).length = l.length + 4 := by rw [List.length_append, le4_length]
  have l2 : (l ++ le4 (crc l) ++ le4 (crc (l ++ le4 (crc l)))).length = l.length + 8 := by rw [List.length_append, l1, le4_length]
  have hs1 := fun w1 (he : Ext [] w w1) => Seal_bs w1 v ob l (h.ext he (by simp)) (by omega)
  have hs2 : ∀ w1 g c, OwnB w1 (.slice (some ⟨g, 0, none⟩) (l.length + 4) c) g (l ++ le4 (crc l)) → Calls Try.prog 15 #[.slice (some ⟨g, 0, none⟩) (l.length + 4) c] w1 fun e w' => ∃ g2 c2, e = .returned (.slice (some ⟨g2, 0, none⟩) (l.length + 8) c2) ∧ l.length + 8 ≤ c2 ∧ OwnB w' (.slice (some ⟨g2, 0, none⟩) (l.length + 8) c2) g2 (l ++ le4 (crc l) ++ le4 (crc (l ++ le4 (crc l)))) ∧ w1.heap.size ≤ g2 ∧ Ext [] w1 w' := by
    intro w1 g c hb
    refine (Seal_bs w1 _ g _ hb.bs (by omega)).mono ?_
    rintro e w' ⟨g2, c2, rfl, h1, h2, h3⟩
    rw [l1] at *
    obtain ⟨c3, hc3, hv⟩ := h1.shape
    simp only [Value.slice.injEq] at hv
    exact ⟨g2, c2, rfl, by omega, h1, h2, h3⟩
  have ho1 := fun w1 g c (hb : Bs w1 (.slice (some ⟨g, 0, none⟩) (l.length + 8) c) g (l ++ le4 (crc l) ++ le4 (crc (l ++ le4 (crc l))))) => Open_yes w1 _ g _ _ hb (by omega) (by omega) (opened_seal (l ++ le4 (crc l)))
  have ho2 := fun w1 v1 o1 (hb : Bs w1 v1 o1 (l ++ le4 (crc l))) => Open_yes w1 v1 o1 _ _ hb (by omega) (by omega) (opened_seal l)
  have heq := fun w1 v1 o1 (hb : Bs w1 v1 o1 l) (he : Ext [] w w1) => Equal_any w1 v1 v o1 ob l l hb (h.ext he (by simp))
  rw [beq_self_eq_true] at heq
  have hbad := fun w1 g c z (hz : (l ++ le4 (crc l) ++ le4 (crc (l ++ le4 (crc l))))[p]? = some z) (hy : y ≠ 0) (hb : Bs w1 (.slice (some ⟨g, 0, none⟩) (l.length + 8) c) g ((l ++ le4 (crc l) ++ le4 (crc (l ++ le4 (crc l)))).set p (z ^^^ y))) => Open_no w1 _ g _ hb (by rw [List.length_set]; omega) (by rw [List.length_set]; omega) (opened_spoiled (l ++ le4 (crc l)) p z y hz hy)
  have L1 := Lib.hid l1
  have L2 := Lib.hid l2
  obtain ⟨av, cv, rfl⟩ := h.shape
  clear l1 l2 h
  generalize l ++ le4 (crc l) ++ le4 (crc (l ++ le4 (crc l))) = S at *
  generalize l ++ le4 (crc l) = M at *
  have hpl : p < S.length := by rw [L2.out]; omega
  obtain ⟨z, hz0⟩ : ∃ z, S[p]? = some z := ⟨_, List.getElem?_eq_getElem hpl⟩
  have hz := Lib.hid hz0
  have hxy := xor_u8 z y
  have hset := fun w1 g c (hb : OwnB w1 (.slice (some ⟨g, 0, none⟩) (l.length + 8) c) g S) => hb.set p (z ^^^ y) hpl
  have hbad := fun w1 g c => hbad w1 g c z hz0
  clear hz0 hpl
  by_cases hy : y = 0
  · have hy0 : ((y.toNat : Int) == 0) = true := by subst hy; rfl
    clear hy hbad hset
    go_enter Try.func8, Try.ntmps8
    go_wp2_with (first
    | (go_at_call 10; refine (wakes_any _).mono ?_; rintro e w0 ⟨rfl, h0⟩)
    | (go_at_call 15; ((with_reducible refine (hs1 _ h0).mono ?_); rintro e w1 ⟨g1, c1, rfl, hO1, hg1, h1⟩))
    | (go_at_call 15; ((with_reducible refine (hs2 _ _ _ hO1).mono ?_); rintro e w2 ⟨g2, c2, rfl, hc2, hO2, hg2, h2⟩))
    | (go_at_call 16; ((with_reducible refine (ho1 _ _ _ hO2.bs).mono ?_); rintro e w3 ⟨v3, rfl, hN3, h3⟩; obtain ⟨o3, hB3, _⟩ := hN3.bs; obtain ⟨a3, c3, rfl⟩ := hB3.shape))
    | (go_at_call 16; ((with_reducible refine (ho2 _ _ _ hB3).mono ?_); rintro e w4 ⟨v4, rfl, hN4, h4⟩; obtain ⟨o4, hB4, _⟩ := hN4.bs; have h4' := (((h0.trans h1).trans h2).trans h3).trans h4; have hO4 := hO2.ext (h3.trans h4) (by simp); obtain ⟨k1, k2⟩ := hO4.cell p z hz.out))
    | (go_at_call 23; refine (heq _ _ _ hB4 h4').mono ?_; rintro e w5 ⟨rfl, rfl⟩))
    go_ret
    exact ⟨rfl, h4'.below⟩
  · have hy0 : ((y.toNat : Int) == 0) = false := by
      rw [beq_eq_false_iff_ne]
      intro e
      exact hy (UInt8.toNat_inj.1 (by simpa using e))
    have HY := Lib.hid hy
    generalize (z ^^^ y).toNat = q at hxy hset
    clear hy
    go_enter Try.func8, Try.ntmps8
    go_wp2_with (first
    | (go_at_call 10; refine (wakes_any _).mono ?_; rintro e w0 ⟨rfl, h0⟩)
    | (go_at_call 15; ((with_reducible refine (hs1 _ h0).mono ?_); rintro e w1 ⟨g1, c1, rfl, hO1, hg1, h1⟩))
    | (go_at_call 15; ((with_reducible refine (hs2 _ _ _ hO1).mono ?_); rintro e w2 ⟨g2, c2, rfl, hc2, hO2, hg2, h2⟩))
    | (go_at_call 16; ((with_reducible refine (ho1 _ _ _ hO2.bs).mono ?_); rintro e w3 ⟨v3, rfl, hN3, h3⟩; obtain ⟨o3, hB3, _⟩ := hN3.bs; obtain ⟨a3, c3, rfl⟩ := hB3.shape))
    | (go_at_call 16; ((with_reducible refine (ho2 _ _ _ hB3).mono ?_); rintro e w4 ⟨v4, rfl, hN4, h4⟩; obtain ⟨o4, hB4, _⟩ := hN4.bs; have h4' := (((h0.trans h1).trans h2).trans h3).trans h4; have hO4 := hO2.ext (h3.trans h4) (by simp); obtain ⟨k1, k2⟩ := hO4.cell p z hz.out))
    | (go_at_call 23; refine (heq _ _ _ hB4 h4').mono ?_; rintro e w5 ⟨rfl, rfl⟩)
      | (go_at_call 16; ((with_reducible refine (hbad _ _ _ HY.out (hset _ _ _ hO4).bs).mono ?_); rintro e w6 ⟨rfl, h6⟩)))
    go_ret
    exact ⟨rfl, ((h4'.setCell (.inr (by show w.heap.size ≤ g2; exact Nat.le_trans (h0.trans h1).size hg2)) _).trans h6).below⟩

open Go.ChangeShapes Go.WideShapes Go.ChangeAt in
theorem walk_SumOpened {H : Type} {enc : TypeId × Value → H} (W : World) (v0 : Value) (d0 : DataW H) (p0 : List MemPlace) (base0 : Nat) (h0 : DataW.Trod enc Try.prog W 0 (fun _ => true) true 22 v0 d0 p0) (k0 : Value.okWide Try.prog W .any base0 22 v0) (v1 : Value) (d1 : DataW H) (p1 : List MemPlace) (base1 : Nat) (h1 : DataW.Trod enc Try.prog W 0 (fun _ => true) true 3 v1 d1 p1) (k1 : Value.okWide Try.prog W .any base1 3 v1) (v2 : Value) (d2 : DataW H) (p2 : List MemPlace) (base2 : Nat) (h2 : DataW.Trod enc Try.prog W 0 (fun _ => true) true 5 v2 d2 p2) (k2 : Value.okWide Try.prog W .any base2 5 v2) :
    Calls Try.prog 8 #[v0, v1, v2] W fun e w' => e = .returned (.bool true) ∧ Below W.heap.size W w' := by
  obtain ⟨x, rfl, rfl, rfl, w1⟩ := open_int Try.underlying3 k1 h1
  obtain ⟨y, rfl, rfl, rfl, w2⟩ := open_int Try.underlying5 k2 h2
  obtain ⟨v, n, cp, rfl, ob, l, hl, hB⟩ := read_bytes h0 k0
  subst hl
  by_cases hn : 1000 < (l.length : Int)
  · exact walkOpened_out W v _ cp x y hn
  · have hw := bounds_u8 w2
    obtain ⟨z, rfl⟩ : ∃ z : UInt8, y = (z.toNat : Int) := ⟨UInt8.ofNat y.toNat, by simp; omega⟩
    exact walkOpened_in W _ ob l x z hB (by omega)

namespace sumOpened
open Go.ChangeShapes Go.WideShapes Go.ChangeAt Go.RowKit
theorem own : ownKnob Try.prog.godebug = none := by kernel_rfl
theorem laidOut : laidOutB Try.prog = true := by kernel_rfl
set_option maxRecDepth 100000 in
theorem lifted (os : Os) (started : os.Started) (H : Type) (enc : TypeId × Value → H) :
    ReturnsInHanded {} Try.checked os 8 .any (Rows.sumOpenedSpec.pre6 enc Try.prog Try.f8 Rows.sumOpenedRow.domain false) (Rows.sumOpenedSpec.post enc Try.prog Try.f8 false true false false) := by
  refine returnsInHanded_of_change (C := Try.checked) own started (by kernel_rfl) Try.func8
    (ChangeSpec.witness6 (enc := enc) (C := Try.checked) false ⟨#[], #[.slice none 0 0, .int .i64 0, .int .u8 0], []⟩ 8 (by kernel_rfl) (by kernel_rfl) (by kernel_rfl) (by kernel_rfl)) ?_
  intro W base args ds gs before hval0 hW hcnd _
  have hval : ∀ (j : Nat) t v, Try.f8.params[j]? = some t → args[j]? = some v → Value.okWide Try.prog W .any base t v := hval0
  have hW' := hW
  obtain ⟨p, q, hA0, hV, rfl, hfz, hnd⟩ := hW
  have hA : DataW.TrodAll enc Try.prog W 0 (fun _ => true) true Try.f8.params.toList args.toList ds p := hA0
  rw [Try.params8] at hA hval
  obtain ⟨v0, vs0, d0, ds0, p0, q0, hargs, rfl, rfl, h0, r0⟩ := trodAll_cons hA
  obtain ⟨v1, vs1, d1, ds1, p1, q1, rfl, rfl, rfl, h1, r1⟩ := trodAll_cons r0
  obtain ⟨v2, vs2, d2, ds2, p2, q2, rfl, rfl, rfl, h2, r2⟩ := trodAll_cons r1
  obtain ⟨rfl, rfl, rfl⟩ := trodAll_nil r2
  obtain rfl : args = #[v0, v1, v2] := by cases args; simp_all
  obtain ⟨rfl, rfl⟩ := trodVars_none hV
  have lt0 : ∀ x ∈ p0, x.block < W.heap.size := by obtain ⟨m, hm⟩ := h0; exact DataW.trod_lt m _ _ _ hm
  have lt1 : ∀ x ∈ p1, x.block < W.heap.size := by obtain ⟨m, hm⟩ := h1; exact DataW.trod_lt m _ _ _ hm
  have lt2 : ∀ x ∈ p2, x.block < W.heap.size := by obtain ⟨m, hm⟩ := h2; exact DataW.trod_lt m _ _ _ hm
  have k0 := hval 0 22 v0 rfl rfl
  have k1 := hval 1 3 v1 rfl rfl
  have k2 := hval 2 5 v2 rfl rfl
  clear hA0 hval0
  refine (walk_SumOpened W v0 d0 p0 base h0 k0 v1 d1 p1 base h1 k1 v2 d2 p2 base h2 k2).mono fun e W' ⟨he, bel⟩ => ?_
  subst he
  exact ⟨_, rfl, _, _, _, [], _, [], hW', trodAll_mk1 (shut_bool Try.underlying4 _), (trodAll_cons_mk (Below.trod laidOut (by kernel_rfl) (of_decide_eq_true (by kernel_rfl)) h0 bel lt0) (trodAll_cons_mk (Below.trod laidOut (by kernel_rfl) (of_decide_eq_true (by kernel_rfl)) h1 bel lt1) (trodAll_cons_mk (Below.trod laidOut (by kernel_rfl) (of_decide_eq_true (by kernel_rfl)) h2 bel lt2) trodAll_mk0))), rfl, bel.frame _, fun h => by cases h⟩
theorem over : Rows.sumOpenedRow.holds Try.pinned (OpenSpec.ofChange Rows.sumOpenedSpec) :=
  OpenClaim.holds_of_wide 8 Try.f8 rfl rfl rfl rfl rfl rfl rfl ⟨rfl, rfl, rfl, rfl, rfl⟩ rfl rfl rfl rfl rfl (by kernel_rfl) Try.func8 (by kernel_rfl)
    (of_decide_eq_true (by kernel_rfl)) (by unfold Func.isWrapper; first | (rw [if_pos (by decide +kernel)]; kernel_rfl) | (rw [if_neg (by decide +kernel)]; exact ⟨rfl, rfl⟩))
    (fun os started H enc _ => lifted os started H enc)
theorem proved : Rows.SumOpenedSaid := over
#print axioms proved
end sumOpened
end Go.Proofs.Ytgibkbbabaenpaa
