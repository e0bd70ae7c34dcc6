/-
  PROVED: bowspritlaw03.SumSeals: for every list of bytes the call returns true: it is sealed, and opened, as the document says, in new lists, or refused; what was handed in stays. No condition.
-/
import Derived.Test.YtgibkbbabaenpaaSumD
import Derived.OpenShut
import Derived.ChangeOld
namespace Go.Proofs.Ytgibkbbabaenpaa
open Go.RowKit
set_option linter.unusedVariables false

theorem walkSeals_out (w : World) (a : Option Addr) (n c : Nat) (hn : 3000 < (n : Int)) :
    Calls Try.prog 4 #[.slice a n c] w fun e w' => e = .returned (.bool true) ∧ Below w.heap.size w w' := by
  go_enter Try.func4, Try.ntmps4
  go_wp2_with (go_at_call 10; refine (wakes_any _).mono ?_; rintro e w0 ⟨rfl, h0⟩)
  go_ret
  exact ⟨rfl, h0.below⟩

/-- what stands behind nothing -/
theorem Own_any (w : World) (v : Value) (ob : Nat) (l : List UInt8) (h : Bs w v ob l) (hl : l.length ≤ 1000000) :
    Calls Try.prog 14 #[v, .slice none 0 0] w fun e w' => ∃ v, e = .returned v ∧ NewB w w' v l ∧ Ext [] w w' := by
  have := Behind_any w v (.slice none 0 0) ob 0 l [] h (.nothing' _ _) (by simp; omega)
  rwa [List.append_nil] at this
theorem Same_true (w : World) (va vb : Value) (oa ob : Nat) (l : List UInt8) (ha : Bs w va oa l) (hb : Bs w vb ob l) (hl : l.length ≤ 1000000) :
    Calls Try.prog 17 #[va, vb] w fun e w' => e = .returned (.bool true) ∧ ∃ n, w' = w.drewN n := by
  have := Same_any w va vb oa ob l l ha hb (by omega)
  rwa [beq_self_eq_true] at this

set_option maxRecDepth 100000 in
set_option maxHeartbeats 1000000 in
theorem walkSeals_short (w : World) (v : Value) (ob : Nat) (l : List UInt8) (h : Bs w v ob l) (hl : l.length < 4) :
    Calls Try.prog 4 #[v] w fun e w' => e = .returned (.bool true) ∧ Below w.heap.size w w' := by
  have hbe := fun w1 (he : Ext [] w w1) => Own_any w1 v ob l (h.ext he (by simp)) (by omega)
  have hse := fun w1 (he : Ext [] w w1) => Seal_any w1 v ob l (h.ext he (by simp)) (by omega)
  have hop := fun w1 (he : Ext [] w w1) => Open_short w1 v ob l (h.ext he (by simp)) hl
  have hrs := fun w1 v1 o1 (hb : Bs w1 v1 o1 l) => refSeal_any w1 v1 o1 l hb (by omega)
  have hsl : (l ++ le4 (crc l)).length ≤ 1000000 := by rw [List.length_append, le4_length]; omega
  generalize l ++ le4 (crc l) = S at *
  have hsm := fun w1 va vb oa ob (ha : Bs w1 va oa S) (hb : Bs w1 vb ob S) => Same_true w1 va vb oa ob S ha hb hsl
  obtain ⟨av, cv, rfl⟩ := h.shape
  clear h hsl
  go_enter Try.func4, Try.ntmps4
  go_wp2_with (first
    | (go_at_call 10; refine (wakes_any _).mono ?_; rintro e w0 ⟨rfl, h0⟩)
    | (go_at_call 14; refine (hbe _ h0).mono ?_; rintro e w1 ⟨v1, rfl, hN1, h1⟩; obtain ⟨o1, hB1, _⟩ := hN1.bs; obtain ⟨a1, c1, rfl⟩ := hB1.shape; have h1' := h0.trans h1)
    | (go_at_call 15; refine (hse _ h1').mono ?_; rintro e w2 ⟨v2, rfl, hN2, h2⟩; obtain ⟨o2, hB2, _⟩ := hN2.bs; have h2' := h1'.trans h2)
    | (go_at_call 16; refine (hop _ h2').mono ?_; rintro e w3 ⟨rfl, rfl⟩)
    | (go_at_call 18; refine (hrs _ _ _ (hB1.ext h2 (by simp))).mono ?_; rintro e w4 ⟨v4, rfl, hN4, h4⟩; obtain ⟨o4, hB4, _⟩ := hN4.bs; have h4' := h2'.trans h4)
    | (go_at_call 17; refine (hsm _ _ _ _ _ (hB2.ext h4 (by simp)) hB4).mono ?_; rintro e w5 ⟨rfl, n5, rfl⟩))
  go_ret
  exact ⟨rfl, (h4'.drewN _).below⟩

set_option maxRecDepth 100000 in
set_option maxHeartbeats 1000000 in
theorem walkSeals_bad (w : World) (v : Value) (ob : Nat) (l : List UInt8) (h : Bs w v ob l) (hl : 4 ≤ l.length) (hs : l.length ≤ 3000) (ho : opened l = none) :
    Calls Try.prog 4 #[v] w fun e w' => e = .returned (.bool true) ∧ Below w.heap.size w w' := by
  have hbe := fun w1 (he : Ext [] w w1) => Own_any w1 v ob l (h.ext he (by simp)) (by omega)
  have hse := fun w1 (he : Ext [] w w1) => Seal_any w1 v ob l (h.ext he (by simp)) (by omega)
  have hop := fun w1 (he : Ext [] w w1) => Open_no w1 v ob l (h.ext he (by simp)) hl (by omega) ho
  have hrs := fun w1 v1 o1 (hb : Bs w1 v1 o1 l) => refSeal_any w1 v1 o1 l hb (by omega)
  have hro := fun w1 v1 o1 (hb : Bs w1 v1 o1 l) => refOpens_long w1 v1 o1 l hb hl (by omega)
  rw [ho] at hro
  simp only [Option.isSome_none] at hro
  have hsl : (l ++ le4 (crc l)).length ≤ 1000000 := by rw [List.length_append, le4_length]; omega
  generalize l ++ le4 (crc l) = S at *
  have hsm := fun w1 va vb oa ob (ha : Bs w1 va oa S) (hb : Bs w1 vb ob S) => Same_true w1 va vb oa ob S ha hb hsl
  obtain ⟨av, cv, rfl⟩ := h.shape
  clear h hsl ho
  go_enter Try.func4, Try.ntmps4
  go_wp2_with (first
    | (go_at_call 10; refine (wakes_any _).mono ?_; rintro e w0 ⟨rfl, h0⟩)
    | (go_at_call 14; refine (hbe _ h0).mono ?_; rintro e w1 ⟨v1, rfl, hN1, h1⟩; obtain ⟨o1, hB1, _⟩ := hN1.bs; obtain ⟨a1, c1, rfl⟩ := hB1.shape; have h1' := h0.trans h1)
    | (go_at_call 15; refine (hse _ h1').mono ?_; rintro e w2 ⟨v2, rfl, hN2, h2⟩; obtain ⟨o2, hB2, _⟩ := hN2.bs; have h2' := h1'.trans h2)
    | (go_at_call 16; refine (hop _ h2').mono ?_; rintro e w3 ⟨rfl, h3⟩; have h3' := h2'.trans h3)
    | (go_at_call 18; refine (hrs _ _ _ (hB1.ext (h2.trans h3) (by simp))).mono ?_; rintro e w4 ⟨v4, rfl, hN4, h4⟩; obtain ⟨o4, hB4, _⟩ := hN4.bs; have h4' := h3'.trans h4)
    | (go_at_call 17; refine (hsm _ _ _ _ _ (hB2.ext (h3.trans h4) (by simp)) hB4).mono ?_; rintro e w5 ⟨rfl, n5, rfl⟩)
    | (go_at_call 19; refine (hro _ _ _ (hB1.ext (((h2.trans h3).trans h4).drewN n5) (by simp))).mono ?_; rintro e w6 ⟨rfl, h6⟩))
  go_ret
  exact ⟨rfl, ((h4'.drewN _).trans h6).below⟩

set_option maxRecDepth 100000 in
set_option maxHeartbeats 2000000 in
theorem walkSeals_good (w : World) (v : Value) (ob : Nat) (l m : List UInt8) (h : Bs w v ob l) (hl : 4 ≤ l.length) (hs : l.length ≤ 3000) (ho : opened l = some m) :
    Calls Try.prog 4 #[v] w fun e w' => e = .returned (.bool true) ∧ Below w.heap.size w w' := by
  have hmt := opened_take l m ho
  have hob : ob < w.heap.size := by
    obtain ⟨a0, c0, rfl⟩ := h.shape
    obtain ⟨o, x, _, _, hc⟩ := h.at 0 (by omega)
    exact World.block_lt_of_cell? _ _ hc
  have hne : l ≠ [] := by rw [← List.length_pos_iff]; omega
  have hbe : ∀ w1, Ext [] w w1 → Calls Try.prog 14 #[v, .slice none 0 0] w1 fun e w' => ∃ g c, e = .returned (.slice (some ⟨g, 0, none⟩) l.length c) ∧ l.length ≤ c ∧ (c : Int) ≤ 9223372036854775807 ∧ Bs w' (.slice (some ⟨g, 0, none⟩) l.length c) g l ∧ w1.heap.size ≤ g ∧ g < w'.heap.size ∧ Ext [] w1 w' := by
    intro w1 he
    refine (Own_any w1 v ob l (h.ext he (by simp)) (by omega)).mono ?_
    rintro e w' ⟨v', rfl, hN, hE⟩
    obtain ⟨g, h1, h2, h3⟩ := hN.own hne
    have hb := h1.bs
    obtain ⟨room, rfl, h5, h6⟩ := h1
    have hm : maxLen = 9223372036854775807 := rfl
    exact ⟨g, _, rfl, Nat.le_add_right _ _, by omega, hb, h2, h3, hE⟩
  have hse := fun w1 (he : Ext [] w w1) => Seal_bs w1 v ob l (h.ext he (by simp)) (by omega)
  have hop := fun w1 (he : Ext [] w w1) => Open_yes w1 v ob l m (h.ext he (by simp)) hl (by omega) ho
  have hrs := fun w1 v1 o1 (hb : Bs w1 v1 o1 l) => refSeal_any w1 v1 o1 l hb (by omega)
  have hro := fun w1 v1 o1 (hb : Bs w1 v1 o1 l) => refOpens_long w1 v1 o1 l hb hl (by omega)
  rw [ho] at hro
  simp only [Option.isSome_some] at hro
  have hsl : (l ++ le4 (crc l)).length = l.length + 4 := by rw [List.length_append, le4_length]
  generalize l ++ le4 (crc l) = S at *
  have hsm := fun w1 va vb oa ob (ha : Bs w1 va oa S) (hb : Bs w1 vb ob S) => Same_true w1 va vb oa ob S ha hb (by omega)
  have hml : m.length = l.length - 4 := by rw [hmt, List.length_take]; omega
  have hsx := fun w1 va vb oa ob (ha : Bs w1 va oa m) (hb : Bs w1 vb ob m) => Same_true w1 va vb oa ob m ha hb (by omega)
  have hfin := fun w1 va vb oa ob (ha : Bs w1 va oa l) (hb : Bs w1 vb ob l) => Same_true w1 va vb oa ob l ha hb (by omega)
  have hcut : ∀ w1 g c, Bs w1 (.slice (some ⟨g, 0, none⟩) l.length c) g l → Bs w1 (.slice (some ⟨g, 0, none⟩) (l.length - 4) c) g m := by
    intro w1 g c hb
    have := hb.cut1 (pos := 0) (m := l.length - 4) (by omega)
    rw [List.drop_zero, ← hmt] at this
    simpa [add_off] using this
  obtain ⟨av, cv, rfl⟩ := h.shape
  have HSL := Lib.hid hsl
  have HML := Lib.hid hml
  clear ho hmt hne hsl hml
  go_enter Try.func4, Try.ntmps4
  go_wp2_with (first
    | (go_at_call 10; refine (wakes_any _).mono ?_; rintro e w0 ⟨rfl, h0⟩)
    | (go_at_call 14; refine (hbe _ h0).mono ?_; rintro e w1 ⟨o1, c1, rfl, b1, b2, hB1, g1, l1, h1⟩; have h1' := h0.trans h1)
    | (go_at_call 15; refine (hse _ h1').mono ?_; rintro e w2 ⟨g2, c2, rfl, hO2, l2, h2⟩; have h2' := h1'.trans h2)
    | (go_at_call 16; refine (hop _ h2').mono ?_; rintro e w3 ⟨v3, rfl, hN3, h3⟩; obtain ⟨a3, d3, rfl⟩ := hN3.shape; obtain ⟨o3, hB3, _⟩ := hN3.bs; have h3' := h2'.trans h3)
    | (go_at_call 18; refine (hrs _ _ _ (hB1.ext (h2.trans h3) (by simp))).mono ?_; rintro e w4 ⟨v4, rfl, hN4, h4⟩; obtain ⟨o4, hB4, _⟩ := hN4.bs; have h4' := h3'.trans h4)
    | (go_at_call 17; ((with_reducible refine (hsm _ _ _ _ _ (hO2.bs.ext (h3.trans h4) (by simp)) hB4).mono ?_); rintro e w5 ⟨rfl, n5, rfl⟩))
    | (go_at_call 19; refine (hro _ _ _ (hB1.ext (((h2.trans h3).trans h4).drewN n5) (by simp))).mono ?_; rintro e w6 ⟨rfl, h6⟩)
    | (go_at_call 17; ((with_reducible refine (hsx _ _ _ _ _ (hB3.ext ((h4.drewN n5).trans h6) (by simp)) (hcut _ _ _ (hB1.ext ((((h2.trans h3).trans h4).drewN n5).trans h6) (by simp)))).mono ?_); rintro e w7 ⟨rfl, n7, rfl⟩)))
  have hml3 : m.length ≤ 3000 := by have := HML.out; omega
  have hW := (((h4'.drewN n5).trans h6).drewN n7)
  have hI : Inc (w6.drewN n7) g2 (l.length + 4) := Inc.of HSL.out (hO2.ext ((((h3.trans h4).drewN n5).trans h6).drewN n7) (by simp))
  obtain ⟨X, hX1, hX2⟩ := hN3.inc
  have hX3 : m ≠ [] → ∃ g ∈ X, a3 = some ⟨g, 0, none⟩ ∧ Inc (w6.drewN n7) g m.length := fun hne => by
    obtain ⟨g, h1, h2, h3⟩ := hX2 hne
    exact ⟨g, h1, h2, h3.ext (((h4.drewN n5).trans h6).drewN n7) (by simp)⟩
  have hBo := hB1.ext (((((h2.trans h3).trans h4).drewN n5).trans h6).drewN n7) (by simp)
  have hBb := h.ext hW (by simp)
  have hg2 := hO2.lt
  have hge : w.heap.size ≤ g2 := Nat.le_trans h1'.size l2
  have hXo : o1 ∉ g2 :: X := by
    intro hm
    rcases List.mem_cons.1 hm with hm | hm
    · omega
    · have := (hX1 _ hm).1; omega
  have hXb : ob ∉ g2 :: X := by
    intro hm
    rcases List.mem_cons.1 hm with hm | hm
    · omega
    · have := (hX1 _ hm).1; omega
  have hXg : g2 ∉ X := fun hm => by have := (hX1 _ hm).1; omega
  have hXw : ∀ i ∈ g2 :: X, i ∈ ([] : List Nat) ∨ w.heap.size ≤ i := by
    intro i hm
    rcases List.mem_cons.1 hm with hm | hm
    · omega
    · have := (hX1 _ hm).1; omega
  generalize w6.drewN n7 = W at *
  clear hO2 hN3 hN4 hB1 hB3 hB4 hX1 hX2 h h0 h1 h1' h2 h2' h3 h3' h4 h4' h6 hbe hse hop hrs hro hsm hsx hcut
  go_loopw [64] (fun i wr => ∃ k : Nat, k ≤ l.length + 4 ∧ i = .int .i64 k ∧ Inc wr g2 (l.length + 4) ∧ Ext [g2] W wr) (fun i _ => l.length + 4 - (intOf i).toNat)
  case atStart => exact ⟨0, by omega, rfl, hI, Ext.refl _ _⟩
  case round =>
    obtain ⟨k, hk, rfl, hIk, hEk⟩ := hrel
    clear hI
    by_cases hlt : k < l.length + 4
    · obtain ⟨z, hz, hf, hz0, hz1, hnext⟩ := hIk.at hlt
      go_wp2
      go_roundw
      case rel => exact ⟨k + 1, by omega, by go_num, hnext _ (by omega), hEk.setCell (by simp) _⟩
      case measure => simp [intOf]; omega
    · have hX4 : m ≠ [] → ∃ g ∈ X, a3 = some ⟨g, 0, none⟩ ∧ Inc wr g m.length := fun hne => by
        obtain ⟨g, h1, h2, h3⟩ := hX3 hne
        exact ⟨g, h1, h2, h3.ext hEk (by simp; rintro rfl; exact hXg h1)⟩
      have hEk' : Ext (g2 :: X) W wr := hEk.mono (fun i _ hi => by simp at hi; simp [hi])
      clear hX3 hIk hEk hk
      go_wp2
      go_loopw [76] (fun i wr => ∃ k : Nat, k ≤ m.length ∧ i = .int .i64 k ∧ Ext (g2 :: X) W wr ∧ (m ≠ [] → ∃ g ∈ X, a3 = some ⟨g, 0, none⟩ ∧ Inc wr g m.length)) (fun i _ => m.length - (intOf i).toNat)
      case atStart => exact ⟨0, by omega, rfl, hEk', hX4⟩
      case round =>
        obtain ⟨k, hk, rfl, hEk, hX5⟩ := hrel
        clear hX4 hEk'
        by_cases hlt : k < m.length
        · obtain ⟨g, hgX, rfl, hI⟩ := hX5 (by rw [← List.length_pos_iff]; omega)
          obtain ⟨z, hz, hf, hz0, hz1, hnext⟩ := hI.at hlt
          clear hX5
          go_wp2
          go_roundw
          case rel => exact ⟨k + 1, by omega, by go_num, hEk.setCell (.inl (List.mem_cons_of_mem _ hgX)) _, fun _ => ⟨g, hgX, rfl, hnext _ (by omega)⟩⟩
          case measure => simp [intOf]; omega
        · have hfin' := hfin wr _ _ ob o1 (hBb.ext hEk hXb) (hBo.ext hEk hXo)
          clear hX5 hBb hBo hfin
          go_wp2_with (go_at_call 17; refine hfin'.mono ?_; rintro e w8 ⟨rfl, n8, rfl⟩)
          go_ret
          exact ⟨rfl, ((hW.trans' hEk hXw).drewN _).below⟩

open Go.ChangeShapes Go.WideShapes Go.ChangeAt in
theorem walk_SumSeals {H : Type} {enc : TypeId × Value → H} (W : World) (v0 : Value) (d0 : DataW H) (p0 : List MemPlace) (base0 : Nat) (h0 : DataW.Trod enc Try.prog W 0 (fun _ => true) true 22 v0 d0 p0) (k0 : Value.okWide Try.prog W .any base0 22 v0) :
    Calls Try.prog 4 #[v0] W fun e w' => e = .returned (.bool true) ∧ Below W.heap.size W w' := by
  obtain ⟨a, n, c, rfl, ob, l, hl, hB⟩ := read_bytes h0 k0
  subst hl
  by_cases hn : 3000 < (l.length : Int)
  · exact walkSeals_out W a _ c hn
  · by_cases h4 : l.length < 4
    · exact walkSeals_short W _ ob l hB h4
    · cases ho : opened l with
      | none => exact walkSeals_bad W _ ob l hB (by omega) (by omega) ho
      | some m => exact walkSeals_good W _ ob l m hB (by omega) (by omega) ho

namespace sumSeals
open Go.ChangeShapes Go.WideShapes Go.ChangeAt Go.RowKit
theorem own : ownKnob Try.prog.godebug = none := by kernel_rfl
theorem laidOut : laidOutB Try.prog = true := by kernel_rfl
set_option maxRecDepth 100000 in
theorem lifted (os : Os) (started : os.Started) (H : Type) (enc : TypeId × Value → H) :
    ReturnsInHanded {} Try.checked os 4 .any (Rows.sumSealsSpec.pre6 enc Try.prog Try.f4 Rows.sumSealsRow.domain false) (Rows.sumSealsSpec.post enc Try.prog Try.f4 false true false false) := by
  refine returnsInHanded_of_change (C := Try.checked) own started (by kernel_rfl) Try.func4
    (ChangeSpec.witness6 (enc := enc) (C := Try.checked) false ⟨#[], #[.slice none 0 0], []⟩ 8 (by kernel_rfl) (by kernel_rfl) (by kernel_rfl) (by kernel_rfl)) ?_
  intro W base args ds gs before hval0 hW hcnd _
  have hval : ∀ (j : Nat) t v, Try.f4.params[j]? = some t → args[j]? = some v → Value.okWide Try.prog W .any base t v := hval0
  have hW' := hW
  obtain ⟨p, q, hA0, hV, rfl, hfz, hnd⟩ := hW
  have hA : DataW.TrodAll enc Try.prog W 0 (fun _ => true) true Try.f4.params.toList args.toList ds p := hA0
  rw [Try.params4] at hA hval
  obtain ⟨v0, vs0, d0, ds0, p0, q0, hargs, rfl, rfl, h0, r0⟩ := trodAll_cons hA
  obtain ⟨rfl, rfl, rfl⟩ := trodAll_nil r0
  obtain rfl : args = #[v0] := by cases args; simp_all
  obtain ⟨rfl, rfl⟩ := trodVars_none hV
  have lt0 : ∀ x ∈ p0, x.block < W.heap.size := by obtain ⟨m, hm⟩ := h0; exact DataW.trod_lt m _ _ _ hm
  have k0 := hval 0 22 v0 rfl rfl
  clear hA0 hval0
  refine (walk_SumSeals W v0 d0 p0 base h0 k0).mono fun e W' ⟨he, bel⟩ => ?_
  subst he
  exact ⟨_, rfl, _, _, _, [], _, [], hW', trodAll_mk1 (shut_bool Try.underlying4 _), (trodAll_cons_mk (Below.trod laidOut (by kernel_rfl) (of_decide_eq_true (by kernel_rfl)) h0 bel lt0) trodAll_mk0), rfl, bel.frame _, fun h => by cases h⟩
theorem over : Rows.sumSealsRow.holds Try.pinned (OpenSpec.ofChange Rows.sumSealsSpec) :=
  OpenClaim.holds_of_wide 4 Try.f4 rfl rfl rfl rfl rfl rfl rfl ⟨rfl, rfl, rfl, rfl, rfl⟩ rfl rfl rfl rfl rfl (by kernel_rfl) Try.func4 (by kernel_rfl)
    (of_decide_eq_true (by kernel_rfl)) (by unfold Func.isWrapper; first | (rw [if_pos (by decide +kernel)]; kernel_rfl) | (rw [if_neg (by decide +kernel)]; exact ⟨rfl, rfl⟩))
    (fun os started H enc _ => lifted os started H enc)
theorem proved : Rows.SumSealsSaid := over
#print axioms proved
end sumSeals
end Go.Proofs.Ytgibkbbabaenpaa
