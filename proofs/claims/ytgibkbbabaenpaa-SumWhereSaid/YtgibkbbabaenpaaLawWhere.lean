/-
  PROVED: bowspritlaw03.SumWhere: for every three lists of bytes the call returns true: in which bits the sums of two rows of one length differ hangs just on where these differ. No condition.
-/
import Derived.Test.YtgibkbbabaenpaaSumE
import Derived.Deep.RegionHeld3
import Derived.OpenShut
import Derived.ChangeOld
namespace Go.Proofs.Ytgibkbbabaenpaa
open Go.RowKit
set_option linter.unusedVariables false

theorem min_four (w : World) (a b c : Nat) : (Builtin.min_ #[3, 3, 3, 3] 3 #[.int .i64 (a : Int), .int .i64 (b : Int), .int .i64 (c : Int), .int .i64 1000]).run Try.prog w = .ok (.int .i64 ((min (min (min a b) c) 1000 : Nat) : Int)) w := by
  simp [Builtin.min_, Builtin.min2]
  repeat' split
  all_goals omega

theorem keep2 {W w w' : World} {p q : Addr} {u v : Value} (h : w.cell? p = some u ∧ w.cell? q = some v ∧ Ext [] W w) (e : Ext [] w w') : w'.cell? p = some u ∧ w'.cell? q = some v ∧ Ext [] W w' :=
  ⟨e.read h.1 (by simp), e.read h.2.1 (by simp), h.2.2.trans e⟩
theorem run_zeros (w : World) (N : Nat) (h : N ≤ 1000) : (Instr.makeSlice 22 (.int .i64 (N : Int)) (.int .i64 (N : Int))).run Try.prog w = .ok (.slice (some ⟨w.heap.size, 0, none⟩) N N) (w.alloc (.cells (List.replicate N (Value.int .u8 0)).toArray 5)) := by
  obtain ⟨i, i1, i2, i3, i4⟩ := T22.info
  have := run_make (P := Try.prog) w 22 5 i _ Try.underlying22 i1 i2 .i64 .i64 N N (by omega) (by omega) (by rw [i4]; omega) (by omega)
  rw [this, i3]
  have e : madeCells (Value.int IntKind.u8 0).cells N = (List.replicate N (Value.int .u8 0)).toArray := by
    rw [← Array.toList_inj]
    exact toList_madeCells_one _ N
  simp [e]
theorem Bs.zeros (w : World) (N : Nat) (h : N ≤ 1000) : Bs (w.alloc (.cells (List.replicate N (Value.int .u8 0)).toArray 5)) (.slice (some ⟨w.heap.size, 0, none⟩) N N) w.heap.size (List.replicate N 0) := by
  have := Bs.const w (List.replicate N 0) 5 (0, 0) (by unfold maxLen; simp; omega)
  simpa [BV] using this

set_option maxRecDepth 100000 in
set_option maxHeartbeats 1000000 in
theorem walkWhere (w : World) (va vb vt : Value) (oa ob ot : Nat) (la lb lt : List UInt8) (ha : Bs w va oa la) (hb : Bs w vb ob lb) (ht : Bs w vt ot lt) :
    Calls Try.prog 6 #[va, vb, vt] w fun e w' => e = .returned (.bool true) ∧ Below w.heap.size w w' := by
  have hmin := fun w => min_four w la.length lb.length lt.length
  obtain ⟨N, hN⟩ : ∃ N, N = min (min (min la.length lb.length) lt.length) 1000 := ⟨_, rfl⟩
  rw [← hN] at hmin
  have n1 : N ≤ la.length := by omega
  have n2 : N ≤ lb.length := by omega
  have n3 : N ≤ lt.length := by omega
  have n4 : N ≤ 1000 := by omega
  clear hN
  obtain ⟨a1, m1, c1, rfl, rfl, p1, q1, hA⟩ := ha.head N n1
  obtain ⟨a2, m2, c2, rfl, rfl, p2, q2, hB⟩ := hb.head N n2
  obtain ⟨a3, m3, c3, rfl, rfl, p3, q3, hT⟩ := ht.head N n3
  go_enter Try.func6, Try.ntmps6
  go_wp2_with (first
    | (go_at_call 10; refine (wakes_any _).mono ?_; rintro e w0 ⟨rfl, h0⟩; have hpt := h0.read (p := ⟨w.heap.size, 0, none⟩) (u := .slice a3 lt.length c3) (by simp) (by simp)))
  have cn : (w0.alloc (Obj.cells #[Value.int .i64 (N : Int)] 3)).cell? ⟨w0.heap.size, 0, none⟩ = some (.int .i64 (N : Int)) := by simp
  have ct := ((Ext.refl [] w0).alloc (Obj.cells #[Value.int .i64 (N : Int)] 3)).read hpt (by simp)
  have hE := ((((Ext.refl [] w).alloc (Obj.cells #[Value.slice a3 lt.length c3] 22)).trans h0).alloc (Obj.cells #[Value.int .i64 (N : Int)] 3))
  clear h0 hpt hmin
  generalize w0.alloc _ = W at *
  generalize w0.heap.size = pn at *
  have hca := fun w' (he : Ext [] W w') => turned_any w' _ _ oa ot pn w.heap.size N la lt (ha.ext (hE.trans he) (by simp)) (ht.ext (hE.trans he) (by simp)) (he.read cn (by simp)) (he.read ct (by simp)) n1 n3 n4
  have hcb := fun w' (he : Ext [] W w') => turned_any w' _ _ ob ot pn w.heap.size N lb lt (hb.ext (hE.trans he) (by simp)) (ht.ext (hE.trans he) (by simp)) (he.read cn (by simp)) (he.read ct (by simp)) n2 n3 n4
  have lA : (la.take N).length = (lt.take N).length := by rw [List.length_take, List.length_take]; omega
  have lB : (lb.take N).length = (lt.take N).length := by rw [List.length_take, List.length_take]; omega
  have tA : (turned (la.take N) (lt.take N)).length = (la.take N).length := by rw [turned_length]; omega
  have tB : (turned (lb.take N) (lt.take N)).length = (lb.take N).length := by rw [turned_length]; omega
  have sA : (la.take N).length ≤ 1000000 := by rw [List.length_take]; omega
  have sB : (lb.take N).length ≤ 1000000 := by rw [List.length_take]; omega
  have hpa := fun w' v' o' (he : Ext [] W w') (hv : Bs w' v' o' (turned (la.take N) (lt.take N))) => Apart_any w' _ v' oa o' _ _ (hA.ext (hE.trans he) (by simp)) hv tA.symm sA
  have hpb := fun w' v' o' (he : Ext [] W w') (hv : Bs w' v' o' (turned (lb.take N) (lt.take N))) => Apart_any w' _ v' ob o' _ _ (hB.ext (hE.trans he) (by simp)) hv tB.symm sB
  rw [crc_turned _ _ lA] at hpa
  rw [crc_turned _ _ lB] at hpb
  have hz : reg 0 (lt.take N) ≠ 0 → (lt.take N == List.replicate N 0) = false := fun h => by
    rw [beq_eq_false_iff_ne]
    intro e
    rw [e] at h
    exact h (reg_zeros N)
  have heq := fun w' vb' ob' (he : Ext [] W w') (hv : Bs w' vb' ob' (List.replicate N 0)) => Equal_any w' _ vb' ot ob' _ _ (hT.ext (hE.trans he) (by simp)) hv
  generalize reg 0 (lt.take N) = X at *
  generalize (lt.take N == List.replicate N 0) = Z at *
  generalize turned (la.take N) (lt.take N) = tA' at *
  generalize turned (lb.take N) (lt.take N) = tB' at *
  clear tA tB lA lB sA sB ha hb ht hA hB hT
  have j1 : (N : Int) ≤ la.length := by omega
  have j2 : (N : Int) ≤ lb.length := by omega
  have j3 : (N : Int) ≤ lt.length := by omega
  have j4 : (N : Int) ≤ 1000 := by omega
  have j5 : (0 : Int) ≤ N := by omega
  go_region_held3 (fun w' => w'.cell? ⟨w.heap.size, 0, none⟩ = some (.slice a3 lt.length c3) ∧ w'.cell? ⟨pn, 0, none⟩ = some (.int .i64 (N : Int)) ∧ Ext [] W w')
    (first | exact ⟨ct, cn, (Ext.refl [] W).drew⟩ | assumption)
    (first
      | (go_at_call 21; refine (hca _ (Ext.refl [] W).drew).mono ?_; rintro e w1 ⟨v1, rfl, hN1, h1⟩; have s1 := keep2 (by assumption) h1)
      | (go_at_call 11; obtain ⟨o1, hB1, _⟩ := hN1.bs; refine (hpa _ _ _ (Ext.trans (Ext.refl [] W).drew h1) hB1).mono ?_; rintro e w2 ⟨rfl, h2⟩; have s2 := keep2 s1 h2))
  go_wp2
  obtain ⟨ct2, cn2, e2⟩ := s2
  clear hB1 hN1 h1 s1 ct cn hca hpa
  go_region_held3 (fun w' => w'.cell? ⟨w.heap.size, 0, none⟩ = some (.slice a3 lt.length c3) ∧ w'.cell? ⟨pn, 0, none⟩ = some (.int .i64 (N : Int)) ∧ Ext [] W w')
    (first | exact ⟨ct2, cn2, e2.drew⟩ | assumption)
    (first
      | (go_at_call 21; refine (hcb _ e2.drew).mono ?_; rintro e w3 ⟨v3, rfl, hN3, h3⟩; have s3 := keep2 (by assumption) h3)
      | (go_at_call 11; obtain ⟨o3, hB3, _⟩ := hN3.bs; refine (hpb _ _ _ s3.2.2 hB3).mono ?_; rintro e w4 ⟨rfl, h4⟩; have s4 := keep2 s3 h4))
  go_wp2
  obtain ⟨ct4, cn4, e4⟩ := s4
  clear hB3 hN3 h3 s3 ct2 cn2 e2 hcb hpb h2 h4
  by_cases hX : X = 0
  · subst hX
    clear hz heq
    go_quiet (fail)
    go_wp2
    go_ret
    exact ⟨rfl, ((hE.trans e4).drewN _).below⟩
  · have hX1 : ((X : Int) == 0) = false := by simp; omega
    have hZ := hz hX
    subst hZ
    have hmk := fun w => run_zeros w N n4
    have hbz := fun w => Bs.zeros w N n4
    clear hz hX
    go_region_held3 (fun w' => w'.cell? ⟨w.heap.size, 0, none⟩ = some (.slice a3 lt.length c3) ∧ w'.cell? ⟨pn, 0, none⟩ = some (.int .i64 (N : Int)) ∧ Ext [] W w')
      (first | exact ⟨ct4, cn4, e4.drew⟩ | assumption | exact keep2 (by assumption) ((Ext.refl [] _).alloc _))
      (first
        | (go_at_call 23; refine (heq _ _ _ (e4.drew.alloc _) (hbz _)).mono ?_; rintro e w5 ⟨rfl, rfl⟩))
    go_wp2
    go_ret
    exact ⟨rfl, (hE.trans (e4.drew.alloc _)).below⟩

open Go.ChangeShapes Go.WideShapes Go.ChangeAt in
theorem walk_SumWhere {H : Type} {enc : TypeId × Value → H} (W : World) (v0 : Value) (d0 : DataW H) (p0 : List MemPlace) (base0 : Nat) (h0 : DataW.Trod enc Try.prog W 0 (fun _ => true) true 22 v0 d0 p0) (k0 : Value.okWide Try.prog W .any base0 22 v0) (v1 : Value) (d1 : DataW H) (p1 : List MemPlace) (base1 : Nat) (h1 : DataW.Trod enc Try.prog W 0 (fun _ => true) true 22 v1 d1 p1) (k1 : Value.okWide Try.prog W .any base1 22 v1) (v2 : Value) (d2 : DataW H) (p2 : List MemPlace) (base2 : Nat) (h2 : DataW.Trod enc Try.prog W 0 (fun _ => true) true 22 v2 d2 p2) (k2 : Value.okWide Try.prog W .any base2 22 v2) :
    Calls Try.prog 6 #[v0, v1, v2] W fun e w' => e = .returned (.bool true) ∧ Below W.heap.size W w' := by
  obtain ⟨a, n, c, rfl, oa, la, hl, hA⟩ := read_bytes h0 k0
  obtain ⟨a', n', c', rfl, ob, lb, hl', hB⟩ := read_bytes h1 k1
  obtain ⟨a'', n'', c'', rfl, ot, lt, hl'', hT⟩ := read_bytes h2 k2
  exact walkWhere W _ _ _ oa ob ot la lb lt hA hB hT

namespace sumWhere
open Go.ChangeShapes Go.WideShapes Go.ChangeAt Go.RowKit
theorem own : ownKnob Try.prog.godebug = none := by kernel_rfl
theorem laidOut : laidOutB Try.prog = true := by kernel_rfl
set_option maxRecDepth 100000 in
theorem lifted (os : Os) (started : os.Started) (H : Type) (enc : TypeId × Value → H) :
    ReturnsInHanded {} Try.checked os 6 .any (Rows.sumWhereSpec.pre6 enc Try.prog Try.f6 Rows.sumWhereRow.domain false) (Rows.sumWhereSpec.post enc Try.prog Try.f6 false true false false) := by
  refine returnsInHanded_of_change (C := Try.checked) own started (by kernel_rfl) Try.func6
    (ChangeSpec.witness6 (enc := enc) (C := Try.checked) false ⟨#[], #[.slice none 0 0, .slice none 0 0, .slice none 0 0], []⟩ 8 (by kernel_rfl) (by kernel_rfl) (by kernel_rfl) (by kernel_rfl)) ?_
  intro W base args ds gs before hval0 hW hcnd _
  have hval : ∀ (j : Nat) t v, Try.f6.params[j]? = some t → args[j]? = some v → Value.okWide Try.prog W .any base t v := hval0
  have hW' := hW
  obtain ⟨p, q, hA0, hV, rfl, hfz, hnd⟩ := hW
  have hA : DataW.TrodAll enc Try.prog W 0 (fun _ => true) true Try.f6.params.toList args.toList ds p := hA0
  rw [Try.params6] at hA hval
  obtain ⟨v0, vs0, d0, ds0, p0, q0, hargs, rfl, rfl, h0, r0⟩ := trodAll_cons hA
  obtain ⟨v1, vs1, d1, ds1, p1, q1, rfl, rfl, rfl, h1, r1⟩ := trodAll_cons r0
  obtain ⟨v2, vs2, d2, ds2, p2, q2, rfl, rfl, rfl, h2, r2⟩ := trodAll_cons r1
  obtain ⟨rfl, rfl, rfl⟩ := trodAll_nil r2
  obtain rfl : args = #[v0, v1, v2] := by cases args; simp_all
  obtain ⟨rfl, rfl⟩ := trodVars_none hV
  have lt0 : ∀ x ∈ p0, x.block < W.heap.size := by obtain ⟨m, hm⟩ := h0; exact DataW.trod_lt m _ _ _ hm
  have lt1 : ∀ x ∈ p1, x.block < W.heap.size := by obtain ⟨m, hm⟩ := h1; exact DataW.trod_lt m _ _ _ hm
  have lt2 : ∀ x ∈ p2, x.block < W.heap.size := by obtain ⟨m, hm⟩ := h2; exact DataW.trod_lt m _ _ _ hm
  have k0 := hval 0 22 v0 rfl rfl
  have k1 := hval 1 22 v1 rfl rfl
  have k2 := hval 2 22 v2 rfl rfl
  clear hA0 hval0
  refine (walk_SumWhere W v0 d0 p0 base h0 k0 v1 d1 p1 base h1 k1 v2 d2 p2 base h2 k2).mono fun e W' ⟨he, bel⟩ => ?_
  subst he
  exact ⟨_, rfl, _, _, _, [], _, [], hW', trodAll_mk1 (shut_bool Try.underlying4 _), (trodAll_cons_mk (Below.trod laidOut (by kernel_rfl) (of_decide_eq_true (by kernel_rfl)) h0 bel lt0) (trodAll_cons_mk (Below.trod laidOut (by kernel_rfl) (of_decide_eq_true (by kernel_rfl)) h1 bel lt1) (trodAll_cons_mk (Below.trod laidOut (by kernel_rfl) (of_decide_eq_true (by kernel_rfl)) h2 bel lt2) trodAll_mk0))), rfl, bel.frame _, fun h => by cases h⟩
theorem over : Rows.sumWhereRow.holds Try.pinned (OpenSpec.ofChange Rows.sumWhereSpec) :=
  OpenClaim.holds_of_wide 6 Try.f6 rfl rfl rfl rfl rfl rfl rfl ⟨rfl, rfl, rfl, rfl, rfl⟩ rfl rfl rfl rfl rfl (by kernel_rfl) Try.func6 (by kernel_rfl)
    (of_decide_eq_true (by kernel_rfl)) (by unfold Func.isWrapper; first | (rw [if_pos (by decide +kernel)]; kernel_rfl) | (rw [if_neg (by decide +kernel)]; exact ⟨rfl, rfl⟩))
    (fun os started H enc _ => lifted os started H enc)
theorem proved : Rows.SumWhereSaid := over
#print axioms proved
end sumWhere
end Go.Proofs.Ytgibkbbabaenpaa
