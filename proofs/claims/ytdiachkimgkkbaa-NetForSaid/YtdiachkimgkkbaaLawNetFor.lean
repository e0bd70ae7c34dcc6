/-
  bowspritlaw24.NetFor: each parcel is for one node, and can come. Of every net and place.
-/
import Derived.Test.YtdiachkimgkkbaaNetR
import Derived.Test.YtdiachkimgkkbaaNetV
import Derived.Test.YtdiachkimgkkbaaRows
import Derived.Test.YtdiachkimgkkbaaChecked
import Derived.ProofKit
import Derived.OpenShut
import Derived.ChangeOld
namespace Go.Proofs.Ytdiachkimgkkbaa
open Go.RowKit
set_option linter.unusedVariables false
set_option linter.unusedSimpArgs false
theorem right_at {s : Nat} {l : List Par} (hr : right ⟨s, l⟩ = true) {j : Nat} {q : Par} (hj : l[j]? = some q) : fnd l q.num = j := by
  have hs := chk_sorted (right_len hr).2.2
  dsimp only at hs
  have hjl := (List.getElem?_eq_some_iff.1 hj).1
  have hje := (List.getElem?_eq_some_iff.1 hj).2
  have hp := List.pairwise_iff_getElem.1 hs
  rcases fnd_of hs q.num j (by omega) (fun j' p h1 h2 => by
      have := hp j' j (List.getElem?_eq_some_iff.1 h2).1 hjl h1
      rw [hje, (List.getElem?_eq_some_iff.1 h2).2] at this; exact this)
    (fun j' p h1 h2 => by
      by_cases e : j' = j
      · subst e; rw [hj] at h2; cases h2; exact Nat.le_refl _
      · have := hp j j' hjl (List.getElem?_eq_some_iff.1 h2).1 (by omega)
        rw [hje, (List.getElem?_eq_some_iff.1 h2).2] at this; omega) with ⟨p, h1, h2, h3⟩ | ⟨h1, h2⟩
  · exact h3
  · exact absurd rfl (h1 q hj)
theorem right_come {s : Nat} {l : List Par} (hr : right ⟨s, l⟩ = true) {q : Par} (hq : q ∈ l) : ∃ j, j < l.length ∧ ofM ⟨s, l⟩ (comeM ⟨s, l⟩ q.num) = { n := ⟨s, l.eraseIdx j⟩, p := q } := by
  obtain ⟨j, hj⟩ := List.getElem?_of_mem hq
  refine ⟨j, (List.getElem?_eq_some_iff.1 hj).1, ?_⟩
  unfold ofM
  rw [if_pos hr]
  exact atM_some (right_at hr hj) hj
theorem forM_mem {s : Nat} {l : List Par} {node : Int} {k : Nat} (h : k ∈ forM ⟨s, l⟩ node) : ∃ q ∈ l, q.num = k ∧ q.to = node := by
  unfold forM at h
  split at h
  · obtain ⟨q, h1, h2⟩ := List.mem_map.1 h
    obtain ⟨h3, h4⟩ := List.mem_filter.1 h1
    exact ⟨q, h3, h2, by simpa using h4⟩
  · simp at h
def cnt (l : List Par) (k : Nat) : Nat := (l.filter fun p => decide (p.to < (k : Int))).length
theorem cnt_le (l : List Par) (k : Nat) : cnt l k ≤ l.length := List.length_filter_le _ _
theorem cnt_step (s : Nat) (l : List Par) (hr : right ⟨s, l⟩ = true) (k : Nat) : cnt l (k + 1) = cnt l k + (forM ⟨s, l⟩ (k : Int)).length := by
  unfold cnt forM
  rw [if_pos hr, List.length_map]
  dsimp only
  clear hr
  have hK : ∀ z : Int, (z < ((k + 1 : Nat) : Int)) ↔ (z < (k : Int) ∨ z = (k : Int)) := fun z => by omega
  generalize ((k + 1 : Nat) : Int) = K at *
  induction l with
  | nil => rfl
  | cons p r ih =>
    simp only [List.filter_cons]
    have e1 : decide (p.to < K) = (decide (p.to < (k : Int)) || (p.to == (k : Int))) := by
      rw [Bool.eq_iff_iff]; simp [hK]
    rw [e1]
    by_cases h1 : p.to < (k : Int)
    · have h2 : (p.to == (k : Int)) = false := by simp; omega
      simp [h1, h2, ih]; omega
    · by_cases h2 : p.to = (k : Int)
      · simp [h2, ih]; omega
      · simp [h1, h2, ih]
theorem right_to {s : Nat} {l : List Par} (hr : right ⟨s, l⟩ = true) {q : Par} (hq : q ∈ l) : 0 ≤ q.to ∧ q.to ≤ 8 := by
  have := (chk_num (right_len hr).2.2 q hq).2.2
  unfold parOK isWay isNode at this
  simp only [Bool.and_eq_true, decide_eq_true_eq] at this
  omega
theorem cnt_zero {s : Nat} {l : List Par} (hr : right ⟨s, l⟩ = true) : cnt l 0 = 0 := by
  unfold cnt
  rw [List.length_eq_zero_iff, List.filter_eq_nil_iff]
  intro q hq
  have := right_to hr hq
  simp; omega
theorem cnt_all {s : Nat} {l : List Par} (hr : right ⟨s, l⟩ = true) : cnt l 10 = l.length := by
  unfold cnt
  rw [List.filter_eq_self.2]
  intro q hq
  have := right_to hr hq
  simp; omega
theorem Us_at {w : World} {a : Option Addr} {n c : Nat} {ob : Nat} {l : List Nat} (h : Sl w (.slice a n c) ob 1 l.length (l.map UV)) (k x : Nat) (hx : l[k]? = some x) : ∃ o, a = some ⟨ob, o, none⟩ ∧ w.cell? ⟨ob, o + k, none⟩ = some (.int .u64 (x : Int)) := by
  have hk := (List.getElem?_eq_some_iff.1 hx).1
  rcases h.2 with ⟨h1, h2⟩ | ⟨off, sp, cap, h1, _, _, hsp, h3⟩
  · omega
  · simp only [Value.slice.injEq] at h1
    obtain ⟨rfl, rfl, rfl⟩ := h1
    obtain rfl : sp = none := by rcases hsp with h | h; omega; exact h
    exact ⟨off, rfl, h3 k _ (by rw [List.getElem?_map, hx]; rfl)⟩
theorem forCome (w : World) (s : Nat) (v : Value) (l : List Par) (hP : Ps w v l) (hr : right ⟨s, l⟩ = true) (node : Int) (k : Nat) (hk : k ∈ forM ⟨s, l⟩ node) :
    Calls Try.prog 38 #[NV s v, .int .u64 (k : Int)] w fun e w' => ∃ a1 n1 c1 num fr a2 n2 c2 sp, e = .returned (.tuple #[.agg #[.int .u64 (s : Int), .slice a1 n1 c1], .agg #[.int .u64 (num : Nat), .int .i64 fr, .int .i64 node, .slice a2 n2 c2, .bool sp], .int .i64 0]) ∧ Ext [] w w' := by
  obtain ⟨q, hq, rfl, rfl⟩ := forM_mem hk
  obtain ⟨j, hj, e⟩ := right_come hr hq
  have := Come_any w s q.num v l hP
  rw [e] at this
  refine this.mono ?_
  rintro e w' ⟨v', rs', r, ⟨a', n', c', rfl⟩, rfl, hO, hI, hA, x⟩
  obtain ⟨a2, c2, e2⟩ := own_shape hI.2.2.2.2
  obtain ⟨h1, h2, h3, h4, _⟩ := hI
  dsimp only at h3 e2
  refine ⟨a', n', c', r.num, r.fr, a2, q.bs.length, c2, r.sp, ?_, x⟩
  rw [h3, e2]
theorem forLose (w : World) (s : Nat) (v : Value) (l : List Par) (hP : Ps w v l) (hr : right ⟨s, l⟩ = true) (q : Par) (hq : q ∈ l) :
    Calls Try.prog 40 #[NV s v, .int .u64 (q.num : Int)] w fun e w' => ∃ a1 c1, e = .returned (.tuple #[.agg #[.int .u64 (s : Int), .slice a1 (l.length - 1) c1], .int .i64 0]) ∧ Ext [] w w' := by
  obtain ⟨j, hj, e⟩ := right_come hr hq
  have := Lose_any w s q.num v l hP
  rw [e] at this
  refine this.mono ?_
  rintro e w' ⟨v', rs', ⟨a', n', c', rfl⟩, rfl, hO, x⟩
  obtain ⟨a2, c2, e2⟩ := hO.shape
  dsimp only at e2
  rw [List.length_eraseIdx, if_pos hj] at e2
  exact ⟨a2, c2, by rw [← e2], x⟩
set_option maxRecDepth 100000 in
set_option maxHeartbeats 4000000 in
theorem walkFor (w : World) (s : Nat) (v : Value) (l : List Par) (k : Int) (hP : Ps w v l) (hk1 : -9223372036854775808 ≤ k) (hk2 : k < 9223372036854775808) :
    Calls Try.prog 9 #[NV s v, .int .i64 k] w fun e w' => e = .returned (.bool true) ∧ Below w.heap.size w w' := by
  obtain ⟨a, c, rfl⟩ := hP.shape
  have x0 := (Ext.refl [] w).alloc (.cells #[.int .u64 (s : Int), .slice a l.length c] 25)
  obtain ⟨d0, d1⟩ := (Blk.new w [.int .u64 (s : Int), .slice a l.length c] 25).c2
  have hP := hP.ext x0
  go_enter Try.func9, Try.ntmps9
  go_upto_region 4 with (first
    | (go_at_call 10; (with_reducible refine (wakes_any _).mono ?_); rintro e w1 ⟨rfl, x1⟩; have d0 := cells_ext x1 d0; have d1 := cells_ext x1 d1)
    | (go_at_call 11; (with_reducible refine (short_any _ _ _ _ (hP.ext x1)).mono ?_); rintro e w2 ⟨v2, rs2, ⟨a2, n2, c2, rfl⟩, rfl, hO2, x2⟩))
  obtain ⟨a2', c2', e2⟩ := hO2.shape
  simp only [Value.slice.injEq] at e2
  obtain ⟨rfl, rfl, rfl⟩ := e2
  have y2 := (Ext.refl [] w2).alloc (.cells #[.int .u64 (s : Int), .slice a2 (shortL l).length c2] 25)
  have b2 := Blk.new w2 [.int .u64 (s : Int), .slice a2 (shortL l).length c2] 25
  have hX := ((x0.trans x1).trans x2).trans y2
  have hP2 := hO2.ps.ext y2
  generalize w2.alloc (.cells #[.int .u64 (s : Int), .slice a2 (shortL l).length c2] 25) = W at *
  generalize w2.heap.size = nb at *
  generalize shortL l = L at *
  clear x0 x1 x2 y2 hO2 hP
  have ck := Check_any W s _ L hP2
  obtain ⟨m0, m1⟩ := b2.c2
  cases hr : right ⟨s, L⟩
  · rw [hr] at ck
    go_wp2_with (go_at_call 18; (with_reducible refine ck.mono ?_); rintro e w3 ⟨rfl, x3⟩)
    go_ret
    exact ⟨rfl, (hX.trans x3).below⟩
  · rw [hr] at ck
    by_cases hl : L.length ≤ 100
    · have hP3 := fun W' (x : Ext [] W W') => hP2.ext x
      go_wp2_with (go_at_call 18; (with_reducible refine ck.mono ?_); rintro e w3 ⟨rfl, x3⟩; have p0 := cells_ext x3 m0; have p1 := cells_ext x3 m1)
      clear ck p0 p1
      go_loopw [6, 31] (fun z i wr => ∃ q : Nat, q ≤ 10 ∧ i = .int .i64 (q : Int) ∧ z = .int .i64 (cnt L q : Int) ∧ Ext [] W wr) (fun _ i _ => 10 - (intOf i).toNat)
      case atStart => exact ⟨0, by omega, rfl, by rw [cnt_zero hr]; rfl, x3⟩
      case round =>
        obtain ⟨q, hq, rfl, rfl, xr⟩ := hrel
        by_cases hlt : q < 10
        · have fm := For_any wr s (q : Int) _ L (hP3 wr xr)
          have hcs := cnt_step s L hr q
          have hcl := cnt_le L (q + 1)
          have hcm := fun W' (x : Ext [] W W') num (h : num ∈ forM ⟨s, L⟩ (q : Int)) => forCome W' s _ L (hP3 W' x) hr (q : Int) num h
          generalize forM ⟨s, L⟩ (q : Int) = F at *
          have n0 := cells_ext xr m0
          have n1 := cells_ext xr m1
          go_wp2_with (go_at_call 22; (with_reducible refine fm.mono ?_); rintro e w4 ⟨v4, rfl, hO4, x4⟩; obtain ⟨a4, c4, rfl⟩ := own_shape hO4)
          obtain ⟨oF, hSF, _⟩ := Sl.of_own hO4
          have xw := xr.trans x4
          clear n0 n1 fm
          go_loopw [43] (fun i wq => ∃ j : Nat, j ≤ F.length ∧ i = .int .i64 (j : Int) ∧ Ext [] w4 wq) (fun i _ => F.length - (intOf i).toNat)
          case atStart => exact ⟨0, by omega, rfl, Ext.refl _ _⟩
          case round =>
            obtain ⟨j, hj, rfl, xq⟩ := hrel
            by_cases hjl : j < F.length
            · obtain ⟨o4, rfl, hc⟩ := Us_at (hSF.ext xq (by simp)) j F[j] (List.getElem?_eq_getElem hjl)
              have cm := hcm wr (xw.trans xq) F[j] (List.getElem_mem _)
              generalize F[j] = num at *
              have n0 := cells_ext (xw.trans xq) m0
              have n1 := cells_ext (xw.trans xq) m1
              clear hcm
              go_upto_region 16 with (go_at_call 38; (with_reducible refine cm.mono ?_); rintro e w5 ⟨a5, n5, c5, num5, fr5, a6, n6, c6, sp6, rfl, x5⟩)
              have y5 := ((Ext.refl [] w5).alloc (.cells #[.int .u64 (s : Int), .slice a5 n5 c5] 25)).alloc (.cells #[.int .u64 (num5 : Int), .int .i64 fr5, .int .i64 (q : Int), .slice a6 n6 c6, .bool sp6] 33)
              have g5 := Blk.new (w5.alloc (.cells #[.int .u64 (s : Int), .slice a5 n5 c5] 25)) [.int .u64 (num5 : Int), .int .i64 fr5, .int .i64 (q : Int), .slice a6 n6 c6, .bool sp6] 33
              simp only [World.size_alloc] at g5
              generalize (w5.alloc (.cells #[.int .u64 (s : Int), .slice a5 n5 c5] 25)).alloc (.cells #[.int .u64 (num5 : Int), .int .i64 fr5, .int .i64 (q : Int), .slice a6 n6 c6, .bool sp6] 33) = W5 at *
              clear n0 n1 hc
              obtain ⟨g0, g1, g2, g3, g4⟩ := g5.c5
              go_wp2_with (fail)
              go_roundw
              case rel => exact ⟨j + 1, by omega, by go_num, (xq.trans x5).trans y5⟩
              case measure => simp [intOf]; omega
            · obtain rfl : j = F.length := by omega
              go_wp2_with (fail)
              go_roundw
              case rel => exact ⟨q + 1, by omega, by go_num, by rw [hcs]; go_num, xw.trans xq⟩
              case measure => simp [intOf]; omega
        · obtain rfl : q = 10 := by omega
          rw [cnt_all hr]
          have pk := fun W' (x : Ext [] W W') => Pick_any W' s k _ L (hP3 W' x) hk1 hk2
          have n0 := cells_ext xr m0
          have n1 := cells_ext xr m1
          by_cases h0 : L.length = 0
          · have hM : pickM ⟨s, L⟩ k = (0, false) := by
              unfold pickM
              rw [if_pos hr]
              obtain rfl := List.eq_nil_of_length_eq_zero h0
              rfl
            rw [hM] at pk
            rw [h0] at pk n1 ⊢
            clear hM hP3 hP2 m0 m1 b2
            go_wp2_with (go_at_call 23; (with_reducible refine (pk _ xr).mono ?_); rintro e w5 ⟨rfl, x5⟩; have n0 := cells_ext x5 n0; have n1 := cells_ext x5 n1)
            go_ret
            exact ⟨rfl, ((hX.trans xr).trans x5).below⟩
          · have hj : (max k 0).toNat % L.length < L.length := Nat.mod_lt _ (by omega)
            have hp : L[(max k 0).toNat % L.length]? = some L[(max k 0).toNat % L.length] := List.getElem?_eq_getElem hj
            have hmem := List.mem_of_getElem? hp
            generalize L[(max k 0).toNat % L.length] = P at *
            have hM : pickM ⟨s, L⟩ k = (P.num, true) := by
              unfold pickM
              rw [if_pos hr]
              show (match L[(max k 0).toNat % L.length]? with | some p => (p.num, true) | none => (0, false)) = _
              rw [hp]
            rw [hM] at pk
            have ls := fun W' (x : Ext [] W W') => forLose W' s _ L (hP3 W' x) hr P hmem
            have hgt : decide ((L.length : Int) > 0) = true := by simp; omega
            have hgt' : (0 : Int) < (L.length : Int) := by omega
            clear hM hP3 hP2 b2 hp hj hmem
            generalize hN : P.num = num at *
            clear hN
            go_upto_region 25 with (go_at_call 23; (with_reducible refine (pk _ xr).mono ?_); rintro e w5 ⟨rfl, x5⟩; have n0 := cells_ext x5 n0; have n1 := cells_ext x5 n1; have x5 := xr.trans x5)
            go_wp2_with (go_at_call 40; (with_reducible refine (ls _ x5).mono ?_); rintro e w6 ⟨a6, c6, rfl, x6⟩; have g6 := Blk.new w6 [.int .u64 (s : Int), .slice a6 (L.length - 1) c6] 25; obtain ⟨g0, g1⟩ := g6.c2; have hcast : ((L.length - 1 : Nat) : Int) = (L.length : Int) - 1 := by omega)
            go_ret
            exact ⟨ret_bool (by simp <;> omega), (((hX.trans x5).trans x6).trans ((Ext.refl [] w6).alloc _)).below⟩
    · go_wp2_with (go_at_call 18; (with_reducible refine ck.mono ?_); rintro e w3 ⟨rfl, x3⟩; have m0 := cells_ext x3 m0; have m1 := cells_ext x3 m1)
      go_ret
      exact ⟨rfl, (hX.trans x3).below⟩
set_option maxRecDepth 100000 in
open Go.ChangeShapes Go.WideShapes Go.ChangeAt in
theorem walk_NetFor {H : Type} {enc : TypeId × Value → H} (W : World) (v0 : Value) (d0 : DataW H) (p0 : List MemPlace) (base0 : Nat) (h0 : DataW.Trod enc Try.prog W 0 (fun _ => true) true 25 v0 d0 p0) (k0 : Value.okWide Try.prog W .any base0 25 v0) (v1 : Value) (d1 : DataW H) (p1 : List MemPlace) (base1 : Nat) (h1 : DataW.Trod enc Try.prog W 0 (fun _ => true) true 3 v1 d1 p1) (k1 : Value.okWide Try.prog W .any base1 3 v1) :
    Calls Try.prog 9 #[v0, v1] W fun e w' => e = .returned (.bool true) ∧ Below W.heap.size W w' := by
  obtain ⟨x, rfl, rfl, rfl, w1⟩ := open_int Try.underlying3 k1 h1
  obtain ⟨s, u, l, hs, rfl, hP⟩ := read_net h0 k0
  have hb := bounds_i64 w1
  exact walkFor W s u l x hP (by omega) (by omega)

namespace netFor
open Go.ChangeShapes Go.WideShapes Go.ChangeAt Go.RowKit
theorem own : ownKnob Try.prog.godebug = none := by kernel_rfl
theorem laidOut : laidOutB Try.prog = true := by kernel_rfl
set_option maxRecDepth 100000 in
theorem lifted (os : Os) (started : os.Started) (H : Type) (enc : TypeId × Value → H) :
    ReturnsInHanded {} Try.checked os 9 .any (Rows.netForSpec.pre6 enc Try.prog Try.f9 Rows.netForRow.domain false) (Rows.netForSpec.post enc Try.prog Try.f9 false true false false) := by
  refine returnsInHanded_of_change (C := Try.checked) own started (by kernel_rfl) Try.func9
    (ChangeSpec.witness6 (enc := enc) (C := Try.checked) false ⟨#[], #[.agg #[.int .u64 0, .slice none 0 0], .int .i64 0], []⟩ 8 (by kernel_rfl) (by kernel_rfl) (by kernel_rfl) (by kernel_rfl)) ?_
  intro W base args ds gs before hval0 hW hcnd _
  have hval : ∀ (j : Nat) t v, Try.f9.params[j]? = some t → args[j]? = some v → Value.okWide Try.prog W .any base t v := hval0
  have hW' := hW
  obtain ⟨p, q, hA0, hV, rfl, hfz, hnd⟩ := hW
  have hA : DataW.TrodAll enc Try.prog W 0 (fun _ => true) true Try.f9.params.toList args.toList ds p := hA0
  rw [Try.params9] at hA hval
  obtain ⟨v0, vs0, d0, ds0, p0, q0, hargs, rfl, rfl, h0, r0⟩ := trodAll_cons hA
  obtain ⟨v1, vs1, d1, ds1, p1, q1, rfl, rfl, rfl, h1, r1⟩ := trodAll_cons r0
  obtain ⟨rfl, rfl, rfl⟩ := trodAll_nil r1
  obtain rfl : args = #[v0, v1] := by cases args; simp_all
  obtain ⟨rfl, rfl⟩ := trodVars_none hV
  have lt0 : ∀ x ∈ p0, x.block < W.heap.size := by obtain ⟨m, hm⟩ := h0; exact DataW.trod_lt m _ _ _ hm
  have lt1 : ∀ x ∈ p1, x.block < W.heap.size := by obtain ⟨m, hm⟩ := h1; exact DataW.trod_lt m _ _ _ hm
  have k0 := hval 0 25 v0 rfl rfl
  have k1 := hval 1 3 v1 rfl rfl
  clear hA0 hval0
  refine (walk_NetFor W v0 d0 p0 base h0 k0 v1 d1 p1 base h1 k1).mono fun e W' ⟨he, bel⟩ => ?_
  subst he
  exact ⟨_, rfl, _, _, _, [], _, [], hW', trodAll_mk1 (shut_bool Try.underlying4 _), (trodAll_cons_mk (Below.trod laidOut (by kernel_rfl) (of_decide_eq_true (by kernel_rfl)) h0 bel lt0) (trodAll_cons_mk (Below.trod laidOut (by kernel_rfl) (of_decide_eq_true (by kernel_rfl)) h1 bel lt1) trodAll_mk0)), rfl, bel.frame _, fun h => by cases h⟩
theorem over : Rows.netForRow.holds Try.pinned (OpenSpec.ofChange Rows.netForSpec) :=
  OpenClaim.holds_of_wide 9 Try.f9 rfl rfl rfl rfl rfl rfl rfl ⟨rfl, rfl, rfl, rfl, rfl⟩ rfl rfl rfl rfl rfl (by kernel_rfl) Try.func9 (by kernel_rfl)
    (of_decide_eq_true (by kernel_rfl)) (by unfold Func.isWrapper; first | (rw [if_pos (by decide +kernel)]; kernel_rfl) | (rw [if_neg (by decide +kernel)]; exact ⟨rfl, rfl⟩))
    (fun os started H enc _ => lifted os started H enc)
theorem proved : Rows.NetForSaid := over
#print axioms proved
end netFor
end Go.Proofs.Ytdiachkimgkkbaa
