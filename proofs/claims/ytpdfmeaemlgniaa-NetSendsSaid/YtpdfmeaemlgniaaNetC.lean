/-
  Which parcels and nets are the same; where a parcel is: sameParcel, slices.EqualFunc, Same, cmp.Compare, slices.BinarySearchFunc, find.
-/
import Derived.Test.YtpdfmeaemlgniaaNetB
import Derived.Outline
namespace Go.Proofs.Ytpdfmeaemlgniaa
open Go.RowKit
set_option linter.unusedVariables false

def same (p q : Par) : Bool := decide (p = q)
set_option maxHeartbeats 2000000 in
theorem sameParcel_any (w : World) (p q : Par) (a1 a2 : Option Addr) (c1 c2 o1 o2 : Nat) (h1 : Bs w (.slice a1 p.bs.length c1) o1 p.bs) (h2 : Bs w (.slice a2 q.bs.length c2) o2 q.bs) :
    Calls Try.prog 47 #[PV p.num p.fr p.to (.slice a1 p.bs.length c1) p.sp, PV q.num q.fr q.to (.slice a2 q.bs.length c2) q.sp] w fun e w' => e = .returned (.bool (same p q)) ∧ Ext [] w w' := by
  have hE := ((Ext.refl [] w).alloc (.cells #[.int .u64 (p.num : Int), .int .i64 p.fr, .int .i64 p.to, .slice a1 p.bs.length c1, .bool p.sp] 33)).alloc (.cells #[.int .u64 (q.num : Int), .int .i64 q.fr, .int .i64 q.to, .slice a2 q.bs.length c2, .bool q.sp] 33)
  have cE := fun W x => Equal_any W _ _ _ _ p.bs q.bs (Bs.ext h1 (X := []) (w' := W) x (by simp)) (Bs.ext h2 (X := []) x (by simp))
  clear h1 h2
  have hS : same p q = (decide (p.num = q.num) && decide (p.fr = q.fr) && decide (p.to = q.to) && (p.bs == q.bs) && decide (p.sp = q.sp)) := by
    unfold same
    cases p; cases q
    rw [Bool.eq_iff_iff]
    simp [and_assoc]
  rw [hS]
  clear hS
  generalize (p.bs == q.bs) = B at *
  generalize p.bs.length = n1 at *
  generalize q.bs.length = n2 at *
  generalize p.num = m1 at *
  generalize q.num = m2 at *
  generalize p.fr = f1 at *
  generalize q.fr = f2 at *
  generalize p.to = t1 at *
  generalize q.to = t2 at *
  generalize p.sp = s1 at *
  generalize q.sp = s2 at *
  by_cases g1 : m1 = m2
  · subst g1
    by_cases g2 : f1 = f2
    · subst g2
      by_cases g3 : t1 = t2
      · subst g3
        cases B <;> cases s1 <;> cases s2
        all_goals
          go_enter Try.func47, Try.ntmps47
          go_wp2_with (go_at_call 34; (with_reducible refine (cE _ hE).mono ?_); rintro e w' ⟨rfl, rfl⟩)
          go_ret
          exact ⟨ret_bool (by simp), hE⟩
      · have g3' : (t1 == t2) = false := by simpa using g3
        go_enter Try.func47, Try.ntmps47
        go_wp2_with (fail)
        go_ret
        exact ⟨ret_bool (by simp [g3]), hE⟩
    · have g2' : (f1 == f2) = false := by simpa using g2
      go_enter Try.func47, Try.ntmps47
      go_wp2_with (fail)
      go_ret
      exact ⟨ret_bool (by simp [g2]), hE⟩
  · have g1' : ((m1 : Int) == (m2 : Int)) = false := by simp; omega
    go_enter Try.func47, Try.ntmps47
    go_wp2_with (fail)
    go_ret
    exact ⟨ret_bool (by simp [g1]), hE⟩
theorem take_succ_eq {α : Type} {l m : List α} {k : Nat} {x y : α} (h : l.take k = m.take k) (hx : l[k]? = some x) (hy : m[k]? = some y) (he : x = y) : l.take (k + 1) = m.take (k + 1) := by
  rw [List.take_add_one, List.take_add_one, hx, hy, h, he]
set_option maxHeartbeats 4000000 in
theorem EqualFunc_any (w : World) (v1 v2 : Value) (l1 l2 : List Par) (h1 : Ps w v1 l1) (h2 : Ps w v2 l2) :
    Calls Try.prog 46 #[v1, v2, .func (.func 47) #[] #[]] w fun e w' => e = .returned (.bool (decide (l1 = l2))) ∧ Ext [] w w' := by
  obtain ⟨a1, c1, rfl⟩ := h1.shape
  obtain ⟨a2, c2, rfl⟩ := h2.shape
  have hm1 := h1.len
  have hm2 := h2.len
  unfold maxLen at hm1 hm2
  by_cases hl : l1.length = l2.length
  · generalize hB : decide (l1 = l2) = B
    have hB := Lib.hid hB
    have HL := Lib.hid hl
    rw [← hl] at h2 ⊢
    clear hm2 hl
    go_enter Try.func46, Try.ntmps46
    go_wp2_with (fail)
    go_loopw [17] (fun i wr => ∃ k : Nat, i = .int .i64 k ∧ k ≤ l1.length ∧ Ext [] w wr ∧ Hid (l1.take k = l2.take k)) (fun i _ => l1.length - (intOf i).toNat)
    case atStart => exact ⟨0, rfl, by omega, Ext.refl _ _, rfl⟩
    case round =>
      obtain ⟨k, rfl, hk, hX, hI⟩ := hrel
      by_cases hlt : k < l1.length
      · have hp : l1[k]? = some l1[k] := List.getElem?_eq_getElem hlt
        have hq : l2[k]? = some (l2[k]'(by rw [← HL.out]; exact hlt)) := List.getElem?_eq_getElem _
        generalize l1[k] = p at *
        generalize l2[k]'(by rw [← HL.out]; exact hlt) = q at *
        obtain ⟨ob, o, b1, d1, rfl, e0, e1, e2, e3, e4, oc, hb⟩ := (h1.ext hX).at k p hp
        obtain ⟨ob', o', b2, d2, rfl, e0', e1', e2', e3', e4', oc', hb'⟩ := (h2.ext hX).at k q hq
        have x1 := (Ext.refl [] wr).alloc (.cells #[.int .u64 (p.num : Int), .int .i64 p.fr, .int .i64 p.to, .slice b1 p.bs.length d1, .bool p.sp] 33)
        have hb := hb.ext x1 (by simp)
        have hb' := hb'.ext x1 (by simp)
        have k0 := cells_ext x1 e0'
        have k1 := cells_ext x1 e1'
        have k2 := cells_ext x1 e2'
        have k3 := cells_ext x1 e3'
        have k4 := cells_ext x1 e4'
        have n1 := Blk.new wr [.int .u64 (p.num : Int), .int .i64 p.fr, .int .i64 p.to, .slice b1 p.bs.length d1, .bool p.sp] 33
        clear e0' e1' e2' e3' e4'
        go_upto_region 6 with (fail)
        generalize wr.alloc (.cells #[.int .u64 (p.num : Int), .int .i64 p.fr, .int .i64 p.to, .slice b1 p.bs.length d1, .bool p.sp] 33) = W1 at *
        generalize wr.heap.size = pb at *
        have x2 := (Ext.refl [] W1).alloc (.cells #[.int .u64 (q.num : Int), .int .i64 q.fr, .int .i64 q.to, .slice b2 q.bs.length d2, .bool q.sp] 33)
        obtain ⟨j0, j1, j2, j3, j4⟩ := (n1.ext x2 (by simp)).c5
        obtain ⟨i0, i1, i2, i3, i4⟩ := (Blk.new W1 [.int .u64 (q.num : Int), .int .i64 q.fr, .int .i64 q.to, .slice b2 q.bs.length d2, .bool q.sp] 33).c5
        have hb := hb.ext x2 (by simp)
        have hb' := hb'.ext x2 (by simp)
        go_upto_region 7 with (fail)
        generalize W1.alloc (.cells #[.int .u64 (q.num : Int), .int .i64 q.fr, .int .i64 q.to, .slice b2 q.bs.length d2, .bool q.sp] 33) = W2 at *
        generalize W1.heap.size = qb at *
        have sp := sameParcel_any W2 p q _ _ _ _ _ _ hb hb'
        clear hb hb'
        by_cases hpq : p = q
        · have hs : same p q = true := by simp [same, hpq]
          rw [hs] at sp
          have HI : Hid (l1.take (k + 1) = l2.take (k + 1)) := take_succ_eq hI.out hp hq hpq
          clear hs hpq hI
          go_wp2_with (go_at_call 47; (with_reducible refine sp.mono ?_); rintro e w2 ⟨rfl, x3⟩)
          go_roundw
          case rel => exact ⟨k + 1, by go_num, by omega, ((hX.trans x1).trans x2).trans x3, HI.out⟩
          case measure => simp [intOf]; omega
        · have hs : same p q = false := by simp [same, hpq]
          rw [hs] at sp
          have HB : Hid (B = false) := by
            show _ = _
            rw [← hB.out]
            refine decide_eq_false fun e => hpq ?_
            rw [e, hq] at hp
            exact (Option.some.inj hp).symm
          clear hs hpq hI
          go_wp2_with (go_at_call 47; (with_reducible refine sp.mono ?_); rintro e w2 ⟨rfl, x3⟩)
          go_ret
          exact ⟨ret_bool HB.out.symm, ((hX.trans x1).trans x2).trans x3⟩
      · obtain rfl : k = l1.length := by omega
        have HB : Hid (B = true) := by
          show _ = _
          rw [← hB.out]
          have := hI.out
          rw [List.take_length, HL.out, List.take_length] at this
          exact decide_eq_true this
        go_wp2_with (fail)
        go_ret
        exact ⟨ret_bool HB.out.symm, hX⟩
  · have hB : decide (l1 = l2) = false := decide_eq_false fun e => hl (by rw [e])
    have hl' : ((l1.length : Int) == (l2.length : Int)) = false := by simp; omega
    have hl2 : ((l1.length : Int) != (l2.length : Int)) = true := by simp; omega
    rw [hB]
    clear hB
    go_enter Try.func46, Try.ntmps46
    go_wp2_with (fail)
    go_ret
    exact ⟨rfl, Ext.refl _ _⟩
def sameNt (a b : Nt) : Bool := decide (a = b)
set_option maxHeartbeats 1000000 in
theorem Same_any (w : World) (s1 s2 : Nat) (v1 v2 : Value) (l1 l2 : List Par) (h1 : Ps w v1 l1) (h2 : Ps w v2 l2) :
    Calls Try.prog 18 #[NV s1 v1, NV s2 v2] w fun e w' => e = .returned (.bool (sameNt ⟨s1, l1⟩ ⟨s2, l2⟩)) ∧ Ext [] w w' := by
  have hE := ((Ext.refl [] w).alloc (.cells #[.int .u64 (s1 : Int), v1] 25)).alloc (.cells #[.int .u64 (s2 : Int), v2] 25)
  have cE := fun W x => EqualFunc_any W v1 v2 l1 l2 (h1.ext (w' := W) x) (h2.ext x)
  obtain ⟨a1, c1, rfl⟩ := h1.shape
  obtain ⟨a2, c2, rfl⟩ := h2.shape
  clear h1 h2
  have hS : sameNt ⟨s1, l1⟩ ⟨s2, l2⟩ = (decide (s1 = s2) && decide (l1 = l2)) := by unfold sameNt; rw [Bool.eq_iff_iff]; simp
  rw [hS]
  clear hS
  generalize decide (l1 = l2) = B at *
  generalize l1.length = n1 at *
  generalize l2.length = n2 at *
  by_cases g1 : s1 = s2
  · subst g1
    go_enter Try.func18, Try.ntmps18
    go_wp2_with (go_at_call 46; (with_reducible refine (cE _ hE).mono ?_); rintro e w' ⟨rfl, x⟩)
    go_ret
    exact ⟨ret_bool (by simp), hE.trans x⟩
  · have g1' : ((s1 : Int) == (s2 : Int)) = false := by simp; omega
    go_enter Try.func18, Try.ntmps18
    go_wp2_with (fail)
    go_ret
    exact ⟨ret_bool (by simp [g1]), hE⟩
end Go.Proofs.Ytpdfmeaemlgniaa
