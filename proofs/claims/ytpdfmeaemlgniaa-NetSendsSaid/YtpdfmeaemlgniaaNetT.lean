
/-
  The document's answers: Pair, SameParcel, Same, SameNums, For, Pick.
-/
import Derived.Test.YtpdfmeaemlgniaaNetR
import Derived.Deep.QuietTactic
import Derived.BigQuiet
import Derived.StillTailTactics
namespace Go.Proofs.Ytpdfmeaemlgniaa
open Go.RowKit
set_option linter.unusedVariables false
set_option linter.unusedSimpArgs false
theorem Pair_any (w : World) (f t : Int) : Calls Try.prog 44 #[.int .i64 f, .int .i64 t] w fun e w' => e = .returned (.bool (isWay f t)) ∧ w' = w := by
  unfold isWay isNode
  by_cases h1 : 0 ≤ f
  · by_cases h2 : f ≤ 8
    · by_cases h3 : 0 ≤ t
      · by_cases h4 : t ≤ 8
        · go_enter Try.func44, Try.ntmps44
          go_wp2_with (fail)
          go_ret
          exact ⟨ret_bool (by simp [h1, h2, h3, h4]), rfl⟩
        · go_enter Try.func44, Try.ntmps44
          go_wp2_with (fail)
          go_ret
          exact ⟨ret_bool (by simp; omega), rfl⟩
      · go_enter Try.func44, Try.ntmps44
        go_wp2_with (fail)
        go_ret
        exact ⟨ret_bool (by simp; omega), rfl⟩
    · go_enter Try.func44, Try.ntmps44
      go_wp2_with (fail)
      go_ret
      exact ⟨ret_bool (by simp; omega), rfl⟩
  · go_enter Try.func44, Try.ntmps44
    go_wp2_with (fail)
    go_ret
    exact ⟨ret_bool (by simp; omega), rfl⟩
set_option maxHeartbeats 2000000 in
theorem RefSameParcel_any (w : World) (p q : Par) (a1 a2 : Option Addr) (c1 c2 o1 o2 : Nat) (h1 : Bs w (.slice a1 p.bs.length c1) o1 p.bs) (h2 : Bs w (.slice a2 q.bs.length c2) o2 q.bs) :
    Calls Try.prog 13 #[PV p.num p.fr p.to (.slice a1 p.bs.length c1) p.sp, PV q.num q.fr q.to (.slice a2 q.bs.length c2) q.sp] w fun e w' => e = .returned (.bool (same p q)) ∧ Ext [] w w' := by
  have hE := ((Ext.refl [] w).alloc (.cells #[.int .u64 (p.num : Int), .int .i64 p.fr, .int .i64 p.to, .slice a1 p.bs.length c1, .bool p.sp] 33)).alloc (.cells #[.int .u64 (q.num : Int), .int .i64 q.fr, .int .i64 q.to, .slice a2 q.bs.length c2, .bool q.sp] 33)
  have k1 := (Bs.ext h1 hE (by simp)).convert
  have k2 := (Bs.ext h2 hE (by simp)).convert
  clear h1 h2
  have hS : same p q = (decide (p.num = q.num) && decide (p.fr = q.fr) && decide (p.to = q.to) && decide (p.sp = q.sp) && (p.bs == q.bs)) := by
    unfold same
    cases p; cases q
    rw [Bool.eq_iff_iff]
    simp [and_assoc]
    intro _ _ _
    exact and_comm
  rw [hS]
  clear hS
  have hB : ((⟨p.bs.toArray⟩ : ByteArray).toList == (⟨q.bs.toArray⟩ : ByteArray).toList) = (p.bs == q.bs) := by simp
  generalize (p.bs == q.bs) = B at *
  generalize (⟨p.bs.toArray⟩ : ByteArray) = t1' at *
  generalize (⟨q.bs.toArray⟩ : ByteArray) = t2' at *
  generalize p.bs.length = n1 at *
  generalize q.bs.length = n2 at *
  generalize p.num = m1 at *
  generalize q.num = m2 at *
  generalize p.fr = f1 at *
  generalize q.fr = f2 at *
  generalize p.to = t1 at *
  generalize q.to = t2 at *
  generalize p.sp = s1 at *
  generalize q.sp = s2 at *
  by_cases g1 : m1 = m2
  · subst g1
    by_cases g2 : f1 = f2
    · subst g2
      by_cases g3 : t1 = t2
      · subst g3
        cases B <;> cases s1 <;> cases s2
        all_goals
          go_enter Try.func13, Try.ntmps13
          go_wp2_with (fail)
          go_ret
          exact ⟨ret_bool (by simp), hE⟩
      · have g3' : (t1 == t2) = false := by simpa using g3
        go_enter Try.func13, Try.ntmps13
        go_wp2_with (fail)
        go_ret
        exact ⟨ret_bool (by simp [g3]), hE⟩
    · have g2' : (f1 == f2) = false := by simpa using g2
      go_enter Try.func13, Try.ntmps13
      go_wp2_with (fail)
      go_ret
      exact ⟨ret_bool (by simp [g2]), hE⟩
  · have g1' : ((m1 : Int) == (m2 : Int)) = false := by simp; omega
    go_enter Try.func13, Try.ntmps13
    go_wp2_with (fail)
    go_ret
    exact ⟨ret_bool (by simp [g1]), hE⟩
set_option maxRecDepth 100000 in
set_option maxHeartbeats 4000000 in
theorem RefSame_any (w : World) (s1 s2 : Nat) (v1 v2 : Value) (l1 l2 : List Par) (h1 : Ps w v1 l1) (h2 : Ps w v2 l2) :
    Calls Try.prog 14 #[NV s1 v1, NV s2 v2] w fun e w' => e = .returned (.bool (sameNt ⟨s1, l1⟩ ⟨s2, l2⟩)) ∧ Ext [] w w' := by
  obtain ⟨a1, c1, rfl⟩ := h1.shape
  obtain ⟨a2, c2, rfl⟩ := h2.shape
  have hm1 := h1.len
  have hm2 := h2.len
  unfold maxLen at hm1 hm2
  have e1 := (Ext.refl [] w).alloc (.cells #[.int .u64 (s1 : Int), .slice a1 l1.length c1] 25)
  have e2 := (Ext.refl [] (w.alloc (.cells #[.int .u64 (s1 : Int), .slice a1 l1.length c1] 25))).alloc (.cells #[.int .u64 (s2 : Int), .slice a2 l2.length c2] 25)
  have b1 := (Blk.new w [.int .u64 (s1 : Int), .slice a1 l1.length c1] 25).ext e2 (by simp)
  have b2 := Blk.new (w.alloc (.cells #[.int .u64 (s1 : Int), .slice a1 l1.length c1] 25)) [.int .u64 (s2 : Int), .slice a2 l2.length c2] 25
  have hE := e1.trans e2
  simp only [World.size_alloc] at b2
  have h1 := h1.ext hE
  have h2 := h2.ext hE
  have hS : sameNt ⟨s1, l1⟩ ⟨s2, l2⟩ = (decide (s1 = s2) && decide (l1 = l2)) := by unfold sameNt; rw [Bool.eq_iff_iff]; simp
  rw [hS]
  clear hS e1 e2
  obtain ⟨d0, d1⟩ := b1.c2
  obtain ⟨f0, f1⟩ := b2.c2
  by_cases g1 : s1 = s2
  · subst g1
    by_cases hl : l1.length = l2.length
    · generalize hB : decide (l1 = l2) = B
      have hB := Lib.hid hB
      have HL := Lib.hid hl
      rw [← hl] at h2 f0 f1 b2 b1 d0 d1 hE h1 ⊢
      clear hm2 hl
      go_enter Try.func14, Try.ntmps14
      go_upto_region 1 with (fail)
      generalize (w.alloc (.cells #[.int .u64 (s1 : Int), .slice a1 l1.length c1] 25)).alloc (.cells #[.int .u64 (s1 : Int), .slice a2 l1.length c2] 25) = W at *
      generalize w.heap.size = wb at *
      go_wp2_with (fail)
      go_loopw [23] (fun i wr => ∃ k : Nat, i = .int .i64 k ∧ k ≤ l1.length ∧ Ext [] W wr ∧ Hid (l1.take k = l2.take k)) (fun i _ => l1.length - (intOf i).toNat)
      case atStart => exact ⟨0, rfl, by omega, Ext.refl _ _, rfl⟩
      case round =>
        obtain ⟨k, rfl, hk, hX, hI⟩ := hrel
        by_cases hlt : k < l1.length
        · have hp : l1[k]? = some l1[k] := List.getElem?_eq_getElem hlt
          have hq : l2[k]? = some (l2[k]'(by rw [← HL.out]; exact hlt)) := List.getElem?_eq_getElem _
          generalize l1[k] = p at *
          generalize l2[k]'(by rw [← HL.out]; exact hlt) = q at *
          obtain ⟨ob, o, r1, y1, rfl, p0, p1, p2, p3, p4, oc, hb⟩ := (h1.ext hX).at k p hp
          obtain ⟨ob', o', r2, y2, rfl, q0, q1, q2, q3, q4, oc', hb'⟩ := (h2.ext hX).at k q hq
          have d1 := cells_ext hX d1
          have f1 := cells_ext hX f1
          have sp := RefSameParcel_any wr.drew p q _ _ _ _ _ _ (hb.ext (Ext.refl [] wr).drew (by simp)) (hb'.ext (Ext.refl [] wr).drew (by simp))
          clear hb hb'
          go_upto_region 6 with (fail)
          go_still_tail 10, (by kernel_rfl)
          have hXd := hX.drew
          change wpList _ _ _ _ _ wr.drew
          generalize wr.drew = W2 at *
          clear p0 p1 p2 p3 p4 q0 q1 q2 q3 q4 d1 f1
          by_cases hpq : p = q
          · have hs : same p q = true := by simp [same, hpq]
            rw [hs] at sp
            have HI : Hid (l1.take (k + 1) = l2.take (k + 1)) := take_succ_eq hI.out hp hq hpq
            clear hs hpq hI
            go_wp2_with (go_at_call 13; (with_reducible refine sp.mono ?_); rintro e w2 ⟨rfl, x3⟩)
            go_roundw
            case rel => exact ⟨k + 1, by go_num, by omega, hXd.trans x3, HI.out⟩
            case measure => simp [intOf]; omega
          · have hs : same p q = false := by simp [same, hpq]
            rw [hs] at sp
            have HB : Hid (B = false) := by
              show _ = _
              rw [← hB.out]
              refine decide_eq_false fun e => hpq ?_
              rw [e, hq] at hp
              exact (Option.some.inj hp).symm
            clear hs hpq hI
            go_wp2_with (go_at_call 13; (with_reducible refine sp.mono ?_); rintro e w2 ⟨rfl, x3⟩)
            go_ret
            exact ⟨ret_bool (by rw [HB.out]; simp), (hE.trans hXd).trans x3⟩
        · obtain rfl : k = l1.length := by omega
          have HB : Hid (B = true) := by
            show _ = _
            rw [← hB.out]
            have := hI.out
            rw [List.take_length, HL.out, List.take_length] at this
            exact decide_eq_true this
          go_wp2_with (fail)
          go_ret
          exact ⟨ret_bool (by rw [HB.out]; simp), hE.trans hX⟩
    · have hB : decide (l1 = l2) = false := decide_eq_false fun e => hl (by rw [e])
      have hl' : ((l1.length : Int) == (l2.length : Int)) = false := by simp; omega
      have hl2 : ((l1.length : Int) != (l2.length : Int)) = true := by simp; omega
      rw [hB]
      clear hB
      go_enter Try.func14, Try.ntmps14
      go_wp2_with (fail)
      go_ret
      exact ⟨ret_bool (by simp), hE⟩
  · have g1' : ((s1 : Int) == (s2 : Int)) = false := by simp; omega
    go_enter Try.func14, Try.ntmps14
    go_wp2_with (fail)
    go_ret
    exact ⟨ret_bool (by simp [g1]), hE⟩
/-! ## lists of numbers -/
abbrev Us (w : World) (v : Value) (ob : Nat) (l : List Nat) : Prop := Sl w v ob 1 l.length (l.map UV)
theorem Us.at {w : World} {a : Option Addr} {n c : Nat} {ob : Nat} {l : List Nat} (h : Us w (.slice a n c) ob l) (k x : Nat) (hx : l[k]? = some x) : ∃ o, a = some ⟨ob, o, none⟩ ∧ w.cell? ⟨ob, o + k, none⟩ = some (.int .u64 (x : Int)) := by
  have hk := (List.getElem?_eq_some_iff.1 hx).1
  rcases h.2 with ⟨h1, h2⟩ | ⟨off, sp, cap, h1, _, _, hsp, h3⟩
  · omega
  · simp only [Value.slice.injEq] at h1
    obtain ⟨rfl, rfl, rfl⟩ := h1
    obtain rfl : sp = none := by rcases hsp with h | h; omega; exact h
    exact ⟨off, rfl, h3 k _ (by rw [List.getElem?_map, hx]; rfl)⟩
set_option maxRecDepth 100000 in
set_option maxHeartbeats 4000000 in
theorem SameNums_any (w : World) (v1 v2 : Value) (o1 o2 : Nat) (l1 l2 : List Nat) (h1 : Us w v1 o1 l1) (h2 : Us w v2 o2 l2) :
    Calls Try.prog 20 #[v1, v2] w fun e w' => e = .returned (.bool (decide (l1 = l2))) ∧ Ext [] w w' := by
  obtain ⟨a1, c1, rfl⟩ := sl_shape h1
  obtain ⟨a2, c2, rfl⟩ := sl_shape h2
  have hm1 := sl_len h1
  have hm2 := sl_len h2
  unfold maxLen at hm1 hm2
  by_cases hl : l1.length = l2.length
  · generalize hB : decide (l1 = l2) = B
    have hB := Lib.hid hB
    have HL := Lib.hid hl
    unfold Us at h2
    rw [← hl] at h2 ⊢
    have h2 : Sl w (.slice a2 l1.length c2) o2 1 l1.length (l2.map UV) := h2
    clear hm2 hl
    go_enter Try.func20, Try.ntmps20
    go_wp2_with (fail)
    go_loopw [13] (fun i wr => ∃ k : Nat, i = .int .i64 k ∧ k ≤ l1.length ∧ Ext [] w wr ∧ Hid (l1.take k = l2.take k)) (fun i _ => l1.length - (intOf i).toNat)
    case atStart => exact ⟨0, rfl, by omega, Ext.refl _ _, rfl⟩
    case round =>
      obtain ⟨k, rfl, hk, hX, hI⟩ := hrel
      by_cases hlt : k < l1.length
      · have hp : l1[k]? = some l1[k] := List.getElem?_eq_getElem hlt
        have hq : l2[k]? = some (l2[k]'(by rw [← HL.out]; exact hlt)) := List.getElem?_eq_getElem _
        generalize l1[k] = p at *
        generalize l2[k]'(by rw [← HL.out]; exact hlt) = q at *
        obtain ⟨o, rfl, p0⟩ := Us.at (h1.ext hX (by simp)) k p hp
        obtain ⟨o', rfl, q0⟩ := Us.at (n := l1.length) (l := l2) (by unfold Us; rw [← HL.out]; exact h2.ext hX (by simp)) k q hq
        go_upto_region 6 with (fail)
        by_cases hpq : p = q
        · have HI : Hid (l1.take (k + 1) = l2.take (k + 1)) := take_succ_eq hI.out hp hq hpq
          subst hpq
          clear hI
          go_region
          go_wp2_with (fail)
          go_roundw
          case rel => exact ⟨k + 1, by go_num, by omega, hX.drew, HI.out⟩
          case measure => simp [intOf]; omega
        · have HB : Hid (B = false) := by
            show _ = _
            rw [← hB.out]
            refine decide_eq_false fun e => hpq ?_
            rw [e, hq] at hp
            exact (Option.some.inj hp).symm
          have hne : ((p : Int) != (q : Int)) = true := by simp; omega
          have hne' : ((p : Int) == (q : Int)) = false := by simp; omega
          clear hpq hI
          go_region
          go_wp2_with (fail)
          go_ret
          exact ⟨ret_bool (by rw [HB.out]), hX.drew⟩
      · obtain rfl : k = l1.length := by omega
        have HB : Hid (B = true) := by
          show _ = _
          rw [← hB.out]
          have := hI.out
          rw [List.take_length, HL.out, List.take_length] at this
          exact decide_eq_true this
        go_wp2_with (fail)
        go_ret
        exact ⟨ret_bool (by rw [HB.out]), hX⟩
  · have hB : decide (l1 = l2) = false := decide_eq_false fun e => hl (by rw [e])
    have hl' : ((l1.length : Int) == (l2.length : Int)) = false := by simp; omega
    have hl2 : ((l1.length : Int) != (l2.length : Int)) = true := by simp; omega
    rw [hB]
    clear hB
    go_enter Try.func20, Try.ntmps20
    go_wp2_with (fail)
    go_ret
    exact ⟨rfl, Ext.refl _ _⟩
/-- its k-th Num is the one of that parcel -/
def forL (l : List Par) (node : Int) : List Nat := (l.filter fun p => p.to == node).map Par.num
set_option maxRecDepth 100000 in
set_option maxHeartbeats 4000000 in
theorem RefFor_any (w : World) (s : Nat) (node : Int) (v : Value) (l : List Par) (hP : Ps w v l) (hll : l.length ≤ 100000) :
    Calls Try.prog 19 #[NV s v, .int .i64 node] w fun e w' => ∃ v', e = .returned v' ∧ w'.ownsRow w.heap.size 22 1 v' (forL l node).length ((forL l node).map UV) ∧ Ext [] w w' := by
  obtain ⟨a, c, rfl⟩ := hP.shape
  have hE := (Ext.refl [] w).alloc (.cells #[.int .u64 (s : Int), .slice a l.length c] 25)
  have b1 := Blk.new w [.int .u64 (s : Int), .slice a l.length c] 25
  have hP := hP.ext hE
  obtain ⟨d0, d1⟩ := b1.c2
  go_enter Try.func19, Try.ntmps19
  go_upto_region 1 with (fail)
  generalize w.alloc (.cells #[.int .u64 (s : Int), .slice a l.length c] 25) = W at *
  have HW := Lib.hid hE.size
  generalize w.heap.size = wb at d0 d1 b1
  go_wp2_with (fail)
  go_loopw [5, 11] (fun x i wr => ∃ (k : Nat) (v : Value), i = .int .i64 k ∧ x = v ∧ k ≤ l.length ∧ Ext [] W wr ∧ wr.ownsRow W.heap.size 22 1 v (forL (l.take k) node).length ((forL (l.take k) node).map UV)) (fun _ i _ => l.length - (intOf i).toNat)
  case atStart => exact ⟨0, .slice none 0 0, rfl, rfl, by omega, Ext.refl _ _, World.ownsRow_nil _ _ _ _⟩
  case round =>
    obtain ⟨k, v, rfl, rfl, hk, hX, hO⟩ := hrel
    obtain ⟨av, cv, rfl⟩ := own_shape hO
    by_cases hlt : k < l.length
    · have hp : l[k]? = some l[k] := List.getElem?_eq_getElem hlt
      generalize l[k] = p at *
      obtain ⟨ob, o, a1, c1, rfl, p0, p1, p2, p3, p4, oc, hb⟩ := (hP.ext hX).at k p hp
      have htk : l.take (k + 1) = l.take k ++ [p] := by rw [List.take_add_one, hp]; rfl
      have hfl : (forL (l.take k) node).length ≤ k := by
        unfold forL
        rw [List.length_map]
        exact Nat.le_trans (List.length_filter_le _ _) (by rw [List.length_take]; omega)
      have x1 := (Ext.refl [] wr).alloc (.cells #[.int .u64 (p.num : Int), .int .i64 p.fr, .int .i64 p.to, .slice a1 p.bs.length c1, .bool p.sp] 33)
      obtain ⟨i0, i1, i2, i3, i4⟩ := (Blk.new wr [.int .u64 (p.num : Int), .int .i64 p.fr, .int .i64 p.to, .slice a1 p.bs.length c1, .bool p.sp] 33).c5
      have ho1 := own_ext hO x1 (fun _ _ => by simp)
      have hX1 := hX.trans x1
      go_upto_region 5 with (fail)
      generalize wr.alloc (.cells #[.int .u64 (p.num : Int), .int .i64 p.fr, .int .i64 p.to, .slice a1 p.bs.length c1, .bool p.sp] 33) = W1 at *
      generalize wr.heap.size = pb at *
      by_cases ht : p.to = node
      · have hs : forL (l.take (k + 1)) node = forL (l.take k) node ++ [p.num] := by unfold forL; rw [htk, List.filter_append, List.map_append]; simp [ht]
        have hte : (p.to == node) = true := by simpa using ht
        have y1 := (Ext.refl [] W1).alloc (.cells #[.int .u64 (p.num : Int)] 22)
        have ho2 := own_ext ho1 y1 (fun _ _ => by simp)
        have hsz := hX1.size
        clear ht htk p0 p1 p2 p3 p4
        go_wp2_with (at_builtin; refine wpList_append_sl TU64 rfl (.tmp 19) (.tmp 22) rfl rfl ho2 rfl (Sl.lit W1 [.int .u64 (p.num : Int)] 22 1 1 rfl (by decide)) (by intro u hu; simp at hu; subst hu; rfl) (by unfold maxLen; omega) (by omega) (by simp; omega) ?_; intro v6 W6 r1 r2)
        go_roundw
        case rel =>
          refine ⟨k + 1, _, by go_num, rfl, by omega, (hX1.trans y1).trans' r2 (fun i hi => .inr (own_ge ho2 i hi)), ?_⟩
          · rw [hs, List.length_append, List.map_append]; exact r1
        case measure => simp [intOf]; omega
      · have hs : forL (l.take (k + 1)) node = forL (l.take k) node := by unfold forL; rw [htk, List.filter_append]; simp [ht]
        have hte : (p.to == node) = false := by simpa using ht
        clear ht htk
        go_wp2_with (fail)
        go_roundw
        case rel => exact ⟨k + 1, _, by go_num, rfl, by omega, hX1, by rw [hs]; exact ho1⟩
        case measure => simp [intOf]; omega
    · obtain rfl : k = l.length := by omega
      rw [List.take_length] at hO ⊢
      go_wp2_with (fail)
      go_ret
      exact ⟨_, rfl, own_mono hO HW.out, hE.trans hX⟩
end Go.Proofs.Ytpdfmeaemlgniaa
