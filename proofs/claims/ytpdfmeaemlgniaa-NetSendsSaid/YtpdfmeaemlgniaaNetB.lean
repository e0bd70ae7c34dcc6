/-
  Which nets may be, and are the same: isNode, isWay, mayBe, Check, sameParcel, Same.
-/
import Derived.Test.YtpdfmeaemlgniaaNetA
import Derived.Test.YtpdfmeaemlgniaaEqual
import Derived.Deep.CutBlock
import Derived.Deep.CutRange
import Derived.Deep.DeepCutAuto
import Derived.Deep.RegionWith
import Derived.StillTailTactics
namespace Go.Proofs.Ytpdfmeaemlgniaa
open Go.RowKit
set_option linter.unusedVariables false

theorem isNode_any (w : World) (k : Int) : Calls Try.prog 70 #[.int .i64 k] w fun e w' => e = .returned (.bool (isNode k)) ∧ w = w' := by
  unfold isNode
  by_cases h1 : 0 ≤ k
  · by_cases h2 : k ≤ 8
    all_goals
      go_enter Try.func70, Try.ntmps70
      go_wp2
      go_ret
      exact ⟨ret_bool (by simp [h1]; omega), rfl⟩
  · go_enter Try.func70, Try.ntmps70
    go_wp2
    go_ret
    exact ⟨ret_bool (by simp; omega), rfl⟩
theorem isWay_any (w : World) (f t : Int) : Calls Try.prog 52 #[.int .i64 f, .int .i64 t] w fun e w' => e = .returned (.bool (isWay f t)) ∧ w = w' := by
  have c1 := isNode_any w f
  have c2 := isNode_any w t
  unfold isWay
  generalize isNode f = B1 at *
  generalize isNode t = B2 at *
  cases B1 <;> cases B2
  all_goals
    go_enter Try.func52, Try.ntmps52
    go_wp2_with (first
      | (go_at_call 70; (with_reducible refine c1.mono ?_); rintro e w' ⟨rfl, rfl⟩)
      | (go_at_call 70; (with_reducible refine c2.mono ?_); rintro e w' ⟨rfl, rfl⟩))
    go_ret
    exact ⟨ret_bool (by simp), rfl⟩
set_option maxHeartbeats 1000000 in
theorem mayBe_any (w : World) (num : Nat) (p : Par) (a : Option Addr) (c : Nat) : Calls Try.prog 45 #[PV num p.fr p.to (.slice a p.bs.length c) p.sp] w fun e w' => e = .returned (.bool (parOK p)) ∧ Ext [] w w' := by
  have c1 := fun w => isWay_any w p.fr p.to
  unfold parOK
  generalize isWay p.fr p.to = B1 at *
  generalize p.bs.length = n at *
  generalize p.fr = f at *
  generalize p.to = t at *
  generalize p.sp = S at *
  have hE := (Ext.refl [] w).alloc (.cells #[.int .u64 (num : Int), .int .i64 f, .int .i64 t, .slice a n c, .bool S] 33)
  cases B1
  · go_enter Try.func45, Try.ntmps45
    go_wp2_with (go_at_call 52; (with_reducible refine (c1 _).mono ?_); rintro e w' ⟨rfl, rfl⟩)
    go_ret
    exact ⟨ret_bool (by simp), hE⟩
  · by_cases h1 : n ≤ 60000
    · by_cases h2 : 0 < n
      · go_enter Try.func45, Try.ntmps45
        go_wp2_with (go_at_call 52; (with_reducible refine (c1 _).mono ?_); rintro e w' ⟨rfl, rfl⟩)
        go_ret
        exact ⟨ret_bool (by simp [h1, h2]), hE⟩
      · obtain rfl : n = 0 := by omega
        go_enter Try.func45, Try.ntmps45
        go_wp2_with (go_at_call 52; (with_reducible refine (c1 _).mono ?_); rintro e w' ⟨rfl, rfl⟩)
        go_ret
        exact ⟨ret_bool (by simp), hE⟩
    · go_enter Try.func45, Try.ntmps45
      go_wp2_with (go_at_call 52; (with_reducible refine (c1 _).mono ?_); rintro e w' ⟨rfl, rfl⟩)
      go_ret
      exact ⟨ret_bool (by simp; try omega), hE⟩
theorem new_cells (w : World) (l : List Value) (e : TypeId) (i : Nat) (u : Value) (h : l[i]? = some u) : (w.alloc (.cells l.toArray e)).cell? ⟨w.heap.size, i, none⟩ = some u := by
  rw [(Blk.new w l e).cell i, h]
theorem cells_ext {w w' : World} (h : Ext [] w w') {b i : Nat} {u : Value} (c : w.cell? ⟨b, i, none⟩ = some u) : w'.cell? ⟨b, i, none⟩ = some u := h.read c (by simp)
theorem chk_at {s b k : Nat} {l : List Par} {p : Par} (h : l[k]? = some p) : chk s b (l.drop k) = (decide (b < p.num) && decide (p.num ≤ s) && parOK p && chk s p.num (l.drop (k + 1))) := by
  have hk := (List.getElem?_eq_some_iff.1 h)
  rw [List.drop_eq_getElem_cons hk.1, hk.2]
  rfl
def okE (b : Bool) : Int := if b = true then 0 else 340
theorem Blk.c5 {w : World} {b : Nat} {e : TypeId} {x0 x1 x2 x3 x4 : Value} (h : Blk w b e [x0, x1, x2, x3, x4]) : w.cell? ⟨b, 0, none⟩ = some x0 ∧ w.cell? ⟨b, 1, none⟩ = some x1 ∧ w.cell? ⟨b, 2, none⟩ = some x2 ∧ w.cell? ⟨b, 3, none⟩ = some x3 ∧ w.cell? ⟨b, 4, none⟩ = some x4 := ⟨h.cell 0, h.cell 1, h.cell 2, h.cell 3, h.cell 4⟩
theorem Blk.c2 {w : World} {b : Nat} {e : TypeId} {x0 x1 : Value} (h : Blk w b e [x0, x1]) : w.cell? ⟨b, 0, none⟩ = some x0 ∧ w.cell? ⟨b, 1, none⟩ = some x1 := ⟨h.cell 0, h.cell 1⟩
set_option maxHeartbeats 2000000 in
theorem Check_any (w : World) (s : Nat) (v : Value) (l : List Par) (hP : Ps w v l) :
    Calls Try.prog 17 #[NV s v] w fun e w' => e = .returned (.int .i64 (okE (right ⟨s, l⟩))) ∧ Ext [] w w' := by
  have hlm := hP.len
  unfold maxLen at hlm
  obtain ⟨a, c, rfl⟩ := hP.shape
  have hE := (Ext.refl [] w).alloc (.cells #[.int .u64 (s : Int), .slice a l.length c] 25)
  obtain ⟨d0, d1⟩ := (Blk.new w [.int .u64 (s : Int), .slice a l.length c] 25).c2
  have hP := hP.ext hE
  by_cases h1 : s ≤ 1099511627776
  · by_cases h2 : l.length ≤ 20000
    · have hR : right ⟨s, l⟩ = chk s 0 (l.drop 0) := by unfold right; simp [h1, h2]
      rw [hR]
      clear hR
      go_enter Try.func17, Try.ntmps17
      go_upto_region 1 with (fail)
      generalize w.alloc (.cells #[.int .u64 (s : Int), .slice a l.length c] 25) = W at *
      generalize w.heap.size = wb at *
      go_wp2_with (fail)
      go_loopw [3, 18] (fun b i wr => ∃ k bl : Nat, i = .int .i64 k ∧ k ≤ l.length ∧ b = .int .u64 bl ∧ Ext [] W wr ∧ Hid (chk s 0 (l.drop 0) = chk s bl (l.drop k))) (fun _ i _ => l.length - (intOf i).toNat)
      case atStart => exact ⟨0, 0, rfl, by omega, rfl, Ext.refl _ _, rfl⟩
      case round =>
        obtain ⟨k, bl, rfl, hk, rfl, hX, hI⟩ := hrel
        by_cases hlt : k < l.length
        · have hp : l[k]? = some l[k] := List.getElem?_eq_getElem hlt
          generalize l[k] = p at *
          obtain ⟨ob, o, a1, c1, rfl, e0, e1, e2, e3, e4, oc, hb⟩ := (hP.ext hX).at k p hp
          have hI := Lib.hid (hI.out.trans (chk_at hp))
          have hEr := (Ext.refl [] wr).alloc (.cells #[.int .u64 (p.num : Int), .int .i64 p.fr, .int .i64 p.to, .slice a1 p.bs.length c1, .bool p.sp] 33)
          have cc0 := cells_ext hEr (cells_ext hX d0)
          obtain ⟨f0, f1, f2, f3, f4⟩ := (Blk.new wr [.int .u64 (p.num : Int), .int .i64 p.fr, .int .i64 p.to, .slice a1 p.bs.length c1, .bool p.sp] 33).c5
          have mb := fun w => mayBe_any w p.num p a1 c1
          have hXa := hX.trans hEr
          clear d0 d1
          go_upto_region 7 with (fail)
          generalize wr.alloc (.cells #[.int .u64 (p.num : Int), .int .i64 p.fr, .int .i64 p.to, .slice a1 p.bs.length c1, .bool p.sp] 33) = W2 at *
          generalize wr.heap.size = pb at *
          by_cases g1 : bl < p.num
          · by_cases g2 : p.num ≤ s
            · generalize parOK p = B at *
              cases B
              · have hI : Hid (chk s 0 (l.drop 0) = false) := by show _ = _; rw [hI.out]; simp
                go_wp2_with (go_at_call 45; (with_reducible refine (mb _).mono ?_); rintro e w2 ⟨rfl, x2⟩)
                go_ret
                exact ⟨by rw [hI.out]; rfl, hE.trans (hXa.trans x2)⟩
              · have HI : Hid (chk s 0 (l.drop 0) = chk s p.num (l.drop (k + 1))) := by show _ = _; rw [hI.out]; simp [g1, g2]
                clear hI
                go_wp2_with (go_at_call 45; (with_reducible refine (mb _).mono ?_); rintro e w2 ⟨rfl, x2⟩; obtain ⟨r0, r1⟩ := And.intro (cells_ext x2 f0) (cells_ext x2 cc0))
                go_roundw
                case rel => exact ⟨k + 1, p.num, by go_num, by omega, rfl, hXa.trans x2, HI.out⟩
                case measure => simp [intOf]; omega
            · have hI : Hid (chk s 0 (l.drop 0) = false) := by show _ = _; rw [hI.out]; simp [g2]
              go_wp2_with (fail)
              go_ret
              exact ⟨by rw [hI.out]; rfl, hE.trans hXa⟩
          · have hI : Hid (chk s 0 (l.drop 0) = false) := by show _ = _; rw [hI.out]; simp [g1]
            go_wp2_with (fail)
            go_ret
            exact ⟨by rw [hI.out]; rfl, hE.trans hXa⟩
        · obtain rfl : k = l.length := by omega
          go_wp2_with (fail)
          go_ret
          exact ⟨by rw [hI.out, List.drop_length]; rfl, hE.trans hX⟩
    · have hR : right ⟨s, l⟩ = false := by unfold right; simp [h2]
      rw [hR]
      clear hR
      go_enter Try.func17, Try.ntmps17
      go_wp2_with (fail)
      go_ret
      exact ⟨rfl, hE⟩
  · have hR : right ⟨s, l⟩ = false := by unfold right; simp [h1]
    rw [hR]
    clear hR
    go_enter Try.func17, Try.ntmps17
    go_wp2_with (fail)
    go_ret
    exact ⟨rfl, hE⟩
end Go.Proofs.Ytpdfmeaemlgniaa
