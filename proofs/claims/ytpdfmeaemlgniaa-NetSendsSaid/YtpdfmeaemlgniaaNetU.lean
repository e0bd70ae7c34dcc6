
/-
  The document's answers: Pick, Right.
-/
import Derived.Test.YtpdfmeaemlgniaaNetT
namespace Go.Proofs.Ytpdfmeaemlgniaa
open Go.RowKit
set_option linter.unusedVariables false
set_option linter.unusedSimpArgs false
def pickL (l : List Par) (k : Int) : Nat × Bool := match l[(max k 0).toNat % l.length]? with | some p => (p.num, true) | none => (0, false)
theorem pickM_eq {s : Nat} {l : List Par} {k : Int} (hr : right ⟨s, l⟩ = true) : pickM ⟨s, l⟩ k = pickL l k := by unfold pickM pickL; rw [if_pos hr]; rfl
set_option maxRecDepth 100000 in
set_option maxHeartbeats 4000000 in
theorem RefPick_any (w : World) (s : Nat) (k : Int) (v : Value) (l : List Par) (hP : Ps w v l) (hll : l.length ≤ 100000) (hk1 : -9223372036854775808 ≤ k) (hk2 : k < 9223372036854775808) :
    Calls Try.prog 23 #[NV s v, .int .i64 k] w fun e w' => e = .returned (.tuple #[.int .u64 ((pickL l k).1 : Int), .bool (pickL l k).2]) ∧ Ext [] w w' := by
  obtain ⟨a, c, rfl⟩ := hP.shape
  have hE := (Ext.refl [] w).alloc (.cells #[.int .u64 (s : Int), .slice a l.length c] 25)
  have b1 := Blk.new w [.int .u64 (s : Int), .slice a l.length c] 25
  have hP := hP.ext hE
  obtain ⟨d0, d1⟩ := b1.c2
  by_cases h0 : l.length = 0
  · have hM : pickL l k = (0, false) := by
      unfold pickL
      obtain rfl := List.eq_nil_of_length_eq_zero h0
      rfl
    rw [hM]
    clear hP hM
    rw [h0] at d1 d0 hE ⊢
    go_enter Try.func23, Try.ntmps23
    go_wp2_with (fail)
    refine bodyPost_ret (v := .tuple #[.int .u64 0, .bool false]) (by simp [results, Try.results23, go_sem]) rfl ?_
    exact ⟨rfl, hE⟩
  · have hj : (max k 0).toNat % l.length < l.length := Nat.mod_lt _ (by omega)
    have hp : l[(max k 0).toNat % l.length]? = some l[(max k 0).toNat % l.length] := List.getElem?_eq_getElem hj
    have hjj : Int.tmod (max k 0) (l.length : Int) = (((max k 0).toNat % l.length : Nat) : Int) := by
      rw [Int.tmod_eq_emod_of_nonneg (by omega)]
      have : max k 0 = (((max k 0).toNat : Nat) : Int) := by omega
      conv => lhs; rw [this]
      rfl
    generalize l[(max k 0).toNat % l.length] = p at *
    have hM : pickL l k = (p.num, true) := by
      unfold pickL
      rw [hp]
    rw [hM]
    generalize (max k 0).toNat % l.length = j at *
    obtain ⟨ob, o, a1, c1, rfl, f0, f1, f2, f3, f4, -⟩ := hP.at j p hp
    have hl0 : ((l.length : Int) == 0) = false := by simpa using h0
    clear hP hM hp f1 f2 f3 f4
    have hl1 : ¬ (l.length : Int) = 0 := by omega
    go_enter Try.func23, Try.ntmps23
    go_upto_region 3 with (fail)
    go_region
    go_wp2_with (fail)
    refine bodyPost_ret (v := .tuple #[.int .u64 (p.num : Int), .bool true]) (by simp [results, Try.results23, go_sem]) rfl ?_
    exact ⟨rfl, hE.drew⟩
/-- the number ahead of the place k -/
def ahead (l : List Par) (k : Nat) : Nat := if k = 0 then 0 else ((l[k - 1]?).map Par.num).getD 0
set_option maxRecDepth 100000 in
set_option maxHeartbeats 4000000 in
theorem Right_any (w : World) (s : Nat) (v : Value) (l : List Par) (hP : Ps w v l) :
    Calls Try.prog 16 #[NV s v] w fun e w' => e = .returned (.bool (right ⟨s, l⟩)) ∧ Ext [] w w' := by
  have hlm := hP.len
  unfold maxLen at hlm
  obtain ⟨a, c, rfl⟩ := hP.shape
  have hE := (Ext.refl [] w).alloc (.cells #[.int .u64 (s : Int), .slice a l.length c] 25)
  obtain ⟨d0, d1⟩ := (Blk.new w [.int .u64 (s : Int), .slice a l.length c] 25).c2
  have hP := hP.ext hE
  by_cases h1 : s ≤ 1099511627776
  · by_cases h2 : l.length ≤ 20000
    · have hR : right ⟨s, l⟩ = chk s 0 (l.drop 0) := by unfold right; simp [h1, h2]
      rw [hR]
      clear hR
      go_enter Try.func16, Try.ntmps16
      go_upto_region 1 with (fail)
      generalize w.alloc (.cells #[.int .u64 (s : Int), .slice a l.length c] 25) = W at *
      generalize w.heap.size = wb at *
      go_wp2_with (fail)
      go_loopw [17] (fun i wr => ∃ k : Nat, i = .int .i64 k ∧ k ≤ l.length ∧ Ext [] W wr ∧ Hid (chk s 0 (l.drop 0) = chk s (ahead l k) (l.drop k))) (fun i _ => l.length - (intOf i).toNat)
      case atStart => exact ⟨0, rfl, by omega, Ext.refl _ _, rfl⟩
      case round =>
        obtain ⟨k, rfl, hk, hX, hI⟩ := hrel
        by_cases hlt : k < l.length
        · have hp : l[k]? = some l[k] := List.getElem?_eq_getElem hlt
          generalize l[k] = p at *
          obtain ⟨ob, o, a1, c1, rfl, e0, e1, e2, e3, e4, oc, hb⟩ := (hP.ext hX).at k p hp
          have hI := Lib.hid (hI.out.trans (chk_at hp))
          have hah : ahead l (k + 1) = p.num := by unfold ahead; rw [if_neg (by omega), Nat.add_sub_cancel, hp]; rfl
          have hEr := (Ext.refl [] wr).alloc (.cells #[.int .u64 (p.num : Int), .int .i64 p.fr, .int .i64 p.to, .slice a1 p.bs.length c1, .bool p.sp] 33)
          have cc0 := cells_ext hEr (cells_ext hX d0)
          have cc1 := cells_ext hEr (cells_ext hX d1)
          obtain ⟨f0, f1, f2, f3, f4⟩ := (Blk.new wr [.int .u64 (p.num : Int), .int .i64 p.fr, .int .i64 p.to, .slice a1 p.bs.length c1, .bool p.sp] 33).c5
          have pr := fun w => Pair_any w p.fr p.to
          have hXa := hX.trans hEr
          have hPa := hP.ext hXa
          go_upto_region 6 with (fail)
          generalize wr.alloc (.cells #[.int .u64 (p.num : Int), .int .i64 p.fr, .int .i64 p.to, .slice a1 p.bs.length c1, .bool p.sp] 33) = W2 at *
          generalize wr.heap.size = pb at *
          clear e0 e1 e2 e3 e4 d0 d1
          by_cases g0 : p.num < 1
          · have hI : Hid (chk s 0 (l.drop 0) = false) := by show _ = _; rw [hI.out]; simp; omega
            have g0' : (p.num : Int) < 1 := by omega
            go_quiet (fail)
            go_wp2_with (fail)
            go_ret
            exact ⟨ret_bool hI.out.symm, hE.trans (hXa.drewN _)⟩
          · have g0' : ¬ ((p.num : Int) < 1) := by omega
            by_cases g1 : s < p.num
            · have hI : Hid (chk s 0 (l.drop 0) = false) := by show _ = _; rw [hI.out]; simp; omega
              have g1' : (s : Int) < (p.num : Int) := by omega
              go_quiet (fail)
              go_wp2_with (fail)
              go_ret
              exact ⟨ret_bool hI.out.symm, hE.trans (hXa.drewN _)⟩
            · have g1' : ¬ ((s : Int) < (p.num : Int)) := by omega
              by_cases gk : k = 0
              · subst gk
                have gk' : ¬ ((0 : Int) < 0) := by omega
                have hI : Hid (chk s 0 (l.drop 0) = (parOK p && chk s p.num (l.drop (0 + 1)))) := by
                  show _ = _
                  rw [hI.out]
                  have a1 : decide (ahead l 0 < p.num) = true := by unfold ahead; simp; omega
                  have a2 : decide (p.num ≤ s) = true := by simp; omega
                  rw [a1, a2]; simp
                have hPK : parOK p = (isWay p.fr p.to && decide (p.bs.length ≤ 60000) && (decide (0 < p.bs.length) || !p.sp)) := rfl
                rw [hPK] at hI
                clear hPK
                cases hB : isWay p.fr p.to
                · rw [hB] at hI pr
                  have hI : Hid (chk s 0 (l.drop 0) = false) := by show _ = _; rw [hI.out]; simp
                  clear hB
                  go_quiet ((go_at_call 44; exact Calls.quiet_of_same (pr _)))
                  go_wp2_with (fail)
                  go_ret
                  exact ⟨ret_bool hI.out.symm, hE.trans (hXa.drewN _)⟩
                · rw [hB] at hI pr
                  by_cases g3 : 60000 < p.bs.length
                  · have hI : Hid (chk s 0 (l.drop 0) = false) := by show _ = _; rw [hI.out]; simp; omega
                    have g3' : (60000 : Int) < (p.bs.length : Int) := by omega
                    clear hB
                    go_quiet ((go_at_call 44; exact Calls.quiet_of_same (pr _)))
                    go_wp2_with (fail)
                    go_ret
                    exact ⟨ret_bool hI.out.symm, hE.trans (hXa.drewN _)⟩
                  · have g3' : ¬ ((60000 : Int) < (p.bs.length : Int)) := by omega
                    cases hsp : p.sp
                    · have hI : Hid (chk s 0 (l.drop 0) = chk s p.num (l.drop (0 + 1))) := by show _ = _; rw [hI.out, hsp, show decide (p.bs.length ≤ 60000) = true by simp; omega]; simp
                      rw [hsp] at f4
                      clear hB
                      go_quiet ((go_at_call 44; exact Calls.quiet_of_same (pr _)))
                      go_wp2_with (fail)
                      go_roundw
                      case rel => exact ⟨0 + 1, by go_num, by omega, hXa.drewN _, by rw [hah]; exact hI.out⟩
                      case measure => simp [intOf]; omega
                    · rw [hsp] at f4
                      by_cases g4 : p.bs.length = 0
                      · have hI : Hid (chk s 0 (l.drop 0) = false) := by show _ = _; rw [hI.out, hsp, g4]; simp
                        rw [g4] at f3
                        clear hB
                        go_quiet ((go_at_call 44; exact Calls.quiet_of_same (pr _)))
                        go_wp2_with (fail)
                        go_ret
                        exact ⟨ret_bool hI.out.symm, hE.trans (hXa.drewN _)⟩
                      · have hI : Hid (chk s 0 (l.drop 0) = chk s p.num (l.drop (0 + 1))) := by
                          show _ = _
                          rw [hI.out]
                          have a1 : decide (p.bs.length ≤ 60000) = true := by simp; omega
                          have a2 : decide (0 < p.bs.length) = true := by simp; omega
                          rw [a1, a2]; simp
                        have g4' : ((p.bs.length : Int) == 0) = false := by rw [beq_eq_false_iff_ne]; omega
                        clear hB
                        go_quiet ((go_at_call 44; exact Calls.quiet_of_same (pr _)))
                        go_wp2_with (fail)
                        go_roundw
                        case rel => exact ⟨0 + 1, by go_num, by omega, hXa.drewN _, by rw [hah]; exact hI.out⟩
                        case measure => simp [intOf]; omega
              · obtain ⟨j, rfl⟩ : ∃ j, k = j + 1 := ⟨k - 1, by omega⟩
                have hp' : l[j]? = some l[j] := List.getElem?_eq_getElem (by omega)
                generalize l[j] = p' at *
                have hah' : ahead l (j + 1) = p'.num := by unfold ahead; rw [if_neg (by omega), Nat.add_sub_cancel, hp']; rfl
                obtain ⟨ob', o', a1', c1', he', e0', -, -, -, -, -⟩ := hPa.at j p' hp'
                simp only [Option.some.injEq, Addr.mk.injEq, and_true] at he'
                obtain ⟨rfl, rfl⟩ := he'
                have gk' : (0 : Int) < ((j + 1 : Nat) : Int) := by omega
                have gj : ((j + 1 : Nat) : Int) - 1 = (j : Int) := by omega
                have gj1 : (j : Int) < (l.length : Int) := by omega
                by_cases g2 : p.num ≤ p'.num
                · have hI : Hid (chk s 0 (l.drop 0) = false) := by show _ = _; rw [hI.out, hah']; simp; omega
                  have g2' : (p.num : Int) ≤ (p'.num : Int) := by omega
                  go_quiet (fail)
                  go_wp2_with (fail)
                  go_ret
                  exact ⟨ret_bool hI.out.symm, hE.trans (hXa.drewN _)⟩
                · have g2' : ¬ ((p.num : Int) ≤ (p'.num : Int)) := by omega
                  have hI : Hid (chk s 0 (l.drop 0) = (parOK p && chk s p.num (l.drop (j + 1 + 1)))) := by
                    show _ = _
                    rw [hI.out, hah']
                    have a1 : decide (p'.num < p.num) = true := by simp; omega
                    have a2 : decide (p.num ≤ s) = true := by simp; omega
                    rw [a1, a2]; simp
                  have hPK : parOK p = (isWay p.fr p.to && decide (p.bs.length ≤ 60000) && (decide (0 < p.bs.length) || !p.sp)) := rfl
                  rw [hPK] at hI
                  clear hPK
                  cases hB : isWay p.fr p.to
                  · rw [hB] at hI pr
                    have hI : Hid (chk s 0 (l.drop 0) = false) := by show _ = _; rw [hI.out]; simp
                    clear hB
                    go_quiet ((go_at_call 44; exact Calls.quiet_of_same (pr _)))
                    go_wp2_with (fail)
                    go_ret
                    exact ⟨ret_bool hI.out.symm, hE.trans (hXa.drewN _)⟩
                  · rw [hB] at hI pr
                    by_cases g3 : 60000 < p.bs.length
                    · have hI : Hid (chk s 0 (l.drop 0) = false) := by show _ = _; rw [hI.out]; simp; omega
                      have g3' : (60000 : Int) < (p.bs.length : Int) := by omega
                      clear hB
                      go_quiet ((go_at_call 44; exact Calls.quiet_of_same (pr _)))
                      go_wp2_with (fail)
                      go_ret
                      exact ⟨ret_bool hI.out.symm, hE.trans (hXa.drewN _)⟩
                    · have g3' : ¬ ((60000 : Int) < (p.bs.length : Int)) := by omega
                      cases hsp : p.sp
                      · have hI : Hid (chk s 0 (l.drop 0) = chk s p.num (l.drop ((j + 1) + 1))) := by show _ = _; rw [hI.out, hsp, show decide (p.bs.length ≤ 60000) = true by simp; omega]; simp
                        rw [hsp] at f4
                        clear hB
                        go_quiet ((go_at_call 44; exact Calls.quiet_of_same (pr _)))
                        go_wp2_with (fail)
                        go_roundw
                        case rel => exact ⟨(j + 1) + 1, by go_num, by omega, hXa.drewN _, by rw [hah]; exact hI.out⟩
                        case measure => simp [intOf]; omega
                      · rw [hsp] at f4
                        by_cases g4 : p.bs.length = 0
                        · have hI : Hid (chk s 0 (l.drop 0) = false) := by show _ = _; rw [hI.out, hsp, g4]; simp
                          rw [g4] at f3
                          clear hB
                          go_quiet ((go_at_call 44; exact Calls.quiet_of_same (pr _)))
                          go_wp2_with (fail)
                          go_ret
                          exact ⟨ret_bool hI.out.symm, hE.trans (hXa.drewN _)⟩
                        · have hI : Hid (chk s 0 (l.drop 0) = chk s p.num (l.drop ((j + 1) + 1))) := by
                            show _ = _
                            rw [hI.out]
                            have a1 : decide (p.bs.length ≤ 60000) = true := by simp; omega
                            have a2 : decide (0 < p.bs.length) = true := by simp; omega
                            rw [a1, a2]; simp
                          have g4' : ((p.bs.length : Int) == 0) = false := by rw [beq_eq_false_iff_ne]; omega
                          clear hB
                          go_quiet ((go_at_call 44; exact Calls.quiet_of_same (pr _)))
                          go_wp2_with (fail)
                          go_roundw
                          case rel => exact ⟨(j + 1) + 1, by go_num, by omega, hXa.drewN _, by rw [hah]; exact hI.out⟩
                          case measure => simp [intOf]; omega
        · obtain rfl : k = l.length := by omega
          go_wp2_with (fail)
          go_ret
          exact ⟨ret_bool (by rw [hI.out, List.drop_length]; rfl), hE.trans hX⟩
    · have hR : right ⟨s, l⟩ = false := by unfold right; simp [h2]
      rw [hR]
      clear hR
      go_enter Try.func16, Try.ntmps16
      go_wp2_with (fail)
      go_ret
      exact ⟨rfl, hE⟩
  · have hR : right ⟨s, l⟩ = false := by unfold right; simp [h1]
    rw [hR]
    clear hR
    go_enter Try.func16, Try.ntmps16
    go_wp2_with (fail)
    go_ret
    exact ⟨rfl, hE⟩
end Go.Proofs.Ytpdfmeaemlgniaa
