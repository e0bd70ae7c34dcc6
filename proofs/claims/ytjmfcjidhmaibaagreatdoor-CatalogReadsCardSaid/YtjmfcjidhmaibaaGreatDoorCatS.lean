
/-
  The reference of catalogs: Word, RightTable, Right, Find, Column.
-/
import Derived.Test.YtjmfcjidhmaibaaGreatDoorCatI
import Derived.Test.YtjmfcjidhmaibaaGreatDoorCatRB
namespace Go.Proofs.YtjmfcjidhmaibaaGreatDoor
open Go.RowKit
open Go.Lib hiding intOf
set_option linter.unusedVariables false

theorem Word_any (w : World) (k : Int) : Calls Tryz.prog 40 #[.int .i64 k] w fun e w' => e = .returned (.string (B (kw k))) ∧ w = w' := by
  by_cases h1 : k = 1
  · subst h1
    go_enter Tryz.func40, Tryz.ntmps40
    go_wp2
    go_ret
    exact ⟨rfl, rfl⟩
  · by_cases h2 : k = 2
    · subst h2
      go_enter Tryz.func40, Tryz.ntmps40
      go_wp2
      go_ret
      exact ⟨rfl, rfl⟩
    · by_cases h3 : k = 3
      · subst h3
        go_enter Tryz.func40, Tryz.ntmps40
        go_wp2
        go_ret
        exact ⟨rfl, rfl⟩
      · have hk : kw k = [] := by unfold kw; rw [if_neg h1, if_neg h2, if_neg h3]
        rw [hk]
        have q1 : (k == 1) = false := by simpa using h1
        have q2 : (k == 2) = false := by simpa using h2
        have q3 : (k == 3) = false := by simpa using h3
        clear h1 h2 h3 hk
        go_enter Tryz.func40, Tryz.ntmps40
        go_wp2
        go_ret
        exact ⟨rfl, rfl⟩
theorem fnd_at_most {ns : List ByteArray} {s : ByteArray} {k : Nat} (h : ns[k]? = some s) : fnd ns s ≤ k := by
  rcases Nat.lt_or_ge k (fnd ns s) with hlt | hge
  · obtain ⟨hk, e⟩ := List.getElem?_eq_some_iff.1 h
    unfold fnd at hlt
    have := List.not_of_lt_findIdx hlt
    simp [e] at this
  · exact hge
theorem empty_eq (l : List UInt8) : ((B l).toList.isEmpty) = decide (l = []) := by
  rw [ByteArray.toList_eq]
  show l.isEmpty = _
  cases l <;> simp
set_option maxRecDepth 100000 in
set_option maxHeartbeats 4000000 in
theorem rRightTable_any (w : World) (t : Tab) (a1 : Option Addr) (c1 : Nat) (a2 : Option Addr) (c2 : Nat) (oc ok : Nat) (hC : Cs w (.slice a1 t.cols.length c1) oc t.cols) (hK : Is w (.slice a2 t.keys.length c2) ok t.keys) (hl : t.cols.length ≤ maxLen) (hk : t.keys.length ≤ maxLen) :
    Calls Tryz.prog 21 #[TV t.n (.slice a1 t.cols.length c1) (.slice a2 t.keys.length c2)] w fun e w' => e = .returned (.bool (isTab t)) ∧ Ext [] w w' := by
  rw [isTab_eq]
  obtain ⟨n, cs, ks⟩ := t
  unfold maxLen at hl hk
  dsimp only at *
  have hE := (Ext.refl [] w).alloc (.cells #[.string n, .slice a1 cs.length c1, .slice a2 ks.length c2] 41)
  have d0 := new_cells w [.string n, .slice a1 cs.length c1, .slice a2 ks.length c2] 41 0 _ rfl
  have d1 := new_cells w [.string n, .slice a1 cs.length c1, .slice a2 ks.length c2] 41 1 _ rfl
  have d2 := new_cells w [.string n, .slice a1 cs.length c1, .slice a2 ks.length c2] 41 2 _ rfl
  have hi := fun W => rIsName_any W n
  cases hn : isName (L n)
  · rw [hn] at hi
    simp only [Bool.false_and]
    clear hn
    go_enter Tryz.func21, Tryz.ntmps21
    go_upto_region 1 with (fail)
    generalize w.alloc (.cells #[.string n, .slice a1 cs.length c1, .slice a2 ks.length c2] 41) = W at *
    generalize w.heap.size = b at *
    go_wp2_with (go_at_call 39; (with_reducible refine (hi _).mono ?_); rintro e w1 ⟨rfl, x1⟩; have f1 := cells_ext x1 d1; have f2 := cells_ext x1 d2)
    go_ret
    exact ⟨rfl, hE.trans x1⟩
  · rw [hn] at hi
    simp only [Bool.true_and]
    clear hn
    by_cases hc : 1 ≤ cs.length ∧ cs.length ≤ 4
    · obtain ⟨h1, h4⟩ := hc
      have q1 : decide ((cs.length : Int) < 1) = false := by simp; omega
      have q2 : decide ((4 : Int) < (cs.length : Int)) = false := by simp; omega
      have hco : colsOK cs = fitsL Col.n isCol cs := by unfold colsOK; rw [decide_eq_true h1, decide_eq_true h4]; rfl
      rw [hco]
      go_enter Tryz.func21, Tryz.ntmps21
      go_upto_region 1 with (fail)
      generalize w.alloc (.cells #[.string n, .slice a1 cs.length c1, .slice a2 ks.length c2] 41) = W at *
      generalize w.heap.size = b at *
      go_wp2_with (go_at_call 39; (with_reducible refine (hi _).mono ?_); rintro e w1 ⟨rfl, x1⟩; have f1 := cells_ext x1 d1; have f2 := cells_ext x1 d2)
      go_loopw [3] (fun i wr => ∃ k : Nat, k ≤ cs.length ∧ i = .int .i64 k ∧ Ext [] w1 wr ∧ Hid (∀ (j : Nat) x, j < k → cs[j]? = some x → fnd (cs.map Col.n) (Col.n x) = j ∧ isCol x = true)) (fun i _ => cs.length - (intOf i).toNat)
      case atStart => exact ⟨0, by omega, rfl, Ext.refl _ _, fun j x h => by omega⟩
      case round =>
        obtain ⟨k, hk, rfl, hX, hS⟩ := hrel
        have g1 := cells_ext hX f1
        have g2 := cells_ext hX f2
        have hEX := (hE.trans x1).trans hX
        by_cases hlt : k < cs.length
        · obtain ⟨o, N, K, rfl, hx, c0, c1'⟩ := (hC.ext hEX (by simp)).at k hlt
          have e2 := (Ext.refl [] wr).alloc (.cells #[.string N, .int .i64 K] 67)
          have b0 := new_cells wr [.string N, .int .i64 K] 67 0 _ rfl
          have b1 := new_cells wr [.string N, .int .i64 K] 67 1 _ rfl
          have h1 := cells_ext e2 g1
          have ni := fun U => rIsName_any U N
          have nw := fun U => Word_any U K
          have hcd : isCol ⟨N, K⟩ = (isName (L N) && decide (kw K ≠ [])) := rfl
          have hkw := empty_eq (kw K)
          cases hcn : isName (L N)
          · rw [hcn] at ni
            have HS := Lib.hid (fitsL_no (f := Col.n) (q := isCol) hx (Or.inr (by rw [hcd, hcn]; rfl)))
            clear hx hS hcd hcn
            go_upto_region 7 with (fail)
            generalize wr.alloc (.cells #[.string N, .int .i64 K] 67) = V at *
            generalize wr.heap.size = bv at *
            go_wp2_with (first
              | (go_at_call 39; (with_reducible refine (ni _).mono ?_); rintro e v1 ⟨rfl, y1⟩; have k1 := cells_ext y1 b1))
            go_ret
            exact ⟨ret_bool (by rw [HS.out]; rfl), (hEX.trans e2).trans y1⟩
          · rw [hcn] at ni
            by_cases hw : kw K = []
            · have HS := Lib.hid (fitsL_no (f := Col.n) (q := isCol) hx (Or.inr (by rw [hcd, hcn]; simp [hw])))
              rw [decide_eq_true hw] at hkw
              clear hx hS hcd hcn hw
              go_upto_region 7 with (fail)
              generalize wr.alloc (.cells #[.string N, .int .i64 K] 67) = V at *
              generalize wr.heap.size = bv at *
              go_wp2_with (first
                | (go_at_call 39; (with_reducible refine (ni _).mono ?_); rintro e v1 ⟨rfl, y1⟩; have k1 := cells_ext y1 b1)
                | (go_at_call 40; (with_reducible refine (nw _).mono ?_); rintro e v2 ⟨rfl, rfl⟩))
              go_ret
              exact ⟨ret_bool (by rw [HS.out]; rfl), (hEX.trans e2).trans y1⟩
            · have hcol : isCol ⟨N, K⟩ = true := by rw [hcd, hcn]; simp [hw]
              rw [decide_eq_false hw] at hkw
              clear hcd hcn hw
              go_upto_region 7 with (fail)
              generalize wr.alloc (.cells #[.string N, .int .i64 K] 67) = V at *
              generalize wr.heap.size = bv at *
              go_wp2_with (first
                | (go_at_call 39; (with_reducible refine (ni _).mono ?_); rintro e v1 ⟨rfl, y1⟩; have k0 := cells_ext y1 b0; have k1 := cells_ext y1 b1; have j1 := cells_ext y1 h1)
                | (go_at_call 40; (with_reducible refine (nw _).mono ?_); rintro e v2 ⟨rfl, rfl⟩))
              clear ni nw hkw b0 b1 c0 c1' g2
              go_loopw [5] (fun i vr => ∃ m : Nat, m ≤ k ∧ i = .int .i64 m ∧ Ext [] v1 vr ∧ Hid (∀ x ∈ (cs.map Col.n).take m, x ≠ N)) (fun i _ => k - (intOf i).toNat)
              case atStart => exact ⟨0, by omega, rfl, Ext.refl _ _, by simp [Hid]⟩
              case round =>
                obtain ⟨m, hm, rfl, hZ, hD⟩ := hrel
                have l0 := cells_ext hZ k0
                have l1 := cells_ext hZ j1
                by_cases hmk : m < k
                · obtain ⟨o', N', K', e0, hy, r0, -⟩ := (hC.ext (((hEX.trans e2).trans y1).trans hZ) (by simp)).at m (by omega)
                  simp only [Option.some.injEq, Addr.mk.injEq, true_and, and_true] at e0
                  subst e0
                  have hs := toList_eq N' N
                  have hm2 : (cs.map Col.n)[m]? = some N' := by rw [List.getElem?_map, hy]; rfl
                  by_cases he : N' = N
                  · have HS : Hid (fitsL Col.n isCol cs = false) := by
                      refine fitsL_no (f := Col.n) (q := isCol) hx (Or.inl ?_)
                      have := fnd_at_most (he ▸ hm2 : (cs.map Col.n)[m]? = some N)
                      dsimp only
                      omega
                    rw [decide_eq_true he] at hs
                    clear he hm2 hy hx hS hD hcol
                    go_upto_region 12 with (fail)
                    go_quiet (fail)
                    go_wp2_with (fail)
                    go_ret
                    exact ⟨ret_bool (by rw [HS.out]; rfl), (((hEX.trans e2).trans y1).trans hZ).drewN _⟩
                  · have HD : Hid (∀ x ∈ (cs.map Col.n).take (m + 1), x ≠ N) := by
                      show ∀ x ∈ _, _
                      intro x hxx
                      rw [List.take_add_one, hm2, List.mem_append] at hxx
                      rcases hxx with hxx | hxx
                      · exact hD.out x hxx
                      · obtain rfl : x = N' := by simpa using hxx
                        exact he
                    rw [decide_eq_false he] at hs
                    have HX := Lib.hid hx
                    have HCOL := Lib.hid hcol
                    clear he hm2 hy hx hcol hD
                    go_upto_region 12 with (fail)
                    go_quiet (fail)
                    go_wp2_with (fail)
                    go_roundw
                    case rel => exact ⟨m + 1, by omega, by go_num, hZ.drewN _, HD⟩
                    case measure => simp [intOf]; omega
                · obtain rfl : m = k := by omega
                  have HS : Hid (∀ (j : Nat) x, j < m + 1 → cs[j]? = some x → fnd (cs.map Col.n) (Col.n x) = j ∧ isCol x = true) := by
                    intro j x hj hjx
                    by_cases e : j = m
                    · subst e
                      rw [hx] at hjx
                      obtain rfl := Option.some.inj hjx
                      exact ⟨fnd_here _ _ _ (by rw [List.getElem?_map, hx]; rfl) hD.out, hcol⟩
                    · exact hS.out j x (by omega) hjx
                  clear hx hcol hS hD
                  go_wp2_with (fail)
                  go_roundw
                  case rel => exact ⟨m + 1, by omega, by go_num, (((hX.trans e2).trans y1).trans hZ), HS⟩
                  case measure => simp [intOf]; omega
        · have HS : Hid (fitsL Col.n isCol cs = true) := by
            refine fitsL_yes fun j x hx => hS.out j x ?_ hx
            have := (List.getElem?_eq_some_iff.1 hx).1
            omega
          clear hS
          obtain rfl : k = cs.length := by omega
          go_wp2_with (fail)
          clear g1 g2
          go_loopw [6] (fun i vr => ∃ (j : Nat) (m : Int), j ≤ ks.length ∧ i = .int .i64 j ∧ 0 ≤ m ∧ m ≤ 9223372036854775807 ∧ Ext [] wr vr ∧ Hid (areKeys cs.length m (ks.drop j) = areKeys cs.length 0 ks) ∧ Hid ((j = 0 → m = 0) ∧ ∀ p, j = p + 1 → ks[p]? = some (m - 1))) (fun i _ => ks.length - (intOf i).toNat)
          case atStart => exact ⟨0, 0, by omega, rfl, by omega, by omega, Ext.refl _ _, rfl, ⟨fun _ => rfl, fun p h => by omega⟩⟩
          case round =>
            obtain ⟨j, m, hj, rfl, hm0, hm1, hZ, hS, hP⟩ := hrel
            have g1 := cells_ext (hX.trans hZ) f1
            have g2 := cells_ext (hX.trans hZ) f2
            by_cases hjl : j < ks.length
            · obtain ⟨o2, K, rfl, hy, y0⟩ := (hK.ext (hEX.trans hZ) (by simp)).at j hjl
              have hd : areKeys cs.length 0 ks = (decide (m ≤ K) && decide (K < (cs.length : Int)) && areKeys cs.length (K + 1) (ks.drop (j + 1))) := by
                rw [← hS.out, List.drop_eq_getElem_cons hjl, (List.getElem?_eq_some_iff.1 hy).2]
                rfl
              by_cases hA : K < 0
              · have HR : Hid (areKeys cs.length 0 ks = false) := by
                  show _ = _
                  rw [hd, show decide (m ≤ K) = false by simp; omega]; simp
                have r1 : decide (K < 0) = true := by simp; omega
                clear hd hS hP hy hA
                go_upto_region 17 with (fail)
                go_quiet (fail)
                go_wp2_with (fail)
                go_ret
                exact ⟨ret_bool (by rw [HR.out]; simp), (hEX.trans hZ).drewN _⟩
              · have r1 : decide (K < 0) = false := by simp; omega
                by_cases hB : (cs.length : Int) ≤ K
                · have HR : Hid (areKeys cs.length 0 ks = false) := by
                    show _ = _
                    rw [hd, show decide (K < (cs.length : Int)) = false by simp; omega]; simp
                  have r2 : decide ((cs.length : Int) ≤ K) = true := by simp; omega
                  clear hd hS hP hy hA hB
                  go_upto_region 17 with (fail)
                  go_quiet (fail)
                  go_wp2_with (fail)
                  go_ret
                  exact ⟨ret_bool (by rw [HR.out]; simp), (hEX.trans hZ).drewN _⟩
                · have r2 : decide ((cs.length : Int) ≤ K) = false := by simp; omega
                  have hK0 : 0 ≤ K := by omega
                  have hK1 : K < (cs.length : Int) := by omega
                  by_cases hj0 : j = 0
                  · obtain rfl : m = 0 := hP.out.1 hj0
                    have HN : Hid (areKeys cs.length (K + 1) (ks.drop (j + 1)) = areKeys cs.length 0 ks) := by
                      show _ = _
                      rw [hd, decide_eq_true hK0, decide_eq_true hK1]; rfl
                    have HP : Hid ((j + 1 = 0 → K + 1 = 0) ∧ ∀ p, j + 1 = p + 1 → ks[p]? = some (K + 1 - 1)) := by
                      refine ⟨fun h => by omega, fun p h => ?_⟩
                      obtain rfl : p = j := by omega
                      rw [hy]; congr 1; omega
                    have r0 : decide (0 < j) = false := by simp; omega
                    have r0' : ¬ 0 < j := by omega
                    clear hd hS hP hy hA hB hj0
                    go_upto_region 17 with (fail)
                    go_quiet (fail)
                    go_wp2_with (fail)
                    go_roundw
                    case rel => exact ⟨j + 1, K + 1, by omega, by go_num, by omega, by omega, hZ.drewN _, HN, HP⟩
                    case measure => simp [intOf]; omega
                  · obtain ⟨p, rfl⟩ : ∃ p, j = p + 1 := ⟨j - 1, by omega⟩
                    have hprev := hP.out.2 p rfl
                    obtain ⟨o3, K3, e0, hy3, y3⟩ := (hK.ext (hEX.trans hZ) (by simp)).at p (by omega)
                    simp only [Option.some.injEq, Addr.mk.injEq, true_and, and_true] at e0
                    subst e0
                    rw [hprev] at hy3
                    obtain rfl : m - 1 = K3 := Option.some.inj hy3
                    by_cases hM : m ≤ K
                    · have r3 : decide (K ≤ m - 1) = false := by simp; omega
                      have HN : Hid (areKeys cs.length (K + 1) (ks.drop (p + 1 + 1)) = areKeys cs.length 0 ks) := by
                        show _ = _
                        rw [hd, decide_eq_true hM, decide_eq_true hK1]; rfl
                      have HP : Hid ((p + 1 + 1 = 0 → K + 1 = 0) ∧ ∀ q, p + 1 + 1 = q + 1 → ks[q]? = some (K + 1 - 1)) := by
                        refine ⟨fun h => by omega, fun q h => ?_⟩
                        obtain rfl : q = p + 1 := by omega
                        rw [hy]; congr 1; omega
                      clear hd hS hP hy hA hB hprev hy3
                      go_upto_region 17 with (fail)
                      go_quiet (fail)
                      go_wp2_with (fail)
                      go_roundw
                      case rel => exact ⟨p + 1 + 1, K + 1, by omega, by go_num, by omega, by omega, hZ.drewN _, HN, HP⟩
                      case measure => simp [intOf]; omega
                    · have r3 : decide (K ≤ m - 1) = true := by simp; omega
                      have HR : Hid (areKeys cs.length 0 ks = false) := by
                        show _ = _
                        rw [hd, decide_eq_false hM]; rfl
                      clear hd hS hP hy hA hB hprev hy3 hM
                      go_upto_region 17 with (fail)
                      go_quiet (fail)
                      go_wp2_with (fail)
                      go_ret
                      exact ⟨ret_bool (by rw [HR.out]; simp), (hEX.trans hZ).drewN _⟩
            · have HR : Hid (areKeys cs.length 0 ks = true) := by
                show _ = _
                rw [← hS.out, List.drop_eq_nil_of_le (by omega)]
                rfl
              clear hS hP
              go_wp2_with (fail)
              go_ret
              exact ⟨ret_bool (by rw [HS.out, HR.out]; rfl), hEX.trans hZ⟩
    · have q : colsOK cs = false := by
        unfold colsOK
        have : (decide (1 ≤ cs.length) && decide (cs.length ≤ 4)) = false := by
          by_cases h1 : 1 ≤ cs.length
          · have : ¬ cs.length ≤ 4 := fun h2 => hc ⟨h1, h2⟩
            simp [this]
          · simp [h1]
        rw [this]; rfl
      rw [q]
      simp only [Bool.false_and]
      by_cases h1 : 1 ≤ cs.length
      · have q1 : decide ((cs.length : Int) < 1) = false := by simp; omega
        have q2 : decide ((4 : Int) < (cs.length : Int)) = true := by simp; omega
        clear hc h1 q
        go_enter Tryz.func21, Tryz.ntmps21
        go_upto_region 1 with (fail)
        generalize w.alloc (.cells #[.string n, .slice a1 cs.length c1, .slice a2 ks.length c2] 41) = W at *
        generalize w.heap.size = b at *
        go_wp2_with (go_at_call 39; (with_reducible refine (hi _).mono ?_); rintro e w1 ⟨rfl, x1⟩; have f1 := cells_ext x1 d1; have f2 := cells_ext x1 d2)
        go_ret
        exact ⟨rfl, hE.trans x1⟩
      · have q1 : decide ((cs.length : Int) < 1) = true := by simp; omega
        clear hc h1 q
        go_enter Tryz.func21, Tryz.ntmps21
        go_upto_region 1 with (fail)
        generalize w.alloc (.cells #[.string n, .slice a1 cs.length c1, .slice a2 ks.length c2] 41) = W at *
        generalize w.heap.size = b at *
        go_wp2_with (go_at_call 39; (with_reducible refine (hi _).mono ?_); rintro e w1 ⟨rfl, x1⟩; have f1 := cells_ext x1 d1; have f2 := cells_ext x1 d2)
        go_ret
        exact ⟨rfl, hE.trans x1⟩
end Go.Proofs.YtjmfcjidhmaibaaGreatDoor
