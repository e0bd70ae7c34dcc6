/-
  What CatalogTells comes to.
-/
import Derived.Test.YtibmjfihfljiiaaDoorCatVC
import Derived.Test.YtibmjfihfljiiaaDoorCatXC
import Derived.Test.YtibmjfihfljiiaaDoorCatU
import Derived.Deep.RegionHeldLaw
namespace Go.Proofs.YtibmjfihfljiiaaDoor
open Go.RowKit
open Go.Lib hiding intOf
set_option linter.unusedVariables false

theorem held_ext {W w : World} {b0 o0 b1 o1 : Nat} {v0 v1 : Value} (h : (w).cell? ⟨b0, o0, none⟩ = some v0 ∧ (w).cell? ⟨b1, o1, none⟩ = some v1 ∧ Ext [] W (w)) : Ext [] W w := h.2.2
set_option maxRecDepth 100000 in
set_option maxHeartbeats 4000000 in
theorem tells_in (w : World) (u v : Value) (l m : List Tab) (name : ByteArray) (hL : Ts w u l) (hM : Ts w v m) (hG : Glob w) (hl : l.length ≤ maxLen) (hm : m.length ≤ maxLen) (hb : TabsOK l) (hbm : TabsOK m) :
    Calls Tryd.prog 4 #[KV u, KV v, .string name] w fun e w' => e = .returned (.bool true) ∧ Ext [] w w' := by
  obtain ⟨a, c, rfl⟩ := hL.shape
  obtain ⟨a', c', rfl⟩ := hM.shape
  have hwk := fun U (x : Ext [] w U) => wakes_any U (hG.ext x)
  have hov := fun U (x : Ext [] w U) => over_any U (.slice a l.length c) l (hL.ext x) hl
  have how := fun U (x : Ext [] w U) => over_any U (.slice a' m.length c') m (hM.ext x) hm
  have e1 := (Ext.refl [] w).alloc (.cells #[.slice a l.length c] 24)
  have e2 := e1.alloc (.cells #[.slice a' m.length c'] 24)
  have d1 := cells_ext ((Ext.refl [] _).alloc (.cells #[.slice a' m.length c'] 24)) (new_cells w [.slice a l.length c] 24 0 _ rfl)
  have d2 := new_cells (w.alloc (.cells #[.slice a l.length c] 24)) [.slice a' m.length c'] 24 0 _ rfl
  rw [World.size_alloc] at d2
  cases ho : overB l
  · rw [ho] at hov
    cases ho2 : overB m
    · rw [ho2] at how
      by_cases h5 : 100 < name.size
      · have q5 : decide ((100 : Int) < (name.size : Int)) = true := by simp; omega
        go_enter Tryd.func4, Tryd.ntmps4
        go_wp2_with (first | (go_at_call 8; (with_reducible refine (hwk _ e2).mono ?_); rintro e w0 ⟨rfl, x0⟩; have hx := e2.trans x0; have dc := cells_ext x0 d1; have dp := cells_ext x0 d2) | (go_at_call 9; (with_reducible refine (hov _ hx).mono ?_); rintro e w1 ⟨rfl, x1⟩; have hx := hx.trans x1; have dc := cells_ext x1 dc; have dp := cells_ext x1 dp) | (go_at_call 9; (with_reducible refine (how _ hx).mono ?_); rintro e w2 ⟨rfl, x2⟩; have hx := hx.trans x2; have dc := cells_ext x2 dc; have dp := cells_ext x2 dp))
        go_ret
        exact ⟨rfl, hx⟩
      · have q5 : decide ((100 : Int) < (name.size : Int)) = false := by simp; omega
        obtain ⟨m1, m2⟩ := over_small ho
        have hcp := fun U (x : Ext [] w U) => copied_any [] U (by simp) (.slice a l.length c) l (hL.ext x) m1 m2
        have hck := fun U (x : Ext [] w U) va (hv : Ts U va l) => Check_any U va l hv (hG.ext x) hb
        have hrr := fun U (x : Ext [] w U) => rRight_any U (.slice a l.length c) l (hL.ext x) hb hl
        have hsm := fun U (x : Ext [] w U) => Same_any U (.slice a l.length c) (.slice a' m.length c') l m (hL.ext x) (hM.ext x) hl hm hb hbm
        have hrs := fun U (x : Ext [] w U) => rSame_any U (.slice a l.length c) (.slice a' m.length c') l m (hL.ext x) (hM.ext x) hl hm hb hbm
        have hsc := fun U (x : Ext [] w U) va (hv : Ts U va l) => Same_any U (.slice a l.length c) va l l (hL.ext x) hv hl hl hb hb
        rw [decide_eq_true rfl] at hsc
        have hfd := fun U (x : Ext [] w U) => Find_any U (.slice a l.length c) l name (hL.ext x) hl
        have hrf := fun U (x : Ext [] w U) => rFind_any U (.slice a l.length c) l name (hL.ext x) hl
        generalize decide (l = m) = d at *
        have hdd : (d != d) = false := by simp
        obtain ⟨b, E, hbE, hbE2, hbE3⟩ : ∃ (b : Bool) (E : Int), isCat l = b ∧ (if isCat l then (0 : Int) else 210) = E ∧ ((b = true ∧ E = 0) ∨ (b = false ∧ E = 210)) := by
          cases h : isCat l
          · exact ⟨false, 210, rfl, rfl, .inr ⟨rfl, rfl⟩⟩
          · exact ⟨true, 0, rfl, rfl, .inl ⟨rfl, rfl⟩⟩
        simp only [hbE2] at hck
        rw [hbE] at hrr
        clear hbE hbE2
        obtain ⟨I0, KI, g1, g2, g3, g5⟩ : ∃ (I0 : Int) (KI : Int), fnd0 l.length (fnd (l.map Tab.n) name) = I0 ∧ decide (fnd (l.map Tab.n) name < l.length) = decide (0 ≤ KI) ∧ fndI l.length (fnd (l.map Tab.n) name) = KI ∧ (I0 != max KI 0) = false := by
          refine ⟨_, _, rfl, ?_, rfl, ?_⟩
          · unfold fndI; split <;> simp_all
          · unfold fndI fnd0; split
            · simp
            · rfl
        rw [g1, g2] at hfd
        rw [g3] at hrf
        clear g1 g2 g3
        go_enter Tryd.func4, Tryd.ntmps4
        go_upto_region 7 with (first
          | (go_at_call 8; (with_reducible refine (hwk _ e2).mono ?_); rintro e w0 ⟨rfl, x0⟩; have hx := e2.trans x0; have dc := cells_ext x0 d1; have dp := cells_ext x0 d2)
          | (go_at_call 9; (with_reducible refine (hov _ hx).mono ?_); rintro e w1 ⟨rfl, x1⟩; have hx := hx.trans x1; have dc := cells_ext x1 dc; have dp := cells_ext x1 dp)
          | (go_at_call 9; (with_reducible refine (how _ hx).mono ?_); rintro e w2 ⟨rfl, x2⟩; have hx := hx.trans x2; have dc := cells_ext x2 dc; have dp := cells_ext x2 dp)
          | (go_at_call 15; (with_reducible refine (hrr _ hx).mono ?_); rintro e w3 ⟨rfl, x3⟩; have hx := hx.trans x3; have dc := cells_ext x3 dc; have dp := cells_ext x3 dp)
          | (go_at_call 11; (with_reducible refine (hcp _ hx).mono ?_); rintro e w3 ⟨⟨v4, rfl, hT4⟩, x3⟩; obtain ⟨a4, c4, rfl⟩ := hT4.ts.shape; have hx := hx.trans x3; have dc := cells_ext x3 dc; have dp := cells_ext x3 dp)
          | (go_at_call 20; (with_reducible refine (hck _ hx _ hT4.ts).mono ?_); rintro e w3 ⟨rfl, x3⟩; have hx := hx.trans x3; have dc := cells_ext x3 dc; have dp := cells_ext x3 dp)
          | (go_at_call 21; (with_reducible refine (hsm _ hx).mono ?_); rintro e w3 ⟨rfl, x3⟩; have hx := hx.trans x3; have dc := cells_ext x3 dc; have dp := cells_ext x3 dp)
          | (go_at_call 21; (with_reducible refine (hsc _ hx _ hT4.ts).mono ?_); rintro e w3 ⟨rfl, x3⟩; have hx := hx.trans x3; have dc := cells_ext x3 dc; have dp := cells_ext x3 dp)
          | (go_at_call 14; (with_reducible refine (hrs _ hx).mono ?_); rintro e w3 ⟨rfl, x3⟩; have hx := hx.trans x3; have dc := cells_ext x3 dc; have dp := cells_ext x3 dp)
          | (go_at_call 22; (with_reducible refine (hfd _ hx).mono ?_); rintro e w3 ⟨rfl, x3⟩; have hx := hx.trans x3; have dc := cells_ext x3 dc; have dp := cells_ext x3 dp)
          | (go_at_call 17; (with_reducible refine (hrf _ hx).mono ?_); rintro e w3 ⟨rfl, x3⟩; have hx := hx.trans x3; have dc := cells_ext x3 dc; have dp := cells_ext x3 dp))
        go_cut [64] (fun s64 wx => s64 = .bool false ∧ ((wx).cell? ⟨w.heap.size, 0, none⟩ = some (.slice a l.length c) ∧ (wx).cell? ⟨w.heap.size + 1, 0, none⟩ = some (.slice a' m.length c') ∧ Ext [] w (wx)))
        case first =>
          rcases hbE3 with ⟨rfl, rfl⟩ | ⟨rfl, rfl⟩
          · first | (go_region_held_law (fun u => ((u).cell? ⟨w.heap.size, 0, none⟩ = some (.slice a l.length c) ∧ (u).cell? ⟨w.heap.size + 1, 0, none⟩ = some (.slice a' m.length c') ∧ Ext [] w (u)))
              (first | exact ⟨dc, dp, hx.drew⟩ | assumption)
              (first
                | (go_at_call 11; (with_reducible refine (hcp _ (held_ext (by assumption))).mono ?_); rintro e w3 ⟨⟨v4, rfl, hT4⟩, x3⟩; obtain ⟨a4, c4, rfl⟩ := hT4.ts.shape; have s3 := keep2 (by assumption) x3)
                | (go_at_call 21; (with_reducible refine (hsm _ (held_ext (by assumption))).mono ?_); rintro e w3 ⟨rfl, x3⟩; have s3 := keep2 (by assumption) x3)
                | (go_at_call 21; (with_reducible refine (hsc _ (held_ext (by assumption)) _ hT4.ts).mono ?_); rintro e w3 ⟨rfl, x3⟩; have s3 := keep2 (by assumption) x3)
                | (go_at_call 14; (with_reducible refine (hrs _ (held_ext (by assumption))).mono ?_); rintro e w3 ⟨rfl, x3⟩; have s3 := keep2 (by assumption) x3))) | fail
            all_goals (go_wp2_with (fail); go_meet; exact ⟨rfl, s3⟩)
          · first | (go_region_held3 (fun u => ((u).cell? ⟨w.heap.size, 0, none⟩ = some (.slice a l.length c) ∧ (u).cell? ⟨w.heap.size + 1, 0, none⟩ = some (.slice a' m.length c') ∧ Ext [] w (u)))
              (first | exact ⟨dc, dp, hx.drew⟩ | assumption)
              (first
                | (go_at_call 11; (with_reducible refine (hcp _ (held_ext (by assumption))).mono ?_); rintro e w3 ⟨⟨v4, rfl, hT4⟩, x3⟩; obtain ⟨a4, c4, rfl⟩ := hT4.ts.shape; have s3 := keep2 (by assumption) x3)
                | (go_at_call 21; (with_reducible refine (hsm _ (held_ext (by assumption))).mono ?_); rintro e w3 ⟨rfl, x3⟩; have s3 := keep2 (by assumption) x3)
                | (go_at_call 21; (with_reducible refine (hsc _ (held_ext (by assumption)) _ hT4.ts).mono ?_); rintro e w3 ⟨rfl, x3⟩; have s3 := keep2 (by assumption) x3)
                | (go_at_call 14; (with_reducible refine (hrs _ (held_ext (by assumption))).mono ?_); rintro e w3 ⟨rfl, x3⟩; have s3 := keep2 (by assumption) x3))) | fail
            all_goals (go_wp2_with (fail); go_meet; exact ⟨rfl, s3⟩)
        case rest =>
          obtain ⟨rfl, s3⟩ := hcut
          have hx := held_ext s3
          have dc := s3.1
          have dp := s3.2.1
          clear s3 hck hrr hsm hrs hsc hcp hwk hov how hbE3
          generalize wc = w4 at *
          go_wp2_with (first
            | (go_at_call 22; (with_reducible refine (hfd _ hx).mono ?_); rintro e w5 ⟨rfl, x5⟩; have hx := hx.trans x5; have dc := cells_ext x5 dc; have dp := cells_ext x5 dp)
            | (go_at_call 17; (with_reducible refine (hrf _ hx).mono ?_); rintro e w6 ⟨rfl, x6⟩; have hx := hx.trans x6; have dc := cells_ext x6 dc; have dp := cells_ext x6 dp))
          go_loopw [87] (fun i wr => ∃ k : Nat, k ≤ l.length ∧ i = .int .i64 k ∧ Ext [] w wr) (fun i _ => l.length - (intOf i).toNat)
          case atStart => exact ⟨0, by omega, rfl, hx⟩
          case round =>
            clear hx dc dp hfd hrf
            obtain ⟨k, hk, rfl, hx⟩ := hrel
            by_cases hlt : k < l.length
            · have hxk : l[k]? = some l[k] := List.getElem?_eq_getElem hlt
              obtain ⟨ob, o, b1, n1, b2, n2, rfl, p0, p1, p2, ⟨oc, q1⟩, ok, q2⟩ := (hL.ext hx).at k _ hxk
              have hbt := hb _ (List.mem_of_getElem? hxk)
              generalize l[k] = t at *
              have e3 := (Ext.refl [] wr).alloc (.cells #[.string t.n, .slice b1 t.cols.length n1, .slice b2 t.keys.length n2] 28)
              have f0 := new_cells wr [.string t.n, .slice b1 t.cols.length n1, .slice b2 t.keys.length n2] 28 0 _ rfl
              have f1 := new_cells wr [.string t.n, .slice b1 t.cols.length n1, .slice b2 t.keys.length n2] 28 1 _ rfl
              have f2 := new_cells wr [.string t.n, .slice b1 t.cols.length n1, .slice b2 t.keys.length n2] 28 2 _ rfl
              have hy := e3
              have ct := fun U (x : Ext [] wr U) => CheckTable_any U t b1 n1 b2 n2 oc ok (q1.ext x (by simp)) (q2.ext x (by simp)) hbt.1 hbt.2 (hG.ext (hx.trans x))
              have cr := fun U (x : Ext [] wr U) => rRightTable_any U t b1 n1 b2 n2 oc ok (q1.ext x (by simp)) (q2.ext x (by simp)) hbt.1 hbt.2
              have cc := fun U (x : Ext [] wr U) => Column_any U t.n b1 n1 b2 t.keys.length n2 oc t.cols name (q1.ext x (by simp)) hbt.1
              have rc := fun U (x : Ext [] wr U) => rColumn_any U t.n b1 n1 b2 t.keys.length n2 oc t.cols name (q1.ext x (by simp)) hbt.1
              unfold fnd0 at cc
              unfold fndI at rc
              have hcl : t.cols.length ≤ maxLen := hbt.1
              unfold maxLen at hcl
              by_cases hK2 : fnd (t.cols.map Col.n) name < t.cols.length
              · simp only [if_pos hK2, decide_eq_true hK2] at cc rc
                generalize fnd (t.cols.map Col.n) name = K2 at *
                clear hxk
                cases hT : isTab t
                · rw [hT] at ct cr
                  simp only [Bool.false_eq_true, if_false] at ct
                  clear hT
                  go_wp2_with (first
                    | (go_at_call 23; (with_reducible refine (ct _ hy).mono ?_); rintro e w7 ⟨rfl, x7⟩; have hy := hy.trans x7; have f0 := cells_ext x7 f0; have f1 := cells_ext x7 f1; have f2 := cells_ext x7 f2)
                    | (go_at_call 16; (with_reducible refine (cr _ hy).mono ?_); rintro e w7 ⟨rfl, x7⟩; have hy := hy.trans x7; have f0 := cells_ext x7 f0; have f1 := cells_ext x7 f1; have f2 := cells_ext x7 f2)
                    | (go_at_call 24; (with_reducible refine (cc _ hy).mono ?_); rintro e w7 ⟨rfl, x7⟩; have hy := hy.trans x7; have f0 := cells_ext x7 f0; have f1 := cells_ext x7 f1; have f2 := cells_ext x7 f2)
                    | (go_at_call 25; (with_reducible refine (rc _ hy).mono ?_); rintro e w7 ⟨rfl, x7⟩; have hy := hy.trans x7; have f0 := cells_ext x7 f0; have f1 := cells_ext x7 f1; have f2 := cells_ext x7 f2))
                  exact ⟨⟨k + 1, by omega, by go_num, hx.trans hy⟩, by simp [intOf]; omega⟩
                · rw [hT] at ct cr
                  simp only [if_true] at ct
                  clear hT
                  go_wp2_with (first
                    | (go_at_call 23; (with_reducible refine (ct _ hy).mono ?_); rintro e w7 ⟨rfl, x7⟩; have hy := hy.trans x7; have f0 := cells_ext x7 f0; have f1 := cells_ext x7 f1; have f2 := cells_ext x7 f2)
                    | (go_at_call 16; (with_reducible refine (cr _ hy).mono ?_); rintro e w7 ⟨rfl, x7⟩; have hy := hy.trans x7; have f0 := cells_ext x7 f0; have f1 := cells_ext x7 f1; have f2 := cells_ext x7 f2)
                    | (go_at_call 24; (with_reducible refine (cc _ hy).mono ?_); rintro e w7 ⟨rfl, x7⟩; have hy := hy.trans x7; have f0 := cells_ext x7 f0; have f1 := cells_ext x7 f1; have f2 := cells_ext x7 f2)
                    | (go_at_call 25; (with_reducible refine (rc _ hy).mono ?_); rintro e w7 ⟨rfl, x7⟩; have hy := hy.trans x7; have f0 := cells_ext x7 f0; have f1 := cells_ext x7 f1; have f2 := cells_ext x7 f2))
                  exact ⟨⟨k + 1, by omega, by go_num, hx.trans hy⟩, by simp [intOf]; omega⟩
              · simp only [if_neg hK2, decide_eq_false hK2] at cc rc
                clear hxk
                cases hT : isTab t
                · rw [hT] at ct cr
                  simp only [Bool.false_eq_true, if_false] at ct
                  clear hT
                  go_wp2_with (first
                    | (go_at_call 23; (with_reducible refine (ct _ hy).mono ?_); rintro e w7 ⟨rfl, x7⟩; have hy := hy.trans x7; have f0 := cells_ext x7 f0; have f1 := cells_ext x7 f1; have f2 := cells_ext x7 f2)
                    | (go_at_call 16; (with_reducible refine (cr _ hy).mono ?_); rintro e w7 ⟨rfl, x7⟩; have hy := hy.trans x7; have f0 := cells_ext x7 f0; have f1 := cells_ext x7 f1; have f2 := cells_ext x7 f2)
                    | (go_at_call 24; (with_reducible refine (cc _ hy).mono ?_); rintro e w7 ⟨rfl, x7⟩; have hy := hy.trans x7; have f0 := cells_ext x7 f0; have f1 := cells_ext x7 f1; have f2 := cells_ext x7 f2)
                    | (go_at_call 25; (with_reducible refine (rc _ hy).mono ?_); rintro e w7 ⟨rfl, x7⟩; have hy := hy.trans x7; have f0 := cells_ext x7 f0; have f1 := cells_ext x7 f1; have f2 := cells_ext x7 f2))
                  exact ⟨⟨k + 1, by omega, by go_num, hx.trans hy⟩, by simp [intOf]; omega⟩
                · rw [hT] at ct cr
                  simp only [if_true] at ct
                  clear hT
                  go_wp2_with (first
                    | (go_at_call 23; (with_reducible refine (ct _ hy).mono ?_); rintro e w7 ⟨rfl, x7⟩; have hy := hy.trans x7; have f0 := cells_ext x7 f0; have f1 := cells_ext x7 f1; have f2 := cells_ext x7 f2)
                    | (go_at_call 16; (with_reducible refine (cr _ hy).mono ?_); rintro e w7 ⟨rfl, x7⟩; have hy := hy.trans x7; have f0 := cells_ext x7 f0; have f1 := cells_ext x7 f1; have f2 := cells_ext x7 f2)
                    | (go_at_call 24; (with_reducible refine (cc _ hy).mono ?_); rintro e w7 ⟨rfl, x7⟩; have hy := hy.trans x7; have f0 := cells_ext x7 f0; have f1 := cells_ext x7 f1; have f2 := cells_ext x7 f2)
                    | (go_at_call 25; (with_reducible refine (rc _ hy).mono ?_); rintro e w7 ⟨rfl, x7⟩; have hy := hy.trans x7; have f0 := cells_ext x7 f0; have f1 := cells_ext x7 f1; have f2 := cells_ext x7 f2))
                  exact ⟨⟨k + 1, by omega, by go_num, hx.trans hy⟩, by simp [intOf]; omega⟩
            · go_wp2_with (fail)
              go_ret
              exact ⟨rfl, hx⟩
    · rw [ho2] at how
      go_enter Tryd.func4, Tryd.ntmps4
      go_wp2_with (first | (go_at_call 8; (with_reducible refine (hwk _ e2).mono ?_); rintro e w0 ⟨rfl, x0⟩; have hx := e2.trans x0; have dc := cells_ext x0 d1; have dp := cells_ext x0 d2) | (go_at_call 9; (with_reducible refine (hov _ hx).mono ?_); rintro e w1 ⟨rfl, x1⟩; have hx := hx.trans x1; have dc := cells_ext x1 dc; have dp := cells_ext x1 dp) | (go_at_call 9; (with_reducible refine (how _ hx).mono ?_); rintro e w2 ⟨rfl, x2⟩; have hx := hx.trans x2; have dc := cells_ext x2 dc; have dp := cells_ext x2 dp))
      go_ret
      exact ⟨rfl, hx⟩
  · rw [ho] at hov
    go_enter Tryd.func4, Tryd.ntmps4
    go_wp2_with (first | (go_at_call 8; (with_reducible refine (hwk _ e2).mono ?_); rintro e w0 ⟨rfl, x0⟩; have hx := e2.trans x0; have dc := cells_ext x0 d1; have dp := cells_ext x0 d2) | (go_at_call 9; (with_reducible refine (hov _ hx).mono ?_); rintro e w1 ⟨rfl, x1⟩; have hx := hx.trans x1; have dc := cells_ext x1 dc; have dp := cells_ext x1 dp) | (go_at_call 9; (with_reducible refine (how _ hx).mono ?_); rintro e w2 ⟨rfl, x2⟩; have hx := hx.trans x2; have dc := cells_ext x2 dc; have dp := cells_ext x2 dp))
    go_ret
    exact ⟨rfl, hx⟩
end Go.Proofs.YtibmjfihfljiiaaDoor
