
/-
  small and wakes of the laws; over and large; copied.
-/
import Derived.Test.YtjmfcjidhmaibaaGreatDoorCatP
namespace Go.Proofs.YtjmfcjidhmaibaaGreatDoor
open Go.RowKit
open Go.Lib hiding intOf
set_option linter.unusedVariables false

def smallT : Tab := ⟨⟨#[116]⟩, [⟨⟨#[97]⟩, 2⟩, ⟨⟨#[98]⟩, 3⟩], [0]⟩
theorem small_add : addE [] smallT = 0 := by decide +kernel
theorem small_addL : addL [] smallT = [smallT] := by decide +kernel
theorem small_cat : isCat [smallT] = true := by decide +kernel
theorem small_ok : TabsOK [smallT] := fun t ht => by
  obtain rfl : t = smallT := by simpa using ht
  exact ⟨by decide, by decide⟩
theorem small_print : printC [smallT] = [116, 97, 98, 108, 101, 32, 116, 32, 97, 32, 105, 110, 116, 32, 98, 32, 116, 101, 120, 116, 32, 98, 121, 32, 97, 10] := by decide +kernel
theorem small_any (w : World) : Calls Tryz.prog 14 #[] w fun e w' => (∃ a1 c1 a2 c2 oc ok, e = .returned (TV smallT.n (.slice a1 smallT.cols.length c1) (.slice a2 smallT.keys.length c2)) ∧ Cs w' (.slice a1 smallT.cols.length c1) oc smallT.cols ∧ Is w' (.slice a2 smallT.keys.length c2) ok smallT.keys) ∧ Ext [] w w' := by
  go_enter Tryz.func14, Tryz.ntmps14
  go_wp2_with (fail)
  have e1 := (Ext.refl [] w).alloc (.cells #[.string ⟨#[116]⟩, .slice (some ⟨w.heap.size + 1, 0, none⟩) 2 2, .slice (some ⟨w.heap.size + 1 + 1, 0, none⟩) 1 1] 41)
  have h1 := Blk.new w [.string ⟨#[116]⟩, .slice (some ⟨w.heap.size + 1, 0, none⟩) 2 2, .slice (some ⟨w.heap.size + 1 + 1, 0, none⟩) 1 1] 41
  have hs : (w.alloc (.cells #[.string ⟨#[116]⟩, .slice (some ⟨w.heap.size + 1, 0, none⟩) 2 2, .slice (some ⟨w.heap.size + 1 + 1, 0, none⟩) 1 1] 41)).heap.size = w.heap.size + 1 := World.size_alloc _ _
  generalize hW : w.alloc (.cells #[.string ⟨#[116]⟩, .slice (some ⟨w.heap.size + 1, 0, none⟩) 2 2, .slice (some ⟨w.heap.size + 1 + 1, 0, none⟩) 1 1] 41) = W at *
  have e2 := (Ext.refl [] W).alloc (.cells #[.string ⟨#[97]⟩, .int .i64 2, .string ⟨#[98]⟩, .int .i64 3] 67)
  have hc := Cs.lit W smallT.cols 67 (by decide)
  have hs2 : (W.alloc (.cells #[.string ⟨#[97]⟩, .int .i64 2, .string ⟨#[98]⟩, .int .i64 3] 67)).heap.size = w.heap.size + 1 + 1 := by rw [World.size_alloc, hs]
  rw [hs] at hc
  have hc : Cs (W.alloc (.cells #[.string ⟨#[97]⟩, .int .i64 2, .string ⟨#[98]⟩, .int .i64 3] 67)) (.slice (some ⟨w.heap.size + 1, 0, none⟩) smallT.cols.length smallT.cols.length) (w.heap.size + 1) smallT.cols := hc
  generalize W.alloc (.cells #[.string ⟨#[97]⟩, .int .i64 2, .string ⟨#[98]⟩, .int .i64 3] 67) = V at *
  have e3 := (Ext.refl [] V).alloc (.cells #[.int .i64 0] 3)
  have hk : Is (V.alloc (.cells #[.int .i64 0] 3)) (.slice (some ⟨w.heap.size + 1 + 1, 0, none⟩) smallT.keys.length smallT.keys.length) (w.heap.size + 1 + 1) smallT.keys := by
    have := Sl.lit V [.int .i64 0] 3 1 1 rfl (by decide)
    rw [hs2] at this
    exact this
  refine ret_cell Tryz.results14 rfl ((h1.ext e2 (by simp)).ext e3 (by simp)) Tryz.underlying41 rfl tab_info rfl ⟨⟨_, _, _, _, _, _, rfl, hc.ext e3 (by simp), hk⟩, (e1.trans e2).trans e3⟩
set_option maxRecDepth 100000 in
set_option maxHeartbeats 2000000 in
theorem wakes_any (w : World) (hG : Glob w) : Calls Tryz.prog 4 #[] w fun e w' => e = .returned (.bool true) ∧ Ext [] w w' := by
  have hadd := fun U (X : List Nat) (hX : ∀ i ∈ X, i < U.heap.size) (g : Glob U) a1 c1 a2 c2 oc ok (h1 : Cs U (.slice a1 smallT.cols.length c1) oc smallT.cols) (h2 : Is U (.slice a2 smallT.keys.length c2) ok smallT.keys) =>
    Add_any X U hX (.slice none 0 0) [] smallT a1 c1 a2 c2 oc ok (Ts.nil U) h1 h2 (fun t ht => by simp at ht) (by decide) (by decide) g (by simp)
  simp only [small_add, small_addL] at hadd
  have hpr := fun U (g : Glob U) v (h : Ts U v [smallT]) => Print_any U v [smallT] h g small_ok
  simp only [small_cat, small_print, if_true, show B [116, 97, 98, 108, 101, 32, 116, 32, 97, 32, 105, 110, 116, 32, 98, 32, 116, 101, 120, 116, 32, 98, 121, 32, 97, 10] = ⟨#[116, 97, 98, 108, 101, 32, 116, 32, 97, 32, 105, 110, 116, 32, 98, 32, 116, 101, 120, 116, 32, 98, 121, 32, 97, 10]⟩ from rfl] at hpr
  have hcol := fun U a1 c1 a2 c2 oc (h1 : Cs U (.slice a1 smallT.cols.length c1) oc smallT.cols) => Column_any U smallT.n a1 c1 a2 smallT.keys.length c2 oc smallT.cols ⟨#[98]⟩ h1 (by decide)
  rw [show fnd0 smallT.cols.length (fnd (smallT.cols.map Col.n) ⟨#[98]⟩) = 1 by decide +kernel, show decide (fnd (smallT.cols.map Col.n) ⟨#[98]⟩ < smallT.cols.length) = true by decide +kernel] at hcol
  go_enter Tryz.func4, Tryz.ntmps4
  go_wp2_with (first
    | (go_at_call 14; (with_reducible refine (small_any w).mono ?_); rintro e u1 ⟨⟨a1, m1, a2, m2, oc, ok, rfl, h1, h2⟩, x1⟩)
    | (go_at_call 13; (with_reducible refine (hadd _ [] (by simp) (hG.ext x1) a1 m1 a2 m2 oc ok h1 h2).mono ?_); rintro e u2 ⟨⟨v2, rfl, hT⟩, x2⟩; obtain ⟨a4, m4, rfl⟩ := hT.ts.shape; have hT1 : Ts u2 (.slice a4 1 m4) [smallT] := hT.ts)
    | (go_at_call 6; (with_reducible refine (hpr _ (((hG.ext x1).ext x2).ext ((Ext.refl [] _).alloc _)) _ (hT1.ext ((Ext.refl [] _).alloc _))).mono ?_); rintro e u3 ⟨rfl, x3⟩)
    | (go_at_call 14; (with_reducible refine (small_any u3).mono ?_); rintro e u4 ⟨⟨b1, n1, b2, n2, od, og, rfl, h3, h4⟩, x4⟩)
    | (go_at_call 15; (with_reducible refine (hcol _ b1 n1 b2 n2 od h3).mono ?_); rintro e u5 ⟨rfl, x5⟩))
  go_ret
  exact ⟨rfl, ((((x1.trans x2).alloc _).trans x3).trans x4).trans x5⟩
/-- is a table more than the laws go through? -/
def largeB (t : Tab) : Bool := decide (100 < t.n.size) || decide (20 < t.cols.length) || decide (20 < t.keys.length) || t.cols.any fun c => decide (100 < c.n.size)
set_option maxHeartbeats 2000000 in
theorem large_any (w : World) (t : Tab) (a1 : Option Addr) (c1 : Nat) (a2 : Option Addr) (c2 : Nat) (oc : Nat) (hC : Cs w (.slice a1 t.cols.length c1) oc t.cols) :
    Calls Tryz.prog 16 #[TV t.n (.slice a1 t.cols.length c1) (.slice a2 t.keys.length c2)] w fun e w' => e = .returned (.bool (largeB t)) ∧ Ext [] w w' := by
  obtain ⟨n, cs, ks⟩ := t
  unfold largeB
  dsimp only at *
  have hE := (Ext.refl [] w).alloc (.cells #[.string n, .slice a1 cs.length c1, .slice a2 ks.length c2] 41)
  have d0 := new_cells w [.string n, .slice a1 cs.length c1, .slice a2 ks.length c2] 41 0 _ rfl
  have d1 := new_cells w [.string n, .slice a1 cs.length c1, .slice a2 ks.length c2] 41 1 _ rfl
  have d2 := new_cells w [.string n, .slice a1 cs.length c1, .slice a2 ks.length c2] 41 2 _ rfl
  by_cases hb : n.size ≤ 100 ∧ cs.length ≤ 20 ∧ ks.length ≤ 20
  · obtain ⟨b1, b2, b3⟩ := hb
    have q1 : decide (100 < n.size) = false := by simp; omega
    have q2 : decide (20 < cs.length) = false := by simp; omega
    have q3 : decide (20 < ks.length) = false := by simp; omega
    rw [q1, q2, q3]
    simp only [Bool.false_or]
    have p1 : decide ((100 : Int) < (n.size : Int)) = false := by simp; omega
    have p2 : decide ((20 : Int) < (cs.length : Int)) = false := by simp; omega
    have p3 : decide ((20 : Int) < (ks.length : Int)) = false := by simp; omega
    clear q1 q2 q3
    go_enter Tryz.func16, Tryz.ntmps16
    go_upto_region 1 with (fail)
    generalize w.alloc (.cells #[.string n, .slice a1 cs.length c1, .slice a2 ks.length c2] 41) = W at *
    generalize w.heap.size = b at *
    go_wp2_with (fail)
    go_loopw [24] (fun i wr => ∃ k : Nat, k ≤ cs.length ∧ i = .int .i64 k ∧ Ext [] W wr ∧ Hid ((cs.take k).any (fun c => decide (100 < c.n.size)) = false)) (fun i _ => cs.length - (intOf i).toNat)
    case atStart => exact ⟨0, by omega, rfl, Ext.refl _ _, by simp [Hid]⟩
    case round =>
      obtain ⟨k, hk, rfl, hX, hS⟩ := hrel
      by_cases hlt : k < cs.length
      · obtain ⟨o, N, K, rfl, hx, c0, c1⟩ := (hC.ext (hE.trans hX) (by simp)).at k hlt
        have hX2 := hX.alloc (.cells #[.string N, .int .i64 K] 67)
        by_cases hN : 100 < N.size
        · have HS : Hid (cs.any (fun c => decide (100 < c.n.size)) = true) := by
            show _ = _
            rw [List.any_eq_true]
            exact ⟨_, List.mem_of_getElem? hx, by simpa using hN⟩
          have p4 : decide ((100 : Int) < (N.size : Int)) = true := by simp; omega
          clear hN hS hx
          go_wp2_with (fail)
          go_ret
          exact ⟨ret_bool HS.out.symm, hE.trans hX2⟩
        · have HS : Hid ((cs.take (k + 1)).any (fun c => decide (100 < c.n.size)) = false) := by
            show _ = _
            rw [List.take_add_one, hx, List.any_append, hS.out]
            simp; omega
          have p4 : decide ((100 : Int) < (N.size : Int)) = false := by simp; omega
          clear hN hS hx
          go_wp2_with (fail)
          go_roundw
          case rel => exact ⟨k + 1, by omega, by go_num, hX2, HS⟩
          case measure => simp [intOf]; omega
      · have HS : Hid (cs.any (fun c => decide (100 < c.n.size)) = false) := by
          obtain rfl : k = cs.length := by omega
          have := hS.out
          rw [List.take_length] at this
          exact this
        clear hS
        go_wp2_with (fail)
        go_ret
        exact ⟨ret_bool HS.out.symm, hE.trans hX⟩
  · by_cases b1 : n.size ≤ 100
    · have q1 : decide (100 < n.size) = false := by simp; omega
      have p1 : decide ((100 : Int) < (n.size : Int)) = false := by simp; omega
      by_cases b2 : cs.length ≤ 20
      · have q2 : decide (20 < cs.length) = false := by simp; omega
        have q3 : decide (20 < ks.length) = true := by simp; omega
        have p2 : decide ((20 : Int) < (cs.length : Int)) = false := by simp; omega
        have p3 : decide ((20 : Int) < (ks.length : Int)) = true := by simp; omega
        rw [q1, q2, q3]
        simp only [Bool.false_or, Bool.true_or]
        clear hb b1 b2 q1 q2 q3
        go_enter Tryz.func16, Tryz.ntmps16
        go_upto_region 1 with (fail)
        generalize w.alloc (.cells #[.string n, .slice a1 cs.length c1, .slice a2 ks.length c2] 41) = W at *
        generalize w.heap.size = b at *
        go_wp2_with (fail)
        go_ret
        exact ⟨rfl, hE⟩
      · have q2 : decide (20 < cs.length) = true := by simp; omega
        have p2 : decide ((20 : Int) < (cs.length : Int)) = true := by simp; omega
        rw [q1, q2]
        simp only [Bool.false_or, Bool.true_or]
        clear hb b1 b2 q1 q2
        go_enter Tryz.func16, Tryz.ntmps16
        go_upto_region 1 with (fail)
        generalize w.alloc (.cells #[.string n, .slice a1 cs.length c1, .slice a2 ks.length c2] 41) = W at *
        generalize w.heap.size = b at *
        go_wp2_with (fail)
        go_ret
        exact ⟨rfl, hE⟩
    · have q1 : decide (100 < n.size) = true := by simp; omega
      have p1 : decide ((100 : Int) < (n.size : Int)) = true := by simp; omega
      rw [q1]
      simp only [Bool.true_or]
      clear hb b1 q1
      go_enter Tryz.func16, Tryz.ntmps16
      go_upto_region 1 with (fail)
      generalize w.alloc (.cells #[.string n, .slice a1 cs.length c1, .slice a2 ks.length c2] 41) = W at *
      generalize w.heap.size = b at *
      go_wp2_with (fail)
      go_ret
      exact ⟨rfl, hE⟩
end Go.Proofs.YtjmfcjidhmaibaaGreatDoor
