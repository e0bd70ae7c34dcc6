/-
  wakes.
-/
import Derived.Test.YtpdfmeaemlgniaaNetP
namespace Go.Proofs.Ytpdfmeaemlgniaa
open Go.RowKit
set_option linter.unusedVariables false
set_option linter.unusedSimpArgs false
def wP1 : Par := ⟨1, 1, 4, [7], false⟩
def wP2 : Par := ⟨2, 1, 4, [7], false⟩
def wP3 : Par := ⟨2, 1, 4, [6], true⟩
theorem wk1 : ofM ⟨0, []⟩ (sendM ⟨0, []⟩ 1 4 [7]) = { n := ⟨1, [wP1]⟩, num := 1 } := by decide
theorem wk2 : ofM ⟨1, [wP1]⟩ (twinM ⟨1, [wP1]⟩ 1) = { n := ⟨2, [wP1, wP2]⟩, num := 2 } := by decide
theorem wk3 : ofM ⟨2, [wP1, wP2]⟩ (spoilM ⟨2, [wP1, wP2]⟩ 2 0 1) = { n := ⟨2, [wP1, wP3]⟩ } := by decide
theorem wk4 : ofM ⟨2, [wP1, wP3]⟩ (comeM ⟨2, [wP1, wP3]⟩ 1) = { n := ⟨2, [wP3]⟩, p := wP1 } := by decide
theorem wk5 : ofM ⟨2, [wP3]⟩ (comeM ⟨2, [wP3]⟩ 2) = { n := ⟨2, []⟩, p := wP3 } := by decide
/-- a parcel that came, of one byte -/
theorem OIs.one {A : Nat} {w : World} {r : PRaw} {n : Nat} {f t : Int} {x : UInt8} {sp : Bool} (h : OIs A w r ⟨n, f, t, [x], sp⟩) : ∃ g c, r = ⟨n, f, t, .slice (some ⟨g, 0, none⟩) 1 c, sp⟩ ∧ w.cell? ⟨g, 0, none⟩ = some (.int .u8 (x.toNat : Int)) := by
  obtain ⟨h1, h2, h3, h4, h5⟩ := h
  rcases own_blk h5 with ⟨_, h0⟩ | ⟨g, c, rest, he, _, hB, _⟩
  · simp at h0
  · refine ⟨g, c, ?_, ?_⟩
    · cases r
      simp only at h1 h2 h3 h4 he
      subst h1 h2 h3 h4 he
      rfl
    · exact (hB.cell 0).trans rfl
theorem wk_send (w : World) (bv : Value) (ob : Nat) (h : Bs w bv ob [7]) : Calls Try.prog 24 #[.agg #[.int .u64 0, .slice none 0 0], .int .i64 1, .int .i64 4, bv] w fun e w' => ∃ a1 c1, e = .returned (.tuple #[.agg #[.int .u64 1, .slice a1 1 c1], .int .u64 1, .int .i64 0]) ∧ (∃ rs', OPs w.heap.size w' (.slice a1 1 c1) [wP1] rs') ∧ Ext [] w w' := by
  have hs := Send_any w 0 (.slice none 0 0) [] 1 4 bv ob [7] (Ps.nil _) h (by simp)
  rw [wk1] at hs
  refine hs.mono ?_
  rintro e w' ⟨v', rs', ⟨a', n', c', rfl⟩, rfl, hO, x⟩
  obtain ⟨a2, c2, e2⟩ := hO.shape
  rw [e2] at hO ⊢
  exact ⟨a2, c2, rfl, ⟨_, hO⟩, x⟩
theorem wk_twin (w : World) (v : Value) (h : Ps w v [wP1]) : Calls Try.prog 26 #[.agg #[.int .u64 1, v], .int .u64 1] w fun e w' => ∃ a1 c1, e = .returned (.tuple #[.agg #[.int .u64 2, .slice a1 2 c1], .int .u64 2, .int .i64 0]) ∧ (∃ rs', OPs w.heap.size w' (.slice a1 2 c1) [wP1, wP2] rs') ∧ Ext [] w w' := by
  have hs := Twin_any w 1 1 v _ h
  rw [wk2] at hs
  refine hs.mono ?_
  rintro e w' ⟨v', rs', ⟨a', n', c', rfl⟩, rfl, hO, x⟩
  obtain ⟨a2, c2, e2⟩ := hO.shape
  rw [e2] at hO ⊢
  exact ⟨a2, c2, rfl, ⟨_, hO⟩, x⟩
theorem wk_spoil (w : World) (v : Value) (h : Ps w v [wP1, wP2]) : Calls Try.prog 36 #[.agg #[.int .u64 2, v], .int .u64 2, .int .i64 0, .int .u8 1] w fun e w' => ∃ a1 c1, e = .returned (.tuple #[.agg #[.int .u64 2, .slice a1 2 c1], .int .i64 0]) ∧ (∃ rs', OPs w.heap.size w' (.slice a1 2 c1) [wP1, wP3] rs') ∧ Ext [] w w' := by
  have hs := Spoil_any w 2 2 v _ 0 1 h
  rw [wk3] at hs
  refine hs.mono ?_
  rintro e w' ⟨v', rs', ⟨a', n', c', rfl⟩, rfl, hO, x⟩
  obtain ⟨a2, c2, e2⟩ := hO.shape
  rw [e2] at hO ⊢
  exact ⟨a2, c2, rfl, ⟨_, hO⟩, x⟩
theorem wk_come (w : World) (v : Value) (h : Ps w v [wP1, wP3]) : Calls Try.prog 37 #[.agg #[.int .u64 2, v], .int .u64 1] w fun e w' => ∃ a1 c1 g c, e = .returned (.tuple #[.agg #[.int .u64 2, .slice a1 1 c1], .agg #[.int .u64 1, .int .i64 1, .int .i64 4, .slice (some ⟨g, 0, none⟩) 1 c, .bool false], .int .i64 0]) ∧ w'.cell? ⟨g, 0, none⟩ = some (.int .u8 7) ∧ (∃ rs', OPs w.heap.size w' (.slice a1 1 c1) [wP3] rs') ∧ Ext [] w w' := by
  have hs := Come_any w 2 1 v _ h
  rw [wk4] at hs
  refine hs.mono ?_
  rintro e w' ⟨v', rs', r, ⟨a', n', c', rfl⟩, rfl, hO, hI, _, x⟩
  obtain ⟨a2, c2, e2⟩ := hO.shape
  obtain ⟨g, c, rfl, hc⟩ := OIs.one hI
  rw [e2] at hO ⊢
  exact ⟨a2, c2, g, c, rfl, hc, ⟨_, hO⟩, x⟩
theorem wk_come2 (w : World) (v : Value) (h : Ps w v [wP3]) : Calls Try.prog 37 #[.agg #[.int .u64 2, v], .int .u64 2] w fun e w' => ∃ a1 c1 g c, e = .returned (.tuple #[.agg #[.int .u64 2, .slice a1 0 c1], .agg #[.int .u64 2, .int .i64 1, .int .i64 4, .slice (some ⟨g, 0, none⟩) 1 c, .bool true], .int .i64 0]) ∧ w'.cell? ⟨g, 0, none⟩ = some (.int .u8 6) ∧ Ext [] w w' := by
  have hs := Come_any w 2 2 v _ h
  rw [wk5] at hs
  refine hs.mono ?_
  rintro e w' ⟨v', rs', r, ⟨a', n', c', rfl⟩, rfl, hO, hI, _, x⟩
  obtain ⟨a2, c2, e2⟩ := hO.shape
  obtain ⟨g, c, rfl, hc⟩ := OIs.one hI
  rw [e2] at hO ⊢
  exact ⟨a2, c2, g, c, rfl, hc, x⟩
set_option maxRecDepth 100000 in
set_option maxHeartbeats 4000000 in
theorem wakes_any (w : World) : Calls Try.prog 9 #[] w fun e w' => e = .returned (.bool true) ∧ Ext [] w w' := by
  have e0 := (Ext.refl [] w).alloc (.cells #[.int .u8 7] 5)
  have hb0 : Bs (w.alloc (.cells #[.int .u8 7] 5)) (.slice (some ⟨w.heap.size, 0, none⟩) 1 1) w.heap.size [7] := Sl.one w (BV 7) _
  go_enter Try.func9, Try.ntmps9
  go_upto_region 2 with (go_at_call 24; (with_reducible refine (wk_send _ _ _ hb0).mono ?_); rintro e w1 ⟨a1, c1, rfl, ⟨rs1, hP1⟩, x1⟩)
  have d1 := Blk.new w1 [.int .u64 1, .slice a1 1 c1] 25
  have x2 := (Ext.refl [] w1).alloc (.cells #[.int .u64 1, .slice a1 1 c1] 25)
  have hP1 := hP1.ps.ext x2
  have hx := (e0.trans x1).trans x2
  have hbn : w.heap.size ≤ w1.heap.size := (e0.trans x1).size
  clear hb0 e0 x1 x2
  generalize w1.alloc (.cells #[.int .u64 1, .slice a1 1 c1] 25) = W1 at *
  generalize w1.heap.size = nb at *
  obtain ⟨m0, m1⟩ := d1.c2
  go_upto_region 3 with (go_at_call 26; (with_reducible refine (wk_twin _ _ hP1).mono ?_); rintro e w2 ⟨a2, c2, rfl, ⟨rs2, hP2⟩, x2⟩; have d2 := d1.ext x2 (by simp); obtain ⟨p0, p1⟩ := d2.c2; have pf := d2.frozen)
  clear m0 m1
  have x3 := ((Ext.refl [nb] w2).setCell (p := ⟨nb, 0, none⟩) (.inl (by simp)) (.int .u64 2)).setCell (p := ⟨nb, 1, none⟩) (.inl (by simp)) (.slice a2 2 c2)
  have d3 := (d2.set 0 (.int .u64 2)).set 1 (.slice a2 2 c2)
  simp only [List.set_cons_zero, List.set_cons_succ] at d3
  have hP3 := (hP2.other d2 (by decide) (by decide) x3).ps
  have hx := (hx.trans x2).trans' x3 (fun i hi => .inr (by simp at hi; omega))
  generalize (w2.setCell ⟨nb, 0, none⟩ (.int .u64 2)).setCell ⟨nb, 1, none⟩ (.slice a2 2 c2) = W3 at *
  clear p0 p1 pf x2 x3 hP2 d2
  obtain ⟨m0, m1⟩ := d3.c2
  go_upto_region 4 with (go_at_call 36; (with_reducible refine (wk_spoil _ _ hP3).mono ?_); rintro e w4 ⟨a4, c4, rfl, ⟨rs4, hP4⟩, x4⟩; have d4 := d3.ext x4 (by simp); obtain ⟨p0, p1⟩ := d4.c2; have pf := d4.frozen)
  clear m0 m1
  have x5 := ((Ext.refl [nb] w4).setCell (p := ⟨nb, 0, none⟩) (.inl (by simp)) (.int .u64 2)).setCell (p := ⟨nb, 1, none⟩) (.inl (by simp)) (.slice a4 2 c4)
  have d5 := (d4.set 0 (.int .u64 2)).set 1 (.slice a4 2 c4)
  simp only [List.set_cons_zero, List.set_cons_succ] at d5
  have hP5 := (hP4.other d4 (by decide) (by decide) x5).ps
  have hx := (hx.trans x4).trans' x5 (fun i hi => .inr (by simp at hi; omega))
  generalize (w4.setCell ⟨nb, 0, none⟩ (.int .u64 2)).setCell ⟨nb, 1, none⟩ (.slice a4 2 c4) = W5 at *
  clear p0 p1 pf x4 x5 hP4 d4
  obtain ⟨m0, m1⟩ := d5.c2
  have hl5 := d5.lt
  go_upto_region 5 with (go_at_call 37; (with_reducible refine (wk_come _ _ hP5).mono ?_); rintro e w6 ⟨a6, c6, g6, k6, rfl, hc6, ⟨rs6, hP6⟩, x6⟩; have d6 := d5.ext x6 (by simp); have y6 := (Ext.refl [] w6).alloc (.cells #[.int .u64 0, .int .i64 0, .int .i64 0, .slice none 0 0, .bool false] 33); have d6 := d6.ext y6 (by simp); have q6 := Blk.new w6 [.int .u64 0, .int .i64 0, .int .i64 0, .slice none 0 0, .bool false] 33; have hne : nb ≠ w6.heap.size := (by have := x6.size; omega); have hne' : w6.heap.size ≠ nb := hne.symm; obtain ⟨p0, p1⟩ := d6.c2; have pf := d6.frozen; obtain ⟨t0, t1, t2, t3, t4⟩ := q6.c5; have tf := q6.frozen)
  have hP6w := hP6
  have hc6 := cells_ext y6 hc6
  generalize hW7 : w6.alloc (.cells #[.int .u64 0, .int .i64 0, .int .i64 0, .slice none 0 0, .bool false] 33) = W7 at *
  generalize hpb : w6.heap.size = pb at *
  clear m0 m1
  have x7 := ((Ext.refl [nb] W7).setCell (p := ⟨nb, 0, none⟩) (.inl (by simp)) (.int .u64 2)).setCell (p := ⟨nb, 1, none⟩) (.inl (by simp)) (.slice a6 1 c6)
  have d7 := (d6.set 0 (.int .u64 2)).set 1 (.slice a6 1 c6)
  simp only [List.set_cons_zero, List.set_cons_succ] at d7
  have hg6 : g6 ≠ nb := by rintro rfl; rw [p0] at hc6; simp at hc6
  have hg6' : g6 ≠ pb := by rintro rfl; rw [t0] at hc6; simp at hc6
  have hc7 := x7.read hc6 (by simpa using hg6)
  have q7 := q6.ext x7 (by simpa using hne')
  have hx := ((hx.trans x6).trans y6).trans' x7 (fun i hi => .inr (by simp at hi; omega))
  have hl7 := q7.lt
  have hpn : w.heap.size ≤ pb := by have := x6.size; omega
  generalize hW8 : (W7.setCell ⟨nb, 0, none⟩ (.int .u64 2)).setCell ⟨nb, 1, none⟩ (.slice a6 1 c6) = W8 at *
  have x8 := (((((Ext.refl [pb] W8).setCell (p := ⟨pb, 0, none⟩) (.inl (by simp)) (.int .u64 1)).setCell (p := ⟨pb, 1, none⟩) (.inl (by simp)) (.int .i64 1)).setCell (p := ⟨pb, 2, none⟩) (.inl (by simp)) (.int .i64 4)).setCell (p := ⟨pb, 3, none⟩) (.inl (by simp)) (.slice (some ⟨g6, 0, none⟩) 1 k6)).setCell (p := ⟨pb, 4, none⟩) (.inl (by simp)) (.bool false)
  have q8 := ((((q7.set 0 (.int .u64 1)).set 1 (.int .i64 1)).set 2 (.int .i64 4)).set 3 (.slice (some ⟨g6, 0, none⟩) 1 k6)).set 4 (.bool false)
  simp only [List.set_cons_zero, List.set_cons_succ] at q8
  have d8 := d7.ext x8 (by simpa using hne)
  have hc8 := x8.read hc7 (by simpa using hg6')
  have hx := hx.trans' x8 (fun i hi => .inr (by simp at hi; omega))
  have hP8 : Ps (((((W8.setCell ⟨pb, 0, none⟩ (.int .u64 1)).setCell ⟨pb, 1, none⟩ (.int .i64 1)).setCell ⟨pb, 2, none⟩ (.int .i64 4)).setCell ⟨pb, 3, none⟩ (.slice (some ⟨g6, 0, none⟩) 1 k6)).setCell ⟨pb, 4, none⟩ (.bool false)) (.slice a6 1 c6) [wP3] := by
    exact (hP6w.keep ((y6.mono (Y := [nb, pb]) (by simp)).trans ((x7.mono (by simp +contextual)).trans (x8.mono (by simp +contextual)))) (by intro k hk; simp at hk; omega)).ps
  generalize ((((W8.setCell ⟨pb, 0, none⟩ (.int .u64 1)).setCell ⟨pb, 1, none⟩ (.int .i64 1)).setCell ⟨pb, 2, none⟩ (.int .i64 4)).setCell ⟨pb, 3, none⟩ (.slice (some ⟨g6, 0, none⟩) 1 k6)).setCell ⟨pb, 4, none⟩ (.bool false) = W9 at *
  clear x8 x7 y6 x6 q7 q6 hc7 hc6 t0 t1 t2 t3 t4 tf p0 p1 pf hP6w hP6 d7 d6 hW8 hW7
  obtain ⟨m0, m1⟩ := d8.c2
  go_upto_region 6 with (go_at_call 37; (with_reducible refine (wk_come2 _ _ hP8).mono ?_); rintro e w9 ⟨a9, c9, g9, k9, rfl, hc9, x9⟩)
  have y9 := ((Ext.refl [] w9).alloc (.cells #[.int .u64 2, .slice a9 0 c9] 25)).alloc (.cells #[.int .u64 2, .int .i64 1, .int .i64 4, .slice (some ⟨g9, 0, none⟩) 1 k9, .bool true] 33)
  have q9 := Blk.new (w9.alloc (.cells #[.int .u64 2, .slice a9 0 c9] 25)) [.int .u64 2, .int .i64 1, .int .i64 4, .slice (some ⟨g9, 0, none⟩) 1 k9, .bool true] 33
  simp only [World.size_alloc] at q9
  have q8 := (q8.ext x9 (by simp)).ext y9 (by simp)
  have hc8 := cells_ext y9 (cells_ext x9 hc8)
  have hc9 := cells_ext y9 hc9
  have hx := (hx.trans x9).trans y9
  have q9 : Blk ((w9.alloc (.cells #[.int .u64 2, .slice a9 0 c9] 25)).alloc (.cells #[.int .u64 2, .int .i64 1, .int .i64 4, .slice (some ⟨g9, 0, none⟩) 1 k9, .bool true] 33)) (w9.heap.size + 1) 33 [.int .u64 2, .int .i64 1, .int .i64 4, .slice (some ⟨g9, 0, none⟩) 1 k9, .bool true] := q9
  generalize (w9.alloc (.cells #[.int .u64 2, .slice a9 0 c9] 25)).alloc (.cells #[.int .u64 2, .int .i64 1, .int .i64 4, .slice (some ⟨g9, 0, none⟩) 1 k9, .bool true] 33) = W10 at *
  obtain ⟨t0, t1, t2, t3, t4⟩ := q8.c5
  obtain ⟨u0, u1, u2, u3, u4⟩ := q9.c5
  go_wp2_with (fail)
  go_ret
  exact ⟨rfl, hx⟩
end Go.Proofs.Ytpdfmeaemlgniaa
