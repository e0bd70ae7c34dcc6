
/-
  The document's answers: Spoil.
-/
import Derived.Test.YtpdfmeaemlgniaaNetRefB
import Derived.Test.YtpdfmeaemlgniaaNetO
namespace Go.Proofs.Ytpdfmeaemlgniaa
open Go.RowKit
open Go.Lib hiding intOf
set_option linter.unusedVariables false
set_option linter.unusedSimpArgs false
def AnsS (w : World) (T : Told) : Ending → World → Prop := fun e w' => ∃ v', (∃ a' n' c', v' = .slice a' n' c') ∧ e = .returned (.tuple #[NV T.n.s v', .int .i64 T.e]) ∧ Qs w.heap.size w' v' T.n.ps ∧ Ext [] w w'
set_option maxRecDepth 100000 in
set_option maxHeartbeats 4000000 in
theorem RefSpoil_any (w : World) (s k : Nat) (v : Value) (l : List Par) (at_ : Int) (y : UInt8) (hP : Ps w v l) (hll : l.length ≤ 20000) (hlb : ∀ q ∈ l, q.bs.length ≤ 100000) :
    Calls Try.prog 43 #[NV s v, .int .u64 (k : Int), .int .i64 at_, .int .u8 (y.toNat : Int)] w (AnsS w (spoilM ⟨s, l⟩ k at_ y)) := by
  obtain ⟨a, c, rfl⟩ := hP.shape
  have e1 := (Ext.refl [] w).alloc (.cells #[.int .u64 (s : Int), .slice a l.length c] 25)
  have e2 := (Ext.refl [] (w.alloc (.cells #[.int .u64 (s : Int), .slice a l.length c] 25))).alloc (.cells #[.int .u64 0, .slice none 0 0] 25)
  have b1 := (Blk.new w [.int .u64 (s : Int), .slice a l.length c] 25).ext e2 (by simp)
  have b5 := Blk.new (w.alloc (.cells #[.int .u64 (s : Int), .slice a l.length c] 25)) [.int .u64 0, .slice none 0 0] 25
  have hE := e1.trans e2
  simp only [World.size_alloc] at b5
  have hP := hP.ext hE
  have hsz : ((w.alloc (.cells #[.int .u64 (s : Int), .slice a l.length c] 25)).alloc (.cells #[.int .u64 0, .slice none 0 0] 25)).heap.size = w.heap.size + 2 := by simp
  have hSZ := Lib.hid hsz
  clear e1 e2 hsz
  have fd := Find_any ((w.alloc (.cells #[.int .u64 (s : Int), .slice a l.length c] 25)).alloc (.cells #[.int .u64 0, .slice none 0 0] 25)) s k _ l hP (by omega)
  have cp := fun w' (x : Ext [] ((w.alloc (.cells #[.int .u64 (s : Int), .slice a l.length c] 25)).alloc (.cells #[.int .u64 0, .slice none 0 0] 25)) w') => Copy_any w' s _ l (hP.ext x) (by omega) hlb
  obtain ⟨n0, n1⟩ := b1.c2
  unfold findR at fd
  by_cases hi : fnd l k < l.length
  · rw [if_pos hi] at fd
    obtain ⟨p, hp⟩ : ∃ p, l[fnd l k]? = some p := ⟨_, List.getElem?_eq_getElem hi⟩
    have hT : spoilM ⟨s, l⟩ k at_ y = spoilAt s l (fnd l k) p at_ y := atM_some rfl hp
    have hpl := hlb p (List.mem_of_getElem? hp)
    rw [hT]
    generalize fnd l k = i at *
    obtain ⟨ob, o, a1, c1, rfl, p0, p1, p2, p3, p4, -⟩ := hP.at i p hp
    clear hT hP p0 p1 p2
    unfold spoilAt
    have hi0 : (i : Int) < (l.length : Int) := by omega
    have hil' : decide ((i : Int) < 0) = false := by simp
    generalize hwb : w.heap.size = wb at *
    have HWB := Lib.hid hwb
    clear hwb
    generalize hW : (w.alloc (.cells #[.int .u64 (s : Int), .slice (some ⟨ob, o, none⟩) l.length c] 25)).alloc (.cells #[.int .u64 0, .slice none 0 0] 25) = W at *
    have HW := Lib.hid hW
    clear hW
    cases hsp : p.sp
    · rw [if_neg (by simp)]
      rw [hsp] at p4
      by_cases g1 : at_ < 0
      · rw [if_pos (.inl g1)]
        clear cp hp hlb
        go_enter Try.func43, Try.ntmps43
        go_upto_region 1 with (fail)
        rw [HWB.out, HW.out]
        go_wp2_with (go_at_call 57; (with_reducible refine fd.mono ?_); rintro e w1 ⟨rfl, x1⟩; have b1 := b1.ext x1 (by simp); have b5 := b5.ext x1 (by simp); obtain ⟨r0, r1⟩ := b5.c2; have rf := b5.frozen; obtain ⟨n0, n1⟩ := b1.c2; have p3 := cells_ext x1 p3; have p4 := cells_ext x1 p4)
        have x3 := ((Ext.refl [wb + 1] w1).setCell (p := ⟨wb + 1, 0, none⟩) (.inl (by simp)) (.int .u64 0)).setCell (p := ⟨wb + 1, 1, none⟩) (.inl (by simp)) (.slice none 0 0); have hB3 := (b5.set 0 (.int .u64 0)).set 1 (.slice none 0 0); simp only [List.set_cons_zero, List.set_cons_succ] at hB3; exact ret_cell_tmp Try.results43 rfl hB3 Try.underlying25 rfl net_info rfl ⟨.slice none 0 0, ⟨_, _, _, rfl⟩, rfl, Qs.nil _ _, (hE.trans x1).trans' x3 (fun i hi => .inr (by have := HWB.out; simp at hi; omega))⟩
      · obtain ⟨m, rfl⟩ := Int.eq_ofNat_of_zero_le (show 0 ≤ at_ by omega)
        by_cases g2 : p.bs.length ≤ m
        · rw [if_pos (.inr (.inl (by omega)))]
          have t2 : decide ((p.bs.length : Int) ≤ (m : Int)) = true := by simpa using g2
          clear cp hp hlb
          go_enter Try.func43, Try.ntmps43
          go_upto_region 1 with (fail)
          rw [HWB.out, HW.out]
          go_wp2_with (go_at_call 57; (with_reducible refine fd.mono ?_); rintro e w1 ⟨rfl, x1⟩; have b1 := b1.ext x1 (by simp); have b5 := b5.ext x1 (by simp); obtain ⟨r0, r1⟩ := b5.c2; have rf := b5.frozen; obtain ⟨n0, n1⟩ := b1.c2; have p3 := cells_ext x1 p3; have p4 := cells_ext x1 p4)
          have x3 := ((Ext.refl [wb + 1] w1).setCell (p := ⟨wb + 1, 0, none⟩) (.inl (by simp)) (.int .u64 0)).setCell (p := ⟨wb + 1, 1, none⟩) (.inl (by simp)) (.slice none 0 0); have hB3 := (b5.set 0 (.int .u64 0)).set 1 (.slice none 0 0); simp only [List.set_cons_zero, List.set_cons_succ] at hB3; exact ret_cell_tmp Try.results43 rfl hB3 Try.underlying25 rfl net_info rfl ⟨.slice none 0 0, ⟨_, _, _, rfl⟩, rfl, Qs.nil _ _, (hE.trans x1).trans' x3 (fun i hi => .inr (by have := HWB.out; simp at hi; omega))⟩
        · have t2 : decide ((p.bs.length : Int) ≤ (m : Int)) = false := by simpa using g2
          have g2' : m < p.bs.length := by omega
          by_cases g3 : y = 0
          · rw [if_pos (.inr (.inr g3))]
            subst g3
            clear cp hp hlb
            go_enter Try.func43, Try.ntmps43
            go_upto_region 1 with (fail)
            rw [HWB.out, HW.out]
            go_wp2_with (go_at_call 57; (with_reducible refine fd.mono ?_); rintro e w1 ⟨rfl, x1⟩; have b1 := b1.ext x1 (by simp); have b5 := b5.ext x1 (by simp); obtain ⟨r0, r1⟩ := b5.c2; have rf := b5.frozen; obtain ⟨n0, n1⟩ := b1.c2; have p3 := cells_ext x1 p3; have p4 := cells_ext x1 p4)
            have x3 := ((Ext.refl [wb + 1] w1).setCell (p := ⟨wb + 1, 0, none⟩) (.inl (by simp)) (.int .u64 0)).setCell (p := ⟨wb + 1, 1, none⟩) (.inl (by simp)) (.slice none 0 0); have hB3 := (b5.set 0 (.int .u64 0)).set 1 (.slice none 0 0); simp only [List.set_cons_zero, List.set_cons_succ] at hB3; exact ret_cell_tmp Try.results43 rfl hB3 Try.underlying25 rfl net_info rfl ⟨.slice none 0 0, ⟨_, _, _, rfl⟩, rfl, Qs.nil _ _, (hE.trans x1).trans' x3 (fun i hi => .inr (by have := HWB.out; simp at hi; omega))⟩
          · rw [if_neg (by rintro (h | h | h); omega; omega; exact g3 h)]
            have hy0 : y.toNat ≠ 0 := fun h => g3 (UInt8.toNat_inj.1 h)
            have t3 : ((y.toNat : Int) == 0) = false := by simp; omega
            go_enter Try.func43, Try.ntmps43
            go_upto_region 1 with (fail)
            rw [HWB.out, HW.out]
            have nf := b1.frozen
            go_upto_region 9 with (first
              | (go_at_call 57; (with_reducible refine fd.mono ?_); rintro e w1 ⟨rfl, x1⟩; have b1 := b1.ext x1 (by simp); have b5 := b5.ext x1 (by simp); obtain ⟨r0, r1⟩ := b5.c2; have rf := b5.frozen; obtain ⟨n0, n1⟩ := b1.c2; have p3 := cells_ext x1 p3; have p4 := cells_ext x1 p4)
              | (go_at_call 15; (with_reducible refine (cp _ x1).mono ?_); rintro e w2 ⟨v2, rs2, ⟨a2, m2, c2, rfl⟩, rfl, hO2, x2⟩; have b1 := b1.ext x2 (by simp); have b5 := b5.ext x2 (by simp); have nf := b1.frozen; obtain ⟨n0, n1⟩ := b1.c2))
            obtain ⟨a2', c2', e2⟩ := hO2.shape
            simp only [Value.slice.injEq] at e2
            obtain ⟨rfl, rfl, rfl⟩ := e2
            have x4 := ((Ext.refl [wb] w2).setCell (p := ⟨wb, 0, none⟩) (.inl (by simp)) (.int .u64 (s : Int))).setCell (p := ⟨wb, 1, none⟩) (.inl (by simp)) (.slice a2 l.length c2)
            have c1' := (b1.set 0 (.int .u64 (s : Int))).set 1 (.slice a2 l.length c2)
            simp only [List.set_cons_zero, List.set_cons_succ] at c1'
            have c5' := b5.ext x4 (by simp)
            have hO4 := hO2.other b1 (by decide) (by decide) x4
            have hA1 := x1.size
            have hX4 := (hE.trans (x1.trans x2)).trans' x4 (fun i hi => .inr (by have := HWB.out; simp at hi; omega))
            clear b1 b5 x4 hO2 n0 n1 nf x2 fd cp p3 p4 r0 r1 rf hlb
            generalize (w2.setCell ⟨wb, 0, none⟩ (.int .u64 (s : Int))).setCell ⟨wb, 1, none⟩ (.slice a2 l.length c2) = W4 at *
            have hAw : wb + 2 ≤ w1.heap.size := by have := HWB.out; have := hSZ.out; omega
            have hrl := hO4.all.1
            have hB4 := own_blk hO4.own
            rw [hrl] at hB4
            rcases hB4 with ⟨h, h0⟩ | ⟨g, cap, rest, h, hg, hB, hn, hc, hlen⟩
            · omega
            · simp only [Value.slice.injEq] at h
              obtain ⟨rfl, -, rfl⟩ := h
              have hr : rs2[i]? = some (rs2[i]'(by omega)) := List.getElem?_eq_getElem (by omega)
              generalize rs2[i]'(by omega) = r at *
              have hI := hO4.all.2 i r p hr hp
              have ho := hI.2.2.2.2
              obtain ⟨ra, rc, rfl⟩ := (hI.pis (X := []) (by simp)).shape
              dsimp only at ho
              obtain ⟨p0, p1, p2, p3, p4⟩ := blk_prow hB i _ hr
              dsimp only at p0 p1 p2 p3 p4
              obtain ⟨n0, n1⟩ := c1'.c2
              have gf := hB.frozen (i * 5 + 4)
              go_upto_region 10 with (fail)
              have hO5 := hO4.flag hr hp
              have y5 := (Ext.refl [g] W4).setCell (p := ⟨g, i * 5 + 4, none⟩) (.inl (by simp)) (.bool true)
              have d1 := c1'.ext y5 (by simp; omega)
              have d5 := c5'.ext y5 (by simp; omega)
              have q3 : (W4.setCell ⟨g, i * 5 + 4, none⟩ (.bool true)).cell? ⟨g, i * 5 + 3, none⟩ = some (.slice ra p.bs.length rc) := by
                rw [World.cell?_setCell_other _ _ _ _ (by simp)]; exact p3
              have ho5 := own_ext ho y5 (fun k hk m => by have := own_far ho hO4.own (by decide) k hk; exact this (by simpa [Value.ownBlock] using m))
              have hX5 := hX4.trans' y5 (fun i hi => .inr (by have := HWB.out; simp at hi; omega))
              clear hO4 y5 c1' c5' p0 p1 p2 p3 p4 n0 n1 gf hB hI ho hlen
              generalize W4.setCell ⟨g, i * 5 + 4, none⟩ (.bool true) = W5 at *
              have hx : p.bs[m]? = some (p.bs[m]'g2') := List.getElem?_eq_getElem g2'
              generalize p.bs[m]'g2' = x at *
              rcases own_blk ho5 with ⟨h0, h00⟩ | ⟨gb, cb', rest', he, hgbS, hBb, hc1, hc2, hlenb⟩
              · omega
              simp only [Value.slice.injEq] at he
              obtain ⟨rfl, -, rfl⟩ := he
              have qx : W5.cell? ⟨gb, m, none⟩ = some (.int .u8 (x.toNat : Int)) := by
                rw [hBb.cell, List.getElem?_append_left (by simpa using g2'), List.getElem?_map, hx]; rfl
              have qf := hBb.frozen m
              obtain ⟨z, hz⟩ : ∃ z, x ^^^ y = z := ⟨_, rfl⟩
              have hxor : bits .xor .u8 (x.toNat : Int) (y.toNat : Int) = (z.toNat : Int) := by rw [xor_u8b, hz]
              have hrs : i < rs2.length := by omega
              have hr5 : (rs2.set i { (⟨p.num, p.fr, p.to, .slice (some ⟨gb, 0, none⟩) p.bs.length rc, p.sp⟩ : PRaw) with sp := true })[i]? = some ⟨p.num, p.fr, p.to, .slice (some ⟨gb, 0, none⟩) p.bs.length rc, true⟩ := by rw [List.getElem?_set_self hrs]
              have hp5 : (l.set i { p with sp := true })[i]? = some { p with sp := true } := by rw [List.getElem?_set_self hi]
              have hO6 := hO5.byte (k := m) (z := z) hr5 hp5 rfl
              rw [List.set_set] at hO6
              have hpm : p.bs.modify m (· ^^^ y) = p.bs.set m z := by rw [modify_set _ hx, hz]
              have y6 := (Ext.refl [gb] W5).setCell (p := ⟨gb, m, none⟩) (.inl (by simp)) (BV z)
              have f1 := d1.ext y6 (by simp; omega)
              have f5 := d5.ext y6 (by simp; omega)
              have hX6 := hX5.trans' y6 (fun i hi => .inr (by have := HWB.out; simp at hi; omega))
              have HH := Lib.hid (And.intro hO6 (And.intro hpm hX6))
              have hm0 : (m : Int) < (p.bs.length : Int) := by omega
              obtain ⟨n0, n1⟩ := d1.c2
              clear hO5 hO6 hpm hX6 hX5 hX4 hBb hz hr5 hp5 y6 hlenb
              go_upto_region 11 with (fail)
              unfold BV at HH f1 f5
              generalize W5.setCell ⟨gb, m, none⟩ (.int .u8 (z.toNat : Int)) = W6 at *
              clear n0 n1 q3 qx qf
              obtain ⟨n0, n1⟩ := f1.c2
              obtain ⟨r0, r1⟩ := f5.c2
              have rf := f5.frozen
              go_wp2_with (fail)
              have x3 := ((Ext.refl [wb + 1] W6).setCell (p := ⟨wb + 1, 0, none⟩) (.inl (by simp)) (.int .u64 (s : Int))).setCell (p := ⟨wb + 1, 1, none⟩) (.inl (by simp)) (.slice (some ⟨g, 0, none⟩) l.length c2)
              have hB3 := (f5.set 0 (.int .u64 (s : Int))).set 1 (.slice (some ⟨g, 0, none⟩) l.length c2)
              simp only [List.set_cons_zero, List.set_cons_succ] at hB3
              refine ret_cell_tmp Try.results43 rfl hB3 Try.underlying25 rfl net_info rfl ⟨_, ⟨_, _, _, rfl⟩, rfl, ?_, HH.out.2.2.trans' x3 (fun i hi => .inr (by have := HWB.out; simp at hi; omega))⟩
              dsimp only
              rw [HH.out.2.1]
              exact ((HH.out.1.other f5 (by decide) (by decide) x3).mono (by rw [HWB.out]; omega)).qs
    · rw [if_pos rfl]
      rw [hsp] at p4
      clear cp hp hlb
      go_enter Try.func43, Try.ntmps43
      go_upto_region 1 with (fail)
      rw [HWB.out, HW.out]
      go_wp2_with (go_at_call 57; (with_reducible refine fd.mono ?_); rintro e w1 ⟨rfl, x1⟩; have b1 := b1.ext x1 (by simp); have b5 := b5.ext x1 (by simp); obtain ⟨r0, r1⟩ := b5.c2; have rf := b5.frozen; obtain ⟨n0, n1⟩ := b1.c2; have p3 := cells_ext x1 p3; have p4 := cells_ext x1 p4)
      have x3 := ((Ext.refl [wb + 1] w1).setCell (p := ⟨wb + 1, 0, none⟩) (.inl (by simp)) (.int .u64 0)).setCell (p := ⟨wb + 1, 1, none⟩) (.inl (by simp)) (.slice none 0 0); have hB3 := (b5.set 0 (.int .u64 0)).set 1 (.slice none 0 0); simp only [List.set_cons_zero, List.set_cons_succ] at hB3; exact ret_cell_tmp Try.results43 rfl hB3 Try.underlying25 rfl net_info rfl ⟨.slice none 0 0, ⟨_, _, _, rfl⟩, rfl, Qs.nil _ _, (hE.trans x1).trans' x3 (fun i hi => .inr (by have := HWB.out; simp at hi; omega))⟩
  · have hfl : fnd l k = l.length := by have := fnd_le l k; omega
    have hT : spoilM ⟨s, l⟩ k at_ y = { e := 4 } := atM_none hfl
    rw [hT]
    rw [if_neg hi] at fd
    clear hi hfl hT hP cp
    go_enter Try.func43, Try.ntmps43
    go_upto_region 1 with (fail)
    generalize ((w.alloc (.cells #[.int .u64 (s : Int), .slice a l.length c] 25)).alloc (.cells #[.int .u64 0, .slice none 0 0] 25)) = W at *
    generalize hwb : w.heap.size = wb at *
    have HWB := Lib.hid hwb
    clear hwb
    go_wp2_with (go_at_call 57; (with_reducible refine fd.mono ?_); rintro e w1 ⟨rfl, x1⟩; have b1 := b1.ext x1 (by simp); have b5 := b5.ext x1 (by simp); obtain ⟨r0, r1⟩ := b5.c2; have rf := b5.frozen; obtain ⟨n0, n1⟩ := b1.c2)
    have x3 := ((Ext.refl [wb + 1] w1).setCell (p := ⟨wb + 1, 0, none⟩) (.inl (by simp)) (.int .u64 0)).setCell (p := ⟨wb + 1, 1, none⟩) (.inl (by simp)) (.slice none 0 0); have hB3 := (b5.set 0 (.int .u64 0)).set 1 (.slice none 0 0); simp only [List.set_cons_zero, List.set_cons_succ] at hB3; exact ret_cell_tmp Try.results43 rfl hB3 Try.underlying25 rfl net_info rfl ⟨.slice none 0 0, ⟨_, _, _, rfl⟩, rfl, Qs.nil _ _, (hE.trans x1).trans' x3 (fun i hi => .inr (by have := HWB.out; simp at hi; omega))⟩
end Go.Proofs.Ytpdfmeaemlgniaa
