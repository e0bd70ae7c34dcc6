/-
  A net in memory of its own: Copy of the document's answers, short of the laws.
-/
import Derived.Test.YtpdfmeaemlgniaaNetW
namespace Go.Proofs.Ytpdfmeaemlgniaa
open Go.RowKit
set_option linter.unusedVariables false
set_option linter.unusedSimpArgs false
set_option maxRecDepth 100000 in
set_option maxHeartbeats 4000000 in
theorem Copy_any (w : World) (s : Nat) (v : Value) (l : List Par) (hP : Ps w v l) (hl : l.length ≤ 100000) (hb : ∀ p ∈ l, p.bs.length ≤ 100000) :
    Calls Try.prog 15 #[NV s v] w fun e w' => ∃ v' rs', (∃ a n c, v' = .slice a n c) ∧ e = .returned (NV s v') ∧ OPs w.heap.size w' v' l rs' ∧ Ext [] w w' := by
  obtain ⟨a, c, rfl⟩ := hP.shape
  have e1 := (Ext.refl [] w).alloc (.cells #[.int .u64 (s : Int), .slice a l.length c] 25)
  have e2 := (Ext.refl [] (w.alloc (.cells #[.int .u64 (s : Int), .slice a l.length c] 25))).alloc (.cells #[.int .u64 0, .slice none 0 0] 25)
  have b1 := (Blk.new w [.int .u64 (s : Int), .slice a l.length c] 25).ext e2 (by simp)
  have b5 := Blk.new (w.alloc (.cells #[.int .u64 (s : Int), .slice a l.length c] 25)) [.int .u64 0, .slice none 0 0] 25
  have hE := e1.trans e2
  simp only [World.size_alloc] at b5
  have hP := hP.ext hE
  have hsz : ((w.alloc (.cells #[.int .u64 (s : Int), .slice a l.length c] 25)).alloc (.cells #[.int .u64 0, .slice none 0 0] 25)).heap.size = w.heap.size + 2 := by simp
  clear e1 e2
  go_enter Try.func15, Try.ntmps15
  go_upto_region 1 with (fail)
  generalize ((w.alloc (.cells #[.int .u64 (s : Int), .slice a l.length c] 25)).alloc (.cells #[.int .u64 0, .slice none 0 0] 25)) = W at *
  generalize hwb : w.heap.size = wb at *
  have HWB := Lib.hid hwb
  clear hwb
  obtain ⟨n0, n1⟩ := b1.c2
  go_wp2_with (fail)
  clear n0 n1
  have HSZ := Lib.hid hsz
  clear hsz
  go_loopw [3, 9] (fun x i wr => ∃ (k : Nat) (v : Value) (rk : List PRaw), i = .int .i64 k ∧ k ≤ l.length ∧ x = v ∧ Ext [] W wr ∧ Hid (OPs W.heap.size wr v (l.take k) rk)) (fun _ i _ => l.length - (intOf i).toNat)
  case atStart => exact ⟨0, .slice none 0 0, [], rfl, by omega, rfl, Ext.refl _ _, OPs.nil _ _⟩
  case round =>
    obtain ⟨k, v, rk, rfl, hk, rfl, hX, hO⟩ := hrel
    obtain ⟨av, cv, rfl⟩ := hO.out.shape
    have hkl : (l.take k).length = k := by rw [List.length_take]; omega
    have hrk := hO.out.all.1
    rw [hkl] at hO ⊢
    by_cases hlt : k < l.length
    · have hp : l[k]? = some l[k] := List.getElem?_eq_getElem hlt
      have hbl := hb l[k] (List.getElem_mem _)
      have htk : l.take (k + 1) = l.take k ++ [l[k]] := by rw [List.take_add_one, hp]; rfl
      generalize l[k] = p at *
      obtain ⟨ob, o, a1, c1, rfl, f0, f1, f2, f3, f4, oc, hbs⟩ := (hP.ext hX).at k p hp
      have HTK := Lib.hid htk
      have HRK := Lib.hid (hrk.trans hkl)
      clear htk hrk hkl hp
      have x1 := (Ext.refl [] wr).alloc (.cells [.int .u64 (p.num : Int), .int .i64 p.fr, .int .i64 p.to, .slice a1 p.bs.length c1, .bool p.sp].toArray 33)
      have hpN := Blk.new wr [.int .u64 (p.num : Int), .int .i64 p.fr, .int .i64 p.to, .slice a1 p.bs.length c1, .bool p.sp] 33
      have hbs1 := hbs.ext x1 (by simp)
      go_upto_region 5 with (fail)
      generalize hW1 : wr.alloc (.cells #[.int .u64 (p.num : Int), .int .i64 p.fr, .int .i64 p.to, .slice a1 p.bs.length c1, .bool p.sp] 33) = W1 at *
      generalize hpb : wr.heap.size = pb at *
      have HPB := Lib.hid hpb
      clear hpb hW1 f0 f1 f2 f3 f4
      obtain ⟨g0, g1, g2, g3, g4⟩ := hpN.c5
      have hpl := hpN.lt
      have y1 := (Ext.refl [] W1).alloc (.cells #[] 5)
      have g3' := cells_ext y1 g3
      go_upto_region 6 with (at_builtin; refine wpList_append_sl T22 rfl _ _ rfl rfl (World.ownsRow_lit (base := W1.heap.size) _ _ 0 (Nat.le_refl _) (by decide) rfl) rfl (ob := oc) (m := p.bs.length) (news := p.bs.map BV) (hbs1.ext y1 (by simp)) (BV_one p.bs) (by unfold maxLen; omega) (by omega) (by simp) ?_; intro v2 W2 ho2 x2; rw [Nat.zero_add, List.nil_append] at ho2; obtain ⟨a2, c2, rfl⟩ := own_shape ho2; have x2e : Ext [W1.heap.size] (W1.alloc (.cells #[] 5)) W2 := x2; have x2' : Ext [] W1 W2 := y1.trans' x2e (by simp); have hp2 := hpN.ext x2' (by simp); have gf := hp2.frozen 3; have g3'' := cells_ext x2' g3)
      have x3 := (Ext.refl [pb] W2).setCell (p := ⟨pb, 3, none⟩) (.inl (by simp)) (.slice a2 p.bs.length c2)
      have hp3 := hp2.set 3 (.slice a2 p.bs.length c2)
      simp only [List.set_cons_zero, List.set_cons_succ] at hp3
      have ho3 := own_ext ho2 x3 (own_ne ho2 hp2 (by decide))
      have hX3 : Ext [pb] wr (W2.setCell ⟨pb, 3, none⟩ (.slice a2 p.bs.length c2)) := ((x1.trans x2').mono (by simp)).trans x3
      have hO3 := hO.out.keep hX3 (by intro i hi; have := HPB.out; simp at hi; omega)
      have hXn : Ext [] wr (W2.setCell ⟨pb, 3, none⟩ (.slice a2 p.bs.length c2)) := (Ext.refl [] wr).trans' hX3 (fun i hi => .inr (by have := HPB.out; simp at hi; omega))
      have HOLD : Hid (∀ (k : Nat) q, rk[k]? = some q → ∀ c, q.b.ownBlock = some c → c < W1.heap.size) := fun k q hq c hc => by
        have hkl := (List.getElem?_eq_some_iff.1 hq).1
        have := (own_block (hO.out.all.2 k q _ hq (List.getElem?_eq_getElem (by rw [← hO.out.all.1]; exact hkl))).2.2.2.2 hc).2.1
        have := HPB.out; omega
      have hl12 := x2'.size
      generalize W2.setCell ⟨pb, 3, none⟩ (.slice a2 p.bs.length c2) = W3 at *
      clear x3 ho2 x2e x2' hp2 gf g3'' x2 g0 g1 g2 g3 g4 g3' hpN x1 hX3 y1 hbs hbs1
      obtain ⟨g0, g1, g2, g3, g4⟩ := hp3.c5
      have y3 := (Ext.refl [] W3).alloc (.cells #[.int .u64 (p.num : Int), .int .i64 p.fr, .int .i64 p.to, .slice a2 p.bs.length c2, .bool p.sp] 33)
      have hrl : rk.length ≤ l.length := by have := HRK.out; omega
      have hbase : W.heap.size ≤ (W3.alloc (.cells #[.int .u64 (p.num : Int), .int .i64 p.fr, .int .i64 p.to, .slice a2 p.bs.length c2, .bool p.sp] 33)).heap.size := by have := hX.size; have := hXn.size; simp; omega
      go_wp2_with (at_builtin; refine wpList_append_sl TPar rfl (.tmp 18) (.tmp 20) rfl rfl (hO3.ext y3).own rfl (Sl.lit W3 [.int .u64 (p.num : Int), .int .i64 p.fr, .int .i64 p.to, .slice a2 p.bs.length c2, .bool p.sp] 33 5 1 rfl (by decide)) (by intro u hu; simp at hu; rcases hu with rfl | rfl | rfl | rfl | rfl <;> rfl) (by unfold maxLen; omega) (by omega) hbase ?_; intro v4 W4 r1 r2)
      have hOI : OIs W.heap.size (W3.alloc (.cells #[.int .u64 (p.num : Int), .int .i64 p.fr, .int .i64 p.to, .slice a2 p.bs.length c2, .bool p.sp] 33)) ⟨p.num, p.fr, p.to, .slice a2 p.bs.length c2, p.sp⟩ p := ⟨rfl, rfl, rfl, rfl, own_mono (own_ext ho3 y3 (fun _ _ => by simp)) (by have := hX.size; have := HPB.out; omega)⟩
      have hO4 := (hO3.ext y3).snoc hOI (fun k q hq c hc e => by
        have := HOLD.out k q hq c hc
        have := (own_block ho3 e).1
        omega) r1 r2
      have hX4 : Ext [] W W4 := ((hX.trans hXn).trans y3).trans' r2 (fun i hi => .inr (own_ge (hO3.ext y3).own i hi))
      have HH := Lib.hid (And.intro hO4 hX4)
      clear hO4 hX4 hOI r1 r2 hO3 ho3 hX hXn hO hp3
      go_roundw
      case rel => exact ⟨k + 1, _, _, by go_num, by omega, rfl, HH.out.2, by rw [HTK.out]; exact HH.out.1⟩
      case measure => simp [intOf]; omega
    · obtain rfl : k = l.length := by omega
      rw [List.take_length] at hO
      have b1' := b1.ext hX (by simp)
      have b5' := b5.ext hX (by simp)
      obtain ⟨m0, m1⟩ := b1'.c2
      have mf := b1'.frozen
      obtain ⟨r0, r1⟩ := b5'.c2
      have rf := b5'.frozen
      have x1 := (Ext.refl [wb] wr).setCell (p := ⟨wb, 1, none⟩) (.inl (by simp)) (.slice av l.length cv)
      have q2 : Blk (wr.setCell ⟨wb, 1, none⟩ (.slice av l.length cv)) (wb + 1) 25 [.int .u64 0, .slice none 0 0] := b5'.other _ (by simp) _
      have x2 := ((Ext.refl [wb + 1] (wr.setCell ⟨wb, 1, none⟩ (.slice av l.length cv))).setCell (p := ⟨wb + 1, 0, none⟩) (.inl (by simp)) (.int .u64 (s : Int))).setCell (p := ⟨wb + 1, 1, none⟩) (.inl (by simp)) (.slice av l.length cv)
      have hO2 := (hO.out.other b1' (by decide) (by decide) x1).other q2 (by decide) (by decide) x2
      have hX2 := ((hE.trans hX).trans' x1 (fun i hi => .inr (by have := HWB.out; simp at hi; omega))).trans' x2 (fun i hi => .inr (by have := HWB.out; simp at hi; omega))
      have HH := Lib.hid (And.intro (hO2.mono hE.size) hX2)
      clear hO2 hX2 x2 x1
      go_wp2_with (fail)
      refine ret_cell Try.results15 rfl ((q2.set 0 (.int .u64 (s : Int))).set 1 (.slice av l.length cv)) Try.underlying25 rfl net_info rfl ⟨_, rk, ⟨_, _, _, rfl⟩, rfl, ?_, HH.out.2⟩
      exact HH.out.1
theorem Bs.hd {w : World} {a : Option Addr} {n c ob : Nat} {l : List UInt8} (h : Bs w (.slice a n c) ob l) (m : Nat) (hm : m ≤ l.length) : Bs w (.slice a (l.take m).length c) ob (l.take m) ∧ n = l.length ∧ l.length ≤ c := by
  have hl : (l.take m).length = m := by rw [List.length_take]; omega
  rcases h.cases with ⟨h1, rfl⟩ | ⟨off, sp, cap, h1, h2, h3, hsp, h4⟩
  · simp only [Value.slice.injEq] at h1
    obtain ⟨rfl, rfl, rfl⟩ := h1
    exact ⟨by simpa using Bs.nothing' w ob, rfl, by simp⟩
  · simp only [Value.slice.injEq] at h1
    obtain ⟨rfl, rfl, rfl⟩ := h1
    refine ⟨⟨by simp, .inr ⟨off, sp, c, rfl, by rw [hl]; omega, h3, ?_, fun j u hu => ?_⟩⟩, rfl, h2⟩
    · rcases hsp with h | h
      · exact .inl (by rw [hl]; omega)
      · exact .inr h
    · rw [List.getElem?_map, Option.map_eq_some_iff] at hu
      obtain ⟨x, hx, rfl⟩ := hu
      rw [List.getElem?_take] at hx
      split at hx
      · obtain ⟨hj, rfl⟩ := List.getElem?_eq_some_iff.1 hx
        exact h4 j hj
      · cases hx
def cutP (p : Par) : Par := { p with bs := p.bs.take 60001 }
def shortL (l : List Par) : List Par := (l.take 20001).map cutP
theorem shortL_len (l : List Par) : (shortL l).length ≤ 20001 := by unfold shortL; rw [List.length_map, List.length_take]; omega
theorem shortL_bs (l : List Par) : ∀ p ∈ shortL l, p.bs.length ≤ 60001 := by
  intro p hp
  obtain ⟨q, _, rfl⟩ := List.mem_map.1 hp
  show (q.bs.take 60001).length ≤ _
  rw [List.length_take]; omega
theorem take_min' (bs : List UInt8) : bs.take (min bs.length 60001) = bs.take 60001 := by
  rw [List.take_eq_take_iff]; omega
set_option maxRecDepth 100000 in
set_option maxHeartbeats 4000000 in
theorem short_any (w : World) (s : Nat) (v : Value) (l : List Par) (hP : Ps w v l) :
    Calls Try.prog 10 #[NV s v] w fun e w' => ∃ v' rs', (∃ a n c, v' = .slice a n c) ∧ e = .returned (NV s v') ∧ OPs w.heap.size w' v' (shortL l) rs' ∧ Ext [] w w' := by
  obtain ⟨a, c, rfl⟩ := hP.shape
  have hml := hP.len
  unfold maxLen at hml
  have e1 := (Ext.refl [] w).alloc (.cells #[.int .u64 (s : Int), .slice a l.length c] 25)
  have e2 := (Ext.refl [] (w.alloc (.cells #[.int .u64 (s : Int), .slice a l.length c] 25))).alloc (.cells #[.int .u64 0, .slice none 0 0] 25)
  have b1 := (Blk.new w [.int .u64 (s : Int), .slice a l.length c] 25).ext e2 (by simp)
  have b5 := Blk.new (w.alloc (.cells #[.int .u64 (s : Int), .slice a l.length c] 25)) [.int .u64 0, .slice none 0 0] 25
  have hE := e1.trans e2
  simp only [World.size_alloc] at b5
  have hsz : ((w.alloc (.cells #[.int .u64 (s : Int), .slice a l.length c] 25)).alloc (.cells #[.int .u64 0, .slice none 0 0] 25)).heap.size = w.heap.size + 2 := by simp
  clear e1 e2
  go_enter Try.func10, Try.ntmps10
  go_upto_region 1 with (fail)
  generalize ((w.alloc (.cells #[.int .u64 (s : Int), .slice a l.length c] 25)).alloc (.cells #[.int .u64 0, .slice none 0 0] 25)) = W at *
  generalize hwb : w.heap.size = wb at *
  have HWB := Lib.hid hwb
  clear hwb
  obtain ⟨n0, n1⟩ := b1.c2
  go_wp2_with (fail)
  clear n0 n1
  have HSZ := Lib.hid hsz
  clear hsz
  go_loopw [3, 9] (fun x i wr => ∃ (k : Nat) (v : Value) (rk : List PRaw), i = .int .i64 k ∧ k ≤ l.length ∧ x = v ∧ Ext [] W wr ∧ wr.ownsRow W.heap.size 33 5 v rk.length (prows rk) ∧ rk.length ≤ 20001 ∧ Hid (RIs [] w rk (((l.take k).take 20001).map cutP))) (fun _ i _ => l.length - (intOf i).toNat)
  case atStart => exact ⟨0, .slice none 0 0, [], rfl, by omega, rfl, Ext.refl _ _, World.ownsRow_nil _ _ _ _, by simp, RIs.nil _ _⟩
  case round =>
    obtain ⟨k, v, rk, rfl, hk, rfl, hX, hO, hr1, hI⟩ := hrel
    obtain ⟨av, cv, rfl⟩ := own_shape hO
    by_cases hlt : k < l.length
    · have hp : l[k]? = some l[k] := List.getElem?_eq_getElem hlt
      have htk : l.take (k + 1) = l.take k ++ [l[k]] := by rw [List.take_add_one, hp]; rfl
      generalize l[k] = p at *
      obtain ⟨ob, o, a10, c10, rfl, f0, f1, f2, f3, f4, oc0, hbs0⟩ := hP.at k p hp
      have hXX := hE.trans hX
      have f0 := cells_ext hXX f0
      have f1 := cells_ext hXX f1
      have f2 := cells_ext hXX f2
      have f3 := cells_ext hXX f3
      have f4 := cells_ext hXX f4
      have HTK := Lib.hid htk
      have hkl : (l.take k).length = k := by rw [List.length_take]; omega
      have HKL := Lib.hid hkl
      clear htk hp hkl
      have hpl : p.bs.length ≤ 9223372036854775807 := sl_len hbs0
      obtain ⟨hM0, -, hlc⟩ := hbs0.hd (min p.bs.length 60001) (by omega)
      rw [take_min'] at hM0
      have hmin : min (p.bs.length : Int) 60001 = ((p.bs.take 60001).length : Int) := by rw [List.length_take]; omega
      have hmc : (p.bs.take 60001).length ≤ c10 := by rw [List.length_take]; omega
      clear hbs0 hXX
      have x1 := (Ext.refl [] wr).alloc (.cells #[.int .u64 (p.num : Int), .int .i64 p.fr, .int .i64 p.to, .slice a10 p.bs.length c10, .bool p.sp] 33)
      have hpN := Blk.new wr [.int .u64 (p.num : Int), .int .i64 p.fr, .int .i64 p.to, .slice a10 p.bs.length c10, .bool p.sp] 33
      go_upto_region 5 with (fail)
      generalize hW1 : wr.alloc (.cells #[.int .u64 (p.num : Int), .int .i64 p.fr, .int .i64 p.to, .slice a10 p.bs.length c10, .bool p.sp] 33) = W1 at *
      generalize hpb : wr.heap.size = pb at *
      have HPB := Lib.hid hpb
      have hown : ∀ g ∈ (Value.slice av rk.length cv).ownBlock.toList, W.heap.size ≤ g ∧ g < pb := fun g hg => by
        have := own_block hO (show (Value.slice av rk.length cv).ownBlock = some g by simpa using hg)
        omega
      have HOWN := Lib.hid hown
      clear hpb hW1 f0 f1 f2 f3 f4 hown
      obtain ⟨g0, g1, g2, g3, g4⟩ := hpN.c5
      have gf := hpN.frozen 3
      have hO1 := own_ext hO x1 (fun _ _ => by simp)
      have hcut : cutP p = ⟨p.num, p.fr, p.to, p.bs.take 60001, p.sp⟩ := rfl
      have HCUT := Lib.hid hcut
      clear hcut
      generalize p.bs.take 60001 = M at *
      by_cases hk2 : k ≤ 20000
      · have hI2 : Hid (RIs [] w (rk ++ [⟨p.num, p.fr, p.to, .slice a10 M.length c10, p.sp⟩]) (((l.take (k + 1)).take 20001).map cutP)) := by
          have e1 : ((l.take (k + 1)).take 20001) = ((l.take k).take 20001) ++ [p] := by
            rw [List.take_take, List.take_take, Nat.min_eq_right (by omega), Nat.min_eq_right (by omega)]; exact HTK.out
          show RIs [] w _ _
          rw [e1, List.map_append]
          exact hI.out.append (RIs.one (by rw [HCUT.out]; exact ⟨rfl, rfl, rfl, rfl, oc0, by simp, hM0⟩))
        have hr2 : rk.length ≤ 20000 := by
          have := hI.out.1
          rw [List.length_map, List.length_take, HKL.out] at this
          omega
        go_upto_region 7 with (fail)
        have x3 := (Ext.refl [pb] W1).setCell (p := ⟨pb, 3, none⟩) (.inl (by simp)) (.slice a10 M.length c10)
        have hp3 := hpN.set 3 (.slice a10 M.length c10)
        simp only [List.set_cons_zero, List.set_cons_succ] at hp3
        have hO3 := own_ext hO1 x3 (fun g hg m => by have := HOWN.out g (by simpa using hg); simp at m; omega)
        have hXn : Ext [] W (W1.setCell ⟨pb, 3, none⟩ (.slice a10 M.length c10)) := (hX.trans x1).trans' x3 (fun i hi => .inr (by have := HPB.out; have := hX.size; simp at hi; omega))
        generalize W1.setCell ⟨pb, 3, none⟩ (.slice a10 M.length c10) = W3 at *
        clear x3 g0 g1 g2 g3 g4 gf hpN hO1 x1 hX hO hmin
        obtain ⟨g0, g1, g2, g3, g4⟩ := hp3.c5
        have y3 := (Ext.refl [] W3).alloc (.cells #[.int .u64 (p.num : Int), .int .i64 p.fr, .int .i64 p.to, .slice a10 M.length c10, .bool p.sp] 33)
        have hbase : W.heap.size ≤ (W3.alloc (.cells #[.int .u64 (p.num : Int), .int .i64 p.fr, .int .i64 p.to, .slice a10 M.length c10, .bool p.sp] 33)).heap.size := by have := hXn.size; simp; omega
        have hO4 := own_ext hO3 y3 (fun _ _ => by simp)
        go_wp2_with (at_builtin; refine wpList_append_sl TPar rfl (.tmp 24) (.tmp 26) rfl rfl hO4 rfl (Sl.lit W3 [.int .u64 (p.num : Int), .int .i64 p.fr, .int .i64 p.to, .slice a10 M.length c10, .bool p.sp] 33 5 1 rfl (by decide)) (by intro u hu; simp at hu; rcases hu with rfl | rfl | rfl | rfl | rfl <;> rfl) (by unfold maxLen; omega) (by omega) hbase ?_; intro v4 W4 r1 r2)
        have hX4 : Ext [] W W4 := (hXn.trans y3).trans' r2 (fun i hi => .inr (own_ge hO4 i hi))
        have hO5 : W4.ownsRow W.heap.size 33 5 v4 (rk ++ [(⟨p.num, p.fr, p.to, .slice a10 M.length c10, p.sp⟩ : PRaw)]).length (prows (rk ++ [(⟨p.num, p.fr, p.to, .slice a10 M.length c10, p.sp⟩ : PRaw)])) := by
          rw [List.length_append, prows, flat_append, flat_one]
          exact r1
        have HH := Lib.hid (And.intro hO5 hX4)
        clear hO5 hX4 r1 r2 hO4 hO3 hXn hp3
        go_roundw
        case rel => exact ⟨k + 1, _, _, by go_num, by omega, rfl, HH.out.2, HH.out.1, by rw [List.length_append]; simp; omega, hI2⟩
        case measure => simp [intOf]; omega
      · have hI2 : Hid (RIs [] w rk (((l.take (k + 1)).take 20001).map cutP)) := by
          have e1 : ((l.take (k + 1)).take 20001) = ((l.take k).take 20001) := by
            rw [List.take_take, List.take_take, Nat.min_eq_left (by omega), Nat.min_eq_left (by omega)]
          show RIs [] w _ _
          rw [e1]
          exact hI.out
        have hX1 := hX.trans x1
        clear hO hmin
        go_wp2_with (fail)
        go_roundw
        case rel => exact ⟨k + 1, _, rk, by go_num, by omega, rfl, hX1, hO1, hr1, hI2⟩
        case measure => simp [intOf]; omega
    · obtain rfl : k = l.length := by omega
      rw [List.take_length] at hI
      have hI : RIs [] w rk (shortL l) := hI.out
      have b1' := b1.ext hX (by simp)
      have b5' := b5.ext hX (by simp)
      obtain ⟨m0, m1⟩ := b1'.c2
      have mf := b1'.frozen
      have x1 := (Ext.refl [wb] wr).setCell (p := ⟨wb, 1, none⟩) (.inl (by simp)) (.slice av rk.length cv)
      have q1 := b1'.set 1 (.slice av rk.length cv)
      simp only [List.set_cons_zero, List.set_cons_succ] at q1
      have q2 : Blk (wr.setCell ⟨wb, 1, none⟩ (.slice av rk.length cv)) (wb + 1) 25 [.int .u64 0, .slice none 0 0] := b5'.other _ (by simp) _
      have hXw := (hE.trans hX).trans' x1 (fun i hi => .inr (by have := HWB.out; simp at hi; omega))
      have hO1 := own_ext hO x1 (own_ne hO b1' (by decide))
      have hPs : Ps (wr.setCell ⟨wb, 1, none⟩ (.slice av rk.length cv)) (.slice av rk.length cv) (shortL l) := by
        obtain ⟨ob, h1, _⟩ := Sl.of_own hO1
        exact ⟨ob, rk, h1, hI.keep hXw⟩
      have cp := Copy_any _ s _ _ hPs (by have := shortL_len l; omega) (fun p hp => by have := shortL_bs l p hp; omega)
      have hsz := x1.size
      have hsz2 := hX.size
      go_upto_region 10 with (fail)
      generalize wr.setCell ⟨wb, 1, none⟩ (.slice av rk.length cv) = W1 at *
      clear m0 m1 mf
      obtain ⟨k0, k1⟩ := q1.c2
      go_wp2_with (go_at_call 15; (with_reducible refine cp.mono ?_); rintro e w4 ⟨v4, rs4, ⟨a4, n4, c4, rfl⟩, rfl, hO4, x4⟩; have q2 := q2.ext x4 (by simp); obtain ⟨r0, r1⟩ := q2.c2; have rf := q2.frozen)
      have x5 := ((Ext.refl [wb + 1] w4).setCell (p := ⟨wb + 1, 0, none⟩) (.inl (by simp)) (.int .u64 (s : Int))).setCell (p := ⟨wb + 1, 1, none⟩) (.inl (by simp)) (.slice a4 n4 c4)
      refine ret_cell Try.results10 rfl ((q2.set 0 (.int .u64 (s : Int))).set 1 (.slice a4 n4 c4)) Try.underlying25 rfl net_info rfl ⟨_, rs4, ⟨_, _, _, rfl⟩, rfl, ?_, ?_⟩
      · exact (hO4.other q2 (by decide) (by decide) x5).mono hXw.size
      · exact (hXw.trans x4).trans' x5 (fun i hi => .inr (by have := HWB.out; simp at hi; omega))
end Go.Proofs.Ytpdfmeaemlgniaa
