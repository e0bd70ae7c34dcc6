
/-
  The document's answers: Drop; Send, Twin as what is read.
-/
import Derived.Test.YtpdfmeaemlgniaaNetRefC
namespace Go.Proofs.Ytpdfmeaemlgniaa
open Go.RowKit
open Go.Lib hiding intOf
set_option linter.unusedVariables false
set_option linter.unusedSimpArgs false
theorem QSend_any (w : World) (s : Nat) (v : Value) (l : List Par) (f t : Int) (ab : Option Addr) (cb ob : Nat) (bs : List UInt8) (hP : Ps w v l) (hB : Bs w (.slice ab bs.length cb) ob bs) (hll : l.length ≤ 20000) (hlb : ∀ q ∈ l, q.bs.length ≤ 100000) (hs : s ≤ 1099511627776) :
    Calls Try.prog 25 #[NV s v, .int .i64 f, .int .i64 t, .slice ab bs.length cb] w fun e w' => ∃ v', (∃ a' n' c', v' = .slice a' n' c') ∧ e = .returned (.tuple #[NV (sendM ⟨s, l⟩ f t bs).n.s v', .int .u64 ((sendM ⟨s, l⟩ f t bs).num : Int), .int .i64 (sendM ⟨s, l⟩ f t bs).e]) ∧ Qs w.heap.size w' v' (sendM ⟨s, l⟩ f t bs).n.ps ∧ Ext [] w w' := by
  refine (RefSend_any w s v l f t ab cb ob bs hP hB hll hlb hs).mono ?_
  rintro e w' ⟨v', rs', h1, h2, h3, h4⟩
  exact ⟨v', h1, h2, h3.qs, h4⟩
theorem QTwin_any (w : World) (s k : Nat) (v : Value) (l : List Par) (hP : Ps w v l) (hll : l.length ≤ 20000) (hlb : ∀ q ∈ l, q.bs.length ≤ 100000) (hs : s ≤ 1099511627776) :
    Calls Try.prog 27 #[NV s v, .int .u64 (k : Int)] w fun e w' => ∃ v', (∃ a' n' c', v' = .slice a' n' c') ∧ e = .returned (.tuple #[NV (twinM ⟨s, l⟩ k).n.s v', .int .u64 ((twinM ⟨s, l⟩ k).num : Int), .int .i64 (twinM ⟨s, l⟩ k).e]) ∧ Qs w.heap.size w' v' (twinM ⟨s, l⟩ k).n.ps ∧ Ext [] w w' := by
  refine (RefTwin_any w s k v l hP hll hlb hs).mono ?_
  rintro e w' ⟨v', rs', h1, h2, h3, h4⟩
  exact ⟨v', h1, h2, h3.qs, h4⟩
def keepR (f t : Int) (r : PRaw) : Bool := (r.fr != f) || (r.to != t)
theorem OAll.tail {A : Nat} {w : World} {r : PRaw} {p : Par} {rs : List PRaw} {l : List Par} (h : OAll A w (r :: rs) (p :: l)) : OIs A w r p ∧ OAll A w rs l :=
  ⟨h.2 0 r p rfl rfl, ⟨by have := h.1; simpa using this, fun k r' p' h1 h2 => h.2 (k + 1) r' p' (by simpa using h1) (by simpa using h2)⟩⟩
theorem OAll.cons {A : Nat} {w : World} {r : PRaw} {p : Par} {rs : List PRaw} {l : List Par} (h : OIs A w r p) (h' : OAll A w rs l) : OAll A w (r :: rs) (p :: l) :=
  ⟨by simp [h'.1], fun k r' p' h1 h2 => by
    match k with
    | 0 => simp at h1 h2; subst h1 h2; exact h
    | k + 1 => exact h'.2 k r' p' (by simpa using h1) (by simpa using h2)⟩
theorem OAll.sift {A : Nat} {w : World} (f t : Int) : ∀ {rs : List PRaw} {l : List Par}, OAll A w rs l → OAll A w (rs.filter (keepR f t)) (l.filter (keepM f t))
  | [], [], h => h
  | [], p :: l, h => by have := h.1; simp at this
  | r :: rs, [], h => by have := h.1; simp at this
  | r :: rs, p :: l, h => by
    obtain ⟨h1, h2⟩ := h.tail
    have e : keepR f t r = keepM f t p := by unfold keepR keepM; rw [h1.2.1, h1.2.2.1]
    have ih := OAll.sift f t h2
    rw [List.filter_cons, List.filter_cons, e]
    cases keepM f t p
    · exact ih
    · exact OAll.cons h1 ih
def AnsX (w : World) (T : Told) : Ending → World → Prop := fun e w' => ∃ v', (∃ a' n' c', v' = .slice a' n' c') ∧ e = .returned (.tuple #[NV T.n.s v', .int .i64 (T.gone : Int), .int .i64 T.e]) ∧ Qs w.heap.size w' v' T.n.ps ∧ Ext [] w w'
set_option maxRecDepth 100000 in
set_option maxHeartbeats 4000000 in
theorem RefDrop_any (w : World) (s : Nat) (v : Value) (l : List Par) (f t : Int) (hP : Ps w v l) (hll : l.length ≤ 20000) (hlb : ∀ q ∈ l, q.bs.length ≤ 100000) :
    Calls Try.prog 42 #[NV s v, .int .i64 f, .int .i64 t] w (AnsX w (dropM ⟨s, l⟩ f t)) := by
  obtain ⟨a, c, rfl⟩ := hP.shape
  have e1 := (Ext.refl [] w).alloc (.cells #[.int .u64 (s : Int), .slice a l.length c] 25)
  have e2 := (Ext.refl [] (w.alloc (.cells #[.int .u64 (s : Int), .slice a l.length c] 25))).alloc (.cells #[.int .u64 0, .slice none 0 0] 25)
  have b1 := (Blk.new w [.int .u64 (s : Int), .slice a l.length c] 25).ext e2 (by simp)
  have b5 := Blk.new (w.alloc (.cells #[.int .u64 (s : Int), .slice a l.length c] 25)) [.int .u64 0, .slice none 0 0] 25
  have hE := e1.trans e2
  simp only [World.size_alloc] at b5
  have hP := hP.ext hE
  have hsz : ((w.alloc (.cells #[.int .u64 (s : Int), .slice a l.length c] 25)).alloc (.cells #[.int .u64 0, .slice none 0 0] 25)).heap.size = w.heap.size + 2 := by simp
  have hSZ := Lib.hid hsz
  clear e1 e2 hsz
  have pr := fun w => Pair_any w f t
  have cp := Copy_any ((w.alloc (.cells #[.int .u64 (s : Int), .slice a l.length c] 25)).alloc (.cells #[.int .u64 0, .slice none 0 0] 25)) s _ l hP (by omega) hlb
  obtain ⟨n0, n1⟩ := b1.c2
  unfold dropM
  clear hP
  cases hw : isWay f t
  · rw [hw] at pr
    rw [if_pos rfl]
    clear cp hw
    go_enter Try.func42, Try.ntmps42
    go_upto_region 1 with (fail)
    generalize ((w.alloc (.cells #[.int .u64 (s : Int), .slice a l.length c] 25)).alloc (.cells #[.int .u64 0, .slice none 0 0] 25)) = W at *
    generalize hwb : w.heap.size = wb at *
    have HWB := Lib.hid hwb
    clear hwb
    obtain ⟨r0, r1⟩ := b5.c2
    have rf := b5.frozen
    go_wp2_with (go_at_call 44; (with_reducible refine (pr _).mono ?_); rintro e w1 ⟨rfl, rfl⟩)
    have x5 := ((Ext.refl [wb + 1] w1).setCell (p := ⟨wb + 1, 0, none⟩) (.inl (by simp)) (.int .u64 0)).setCell (p := ⟨wb + 1, 1, none⟩) (.inl (by simp)) (.slice none 0 0)
    refine ret_cell_tmp2 Try.results42 rfl ((b5.set 0 (.int .u64 0)).set 1 (.slice none 0 0)) Try.underlying25 rfl net_info rfl ⟨_, ⟨_, _, _, rfl⟩, rfl, Qs.nil _ _, ?_⟩
    exact hE.trans' x5 (fun i hi => .inr (by have := HWB.out; simp at hi; omega))
  · rw [hw] at pr
    rw [if_neg (by simp)]
    clear hw
    go_enter Try.func42, Try.ntmps42
    go_upto_region 1 with (fail)
    generalize ((w.alloc (.cells #[.int .u64 (s : Int), .slice a l.length c] 25)).alloc (.cells #[.int .u64 0, .slice none 0 0] 25)) = W at *
    generalize hwb : w.heap.size = wb at *
    have HWB := Lib.hid hwb
    clear hwb
    have nf := b1.frozen
    go_upto_region 4 with (first
      | (go_at_call 44; (with_reducible refine (pr _).mono ?_); rintro e w1 ⟨rfl, rfl⟩)
      | (go_at_call 15; (with_reducible refine cp.mono ?_); rintro e w2 ⟨v2, rs2, ⟨a2, m2, c2, rfl⟩, rfl, hO2, x2⟩; have b1 := b1.ext x2 (by simp); have b5 := b5.ext x2 (by simp); have nf := b1.frozen; obtain ⟨n0, n1⟩ := b1.c2))
    obtain ⟨a2', c2', e2⟩ := hO2.shape
    simp only [Value.slice.injEq] at e2
    obtain ⟨rfl, rfl, rfl⟩ := e2
    have x4 := ((Ext.refl [wb] w2).setCell (p := ⟨wb, 0, none⟩) (.inl (by simp)) (.int .u64 (s : Int))).setCell (p := ⟨wb, 1, none⟩) (.inl (by simp)) (.slice a2 l.length c2)
    have c1' := (b1.set 0 (.int .u64 (s : Int))).set 1 (.slice a2 l.length c2)
    simp only [List.set_cons_zero, List.set_cons_succ] at c1'
    have c5' := b5.ext x4 (by simp)
    have hO4 := hO2.other b1 (by decide) (by decide) x4
    have hX4 := (hE.trans x2).trans' x4 (fun i hi => .inr (by have := HWB.out; simp at hi; omega))
    have hA4 := Nat.le_trans x2.size x4.size
    clear b1 b5 x4 hO2 n0 n1 nf x2 cp pr
    generalize (w2.setCell ⟨wb, 0, none⟩ (.int .u64 (s : Int))).setCell ⟨wb, 1, none⟩ (.slice a2 l.length c2) = W4 at *
    have hrl := hO4.all.1
    obtain ⟨n0, n1⟩ := c1'.c2
    have hlt5 := c5'.lt
    go_wp2_with (fail)
    go_loopw [9, 23] (fun x i wr => ∃ (j : Nat) (v : Value), i = .int .i64 (j : Int) ∧ j ≤ l.length ∧ x = v ∧ Hid (wr.ownsRow W4.heap.size 33 5 v ((rs2.take j).filter (keepR f t)).length (prows ((rs2.take j).filter (keepR f t)))) ∧ Ext [] W4 wr) (fun _ i _ => l.length - (intOf i).toNat)
    case atStart => exact ⟨0, .slice none 0 0, rfl, by omega, rfl, World.ownsRow_nil _ _ _ _, Ext.refl _ _⟩
    case round =>
      obtain ⟨j, v, rfl, hj, rfl, hown, hX⟩ := hrel
      have hown := hown.out
      obtain ⟨av, cv, rfl⟩ := own_shape hown
      by_cases hlt : j < l.length
      · have hr : rs2[j]? = some (rs2[j]'(by omega)) := List.getElem?_eq_getElem (by omega)
        have hp : l[j]? = some l[j] := List.getElem?_eq_getElem hlt
        have hI := hO4.all.2 j _ _ hr hp
        have htk : rs2.take (j + 1) = rs2.take j ++ [rs2[j]'(by omega)] := by rw [List.take_add_one, hr]; rfl
        obtain ⟨ob, hS, -⟩ := Sl.of_own hO4.own
        obtain ⟨o, rfl, hc⟩ := Sl.flat_cells wideP hS j _ hr
        obtain ⟨ra, rc, hrb⟩ := own_shape hI.2.2.2.2
        generalize (l[j]).bs.length = bl at *
        generalize rs2[j]'(by omega) = r at *
        obtain ⟨rn, rf', rt, rb, rsp⟩ := r
        dsimp only at hrb
        subst hrb
        have p0 : wr.cell? ⟨ob, o + j * 5, none⟩ = some (.int .u64 (rn : Int)) := cells_ext hX (hc 0 _ rfl)
        have p1 : wr.cell? ⟨ob, o + j * 5 + 1, none⟩ = some (.int .i64 rf') := cells_ext hX (hc 1 _ rfl)
        have p2 : wr.cell? ⟨ob, o + j * 5 + 2, none⟩ = some (.int .i64 rt) := cells_ext hX (hc 2 _ rfl)
        have p3 : wr.cell? ⟨ob, o + j * 5 + 3, none⟩ = some (.slice ra bl rc) := cells_ext hX (hc 3 _ rfl)
        have p4 : wr.cell? ⟨ob, o + j * 5 + 4, none⟩ = some (.bool rsp) := cells_ext hX (hc 4 _ rfl)
        have hfl : ((rs2.take j).filter (keepR f t)).length ≤ 20000 := by
          have := List.length_filter_le (keepR f t) (rs2.take j)
          rw [List.length_take] at this
          omega
        have x1 := (Ext.refl [] wr).alloc (.cells #[.int .u64 (rn : Int), .int .i64 rf', .int .i64 rt, .slice ra bl rc, .bool rsp] 33)
        have g1 := Blk.new wr [.int .u64 (rn : Int), .int .i64 rf', .int .i64 rt, .slice ra bl rc, .bool rsp] 33
        have hX1 := hX.trans x1
        have hown1 := own_ext hown x1 (fun _ _ => by simp)
        have hsw := hX1.size
        have HT := Lib.hid htk
        clear hc hS hI hr hp htk hown x1
        have hk : keepR f t ⟨rn, rf', rt, .slice ra bl rc, rsp⟩ = ((rf' != f) || (rt != t)) := rfl
        have hkeep : keepR f t ⟨rn, rf', rt, .slice ra bl rc, rsp⟩ = true ∨ keepR f t ⟨rn, rf', rt, .slice ra bl rc, rsp⟩ = false := by cases keepR f t ⟨rn, rf', rt, .slice ra bl rc, rsp⟩ <;> simp
        go_upto_region 8 with (fail)
        generalize wr.alloc (.cells #[.int .u64 (rn : Int), .int .i64 rf', .int .i64 rt, .slice ra bl rc, .bool rsp] 33) = U at *
        generalize wr.heap.size = pb at *
        clear p0 p1 p2 p3 p4
        obtain ⟨p0, p1, p2, p3, p4⟩ := g1.c5
        generalize hFL : (rs2.take j).filter (keepR f t) = FL at *
        have HFL := Lib.hid hFL
        clear hFL
        have hway : (rf' != f) = true ∨ ((rf' != f) = false ∧ (rt != t) = true) ∨ ((rf' != f) = false ∧ (rt != t) = false) := by cases (rf' != f) <;> cases (rt != t) <;> simp
        rcases hway with h1 | ⟨h1, h2⟩ | ⟨h1, h2⟩
        case inl =>
          have hkk : keepR f t ⟨rn, rf', rt, .slice ra bl rc, rsp⟩ = true := by rw [hk, h1]; rfl
          have HK := Lib.hid hkk
          clear hk hkk hkeep
          go_upto_region 10 with (at_builtin; refine wpList_append_sl TPar rfl (.tmp 37) (.tmp 39) rfl rfl (own_ext hown1 ((Ext.refl [] U).alloc (.cells #[.int .u64 (rn : Int), .int .i64 rf', .int .i64 rt, .slice ra bl rc, .bool rsp] 33)) (fun _ _ => by simp)) rfl (Sl.lit U [.int .u64 (rn : Int), .int .i64 rf', .int .i64 rt, .slice ra bl rc, .bool rsp] 33 5 1 rfl (by decide)) (by intro u hu; simp at hu; rcases hu with rfl | rfl | rfl | rfl | rfl <;> rfl) (by unfold maxLen; omega) (by omega) (by simp; omega) ?_; intro v6 W6 r1 r2; obtain ⟨a6, c6, rfl⟩ := own_shape r1); have hE6 := (hX1.trans ((Ext.refl [] U).alloc (.cells #[.int .u64 (rn : Int), .int .i64 rf', .int .i64 rt, .slice ra bl rc, .bool rsp] 33))).trans' r2 (fun i hi => .inr (by have := own_ge hown1 i hi; omega)); have HH := Lib.hid (And.intro r1 hE6); clear r1 r2 hE6; go_wp2_with (fail); go_roundw; (case rel => (refine ⟨j + 1, _, by go_num, by omega, rfl, ?_, HH.out.2⟩; show World.ownsRow _ _ _ _ _ _ _; rw [HT.out, List.filter_append, List.filter_cons, HK.out, HFL.out]; exact (by have h6 := HH.out.1; rw [List.length_append, prows, flat_append]; exact h6))); (case measure => (simp [intOf]; omega))
        case inr.inl =>
          have hkk : keepR f t ⟨rn, rf', rt, .slice ra bl rc, rsp⟩ = true := by rw [hk, h1, h2]; rfl
          have HK := Lib.hid hkk
          clear hk hkk hkeep
          go_upto_region 10 with (at_builtin; refine wpList_append_sl TPar rfl (.tmp 37) (.tmp 39) rfl rfl (own_ext hown1 ((Ext.refl [] U).alloc (.cells #[.int .u64 (rn : Int), .int .i64 rf', .int .i64 rt, .slice ra bl rc, .bool rsp] 33)) (fun _ _ => by simp)) rfl (Sl.lit U [.int .u64 (rn : Int), .int .i64 rf', .int .i64 rt, .slice ra bl rc, .bool rsp] 33 5 1 rfl (by decide)) (by intro u hu; simp at hu; rcases hu with rfl | rfl | rfl | rfl | rfl <;> rfl) (by unfold maxLen; omega) (by omega) (by simp; omega) ?_; intro v6 W6 r1 r2; obtain ⟨a6, c6, rfl⟩ := own_shape r1); have hE6 := (hX1.trans ((Ext.refl [] U).alloc (.cells #[.int .u64 (rn : Int), .int .i64 rf', .int .i64 rt, .slice ra bl rc, .bool rsp] 33))).trans' r2 (fun i hi => .inr (by have := own_ge hown1 i hi; omega)); have HH := Lib.hid (And.intro r1 hE6); clear r1 r2 hE6; go_wp2_with (fail); go_roundw; (case rel => (refine ⟨j + 1, _, by go_num, by omega, rfl, ?_, HH.out.2⟩; show World.ownsRow _ _ _ _ _ _ _; rw [HT.out, List.filter_append, List.filter_cons, HK.out, HFL.out]; exact (by have h6 := HH.out.1; rw [List.length_append, prows, flat_append]; exact h6))); (case measure => (simp [intOf]; omega))
        case inr.inr =>
          have hkk : keepR f t ⟨rn, rf', rt, .slice ra bl rc, rsp⟩ = false := by rw [hk, h1, h2]; rfl
          have HK := Lib.hid hkk
          clear hk hkk hkeep
          go_wp2_with (fail)
          go_roundw
          case rel =>
            refine ⟨j + 1, _, by go_num, by omega, rfl, ?_, hX1⟩
            show World.ownsRow _ _ _ _ _ _ _
            rw [HT.out, List.filter_append, List.filter_cons, HK.out, HFL.out, if_neg (by simp), List.filter_nil, List.append_nil]
            exact hown1
          case measure => simp [intOf]; omega
      · obtain rfl : j = l.length := by omega
        rw [List.take_of_length_le (by omega)] at hown ⊢
        have hS := hO4.all.sift f t
        have hfl := hS.1
        have hfm := List.length_filter_le (keepM f t) l
        generalize rs2.filter (keepR f t) = FL at *
        generalize l.filter (keepM f t) = LM at *
        rw [hfl] at hown ⊢
        have n0 := cells_ext hX n0
        have n1 := cells_ext hX n1
        have c1' := c1'.ext hX (by simp)
        have c5' := c5'.ext hX (by simp)
        have nf := c1'.frozen
        have hsw := hX.size
        have hsub : Hid (((l.length - LM.length : Nat) : Int) = (l.length : Int) - (LM.length : Int)) := by show _ = _; omega
        go_upto_region 13 with (fail)
        have x6 := (Ext.refl [wb] wr).setCell (p := ⟨wb, 1, none⟩) (.inl (by simp)) (.slice av LM.length cv)
        have d1 := c1'.set 1 (.slice av LM.length cv)
        simp only [List.set_cons_zero, List.set_cons_succ] at d1
        have d5 := c5'.ext x6 (by simp)
        have hQ : Qs w1.heap.size (wr.setCell ⟨wb, 1, none⟩ (.slice av LM.length cv)) (.slice av LM.length cv) LM := by
          have ho6 := own_ext hown x6 (own_ne hown c1' (by decide))
          refine Qs.of (rs := FL) (fun X w' hXX he => ?_) ?_
          · have hs := he.size
            have h2 := own_ext ho6 he (fun k hk m => by have := own_block ho6 hk; have := hXX k m; omega)
            obtain ⟨ob, h3, _⟩ := Sl.of_own h2
            rw [← hfl] at h3 ⊢
            exact ⟨ob, h3⟩
          · exact ⟨hS.1, fun k r p h1 h2 => (((hS.2 k r p h1 h2).keep hX (by simp)).keep x6 (own_ne ((hS.2 k r p h1 h2).keep hX (by simp)).2.2.2.2 c1' (by decide)))⟩
        have hX6 := (hX4.trans hX).trans' x6 (fun i hi => .inr (by have := HWB.out; simp at hi; omega))
        generalize wr.setCell ⟨wb, 1, none⟩ (.slice av LM.length cv) = W6 at *
        have HQ := Lib.hid (And.intro hQ hX6)
        clear hQ hX6 x6 hX hX4 hown hS hO4 n0 n1 nf c1' c5'
        obtain ⟨n0, n1⟩ := d1.c2
        obtain ⟨r0, r1⟩ := d5.c2
        have rf := d5.frozen
        go_wp2_with (fail)
        have x3 := ((Ext.refl [wb + 1] W6).setCell (p := ⟨wb + 1, 0, none⟩) (.inl (by simp)) (.int .u64 (s : Int))).setCell (p := ⟨wb + 1, 1, none⟩) (.inl (by simp)) (.slice av LM.length cv)
        have hB3 := (d5.set 0 (.int .u64 (s : Int))).set 1 (.slice av LM.length cv)
        simp only [List.set_cons_zero, List.set_cons_succ] at hB3
        have hw1 : wb + 2 ≤ w1.heap.size := by have := HWB.out; have := hSZ.out; omega
        refine ret_cell_tmp2 Try.results42 rfl hB3 Try.underlying25 rfl net_info rfl ⟨_, ⟨_, _, _, rfl⟩, by show Ending.returned (.tuple #[_, .int .i64 ((l.length : Int) - (LM.length : Int)), _]) = .returned (.tuple #[_, .int .i64 ((l.length - LM.length : Nat) : Int), _]); rw [hsub.out]; rfl, (HQ.out.1.keep x3 (fun k hk => .inl (by simp at hk; omega))).mono (by rw [HWB.out]; omega), HQ.out.2.trans' x3 (fun i hi => .inr (by have := HWB.out; simp at hi; omega))⟩
end Go.Proofs.Ytpdfmeaemlgniaa
