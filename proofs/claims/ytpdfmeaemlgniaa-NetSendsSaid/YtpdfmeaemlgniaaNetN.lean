/-
  Come and Lose.
-/
import Derived.Test.YtpdfmeaemlgniaaNetL
namespace Go.Proofs.Ytpdfmeaemlgniaa
open Go.RowKit
set_option linter.unusedVariables false
set_option linter.unusedSimpArgs false
theorem own_nets {A e size n : Nat} {u : Value} {xs : List Value} {w0 w w' : World} (ho : w.ownsRow A e size u n xs) (hne : e ≠ 25) (hn : NetX w0 w w') : w'.ownsRow A e size u n xs := by
  obtain ⟨X, he, hX⟩ := hn
  refine own_ext ho he fun k hk m => ?_
  obtain ⟨_, hlt, cs', hh⟩ := own_block ho hk
  rcases (hX k m).2 with h7 | ⟨cs, h7⟩
  · omega
  · unfold Blk at h7
    rw [h7] at hh; cases hh; exact hne rfl
theorem OIs.nets {A : Nat} {w0 w w' : World} {r : PRaw} {p : Par} (h : OIs A w r p) (hn : NetX w0 w w') : OIs A w' r p := ⟨h.1, h.2.1, h.2.2.1, h.2.2.2.1, own_nets h.2.2.2.2 (by decide) hn⟩
theorem NetX.blk {w0 w1 w' : World} {g : Nat} {e : TypeId} {cs : List Value} (h : NetX w0 w1 w') (hg : Blk w1 g e cs) (hl : g < w0.heap.size) : Blk w' g e cs := by
  obtain ⟨X, he, hX⟩ := h
  exact hg.ext he fun m => by have := (hX g m).1; omega
/-- apart from these -/
def Apart (r : PRaw) (rs : List PRaw) : Prop := ∀ (k : Nat) q, rs[k]? = some q → ∀ c, q.b.ownBlock = some c → r.b.ownBlock ≠ some c
def zRaw : PRaw := ⟨0, 0, 0, .slice none 0 0, false⟩
theorem zRaw_is (A : Nat) (w : World) : OIs A w zRaw zPar := ⟨rfl, rfl, rfl, rfl, World.ownsRow_nil _ _ _ _⟩
theorem zRaw_apart (rs : List PRaw) : Apart zRaw rs := fun k q hq c hc e => by cases e
theorem ChangedAt.come {A pc : Nat} {w w' : World} {n : Nt} {T : Told} {e : Ending} (h : ChangedAt w (right n) T.e [pc] (DC A pc T) e w') (hz : T.e ≠ 0 → T.n = zNt ∧ T.p = zPar) (hpc : Blk w pc 33 zPV.cells.toList) :
    ∃ v' rs' r, (∃ a' n' c', v' = .slice a' n' c') ∧ e = .returned (.tuple #[NV (ofM n T).n.s v', .int .i64 (ofM n T).e]) ∧ OPs A w' v' (ofM n T).n.ps rs' ∧ Blk w' pc 33 r.row ∧ OIs A w' r (ofM n T).p ∧ Apart r rs' ∧ Ext [pc] w w' := by
  have hl := hpc.lt
  unfold ofM
  cases hr : right n
  · rw [if_neg (by simp)]
    obtain ⟨rfl, x⟩ := h.1 hr
    exact ⟨.slice none 0 0, [], zRaw, ⟨_, _, _, rfl⟩, rfl, OPs.nil _ _, hpc.ext x (by simp), zRaw_is _ _, zRaw_apart _, x.mono (by simp)⟩
  · rw [if_pos rfl]
    obtain ⟨w1, s1, v1, y, x, hs, hd, rfl⟩ := h.2 hr
    by_cases h0 : T.e = 0
    · rw [if_pos h0]
      obtain ⟨rfl, rs', r, ho, hb, hi, ha⟩ := hd.1 h0
      exact ⟨v1, rs', r, hs, rfl, ho.nets y, y.blk hb hl, hi.nets y, ha, y.old x⟩
    · rw [if_neg h0, (hz h0).1, (hz h0).2]
      exact ⟨.slice none 0 0, [], zRaw, ⟨_, _, _, rfl⟩, rfl, OPs.nil _ _, y.blk (hd.2 h0) hl, zRaw_is _ _, zRaw_apart _, y.old x⟩
/-- the answer of Come -/
def AnsC (w : World) (T : Told) : Ending → World → Prop := fun e w' => ∃ v' rs' r, (∃ a' n' c', v' = .slice a' n' c') ∧ e = .returned (.tuple #[NV T.n.s v', PV r.num r.fr r.to r.b r.sp, .int .i64 T.e]) ∧ OPs w.heap.size w' v' T.n.ps rs' ∧ OIs w.heap.size w' r T.p ∧ Apart r rs' ∧ Ext [] w w'
set_option maxRecDepth 100000 in
set_option maxHeartbeats 4000000 in
theorem Come_any (w : World) (s k : Nat) (v : Value) (l : List Par) (hP : Ps w v l) :
    Calls Try.prog 37 #[NV s v, .int .u64 (k : Int)] w (AnsC w (ofM ⟨s, l⟩ (comeM ⟨s, l⟩ k))) := by
  obtain ⟨a, c, rfl⟩ := hP.shape
  have e1 := (Ext.refl [] w).alloc (.cells #[.int .u64 (s : Int), .slice a l.length c] 25)
  have e2 := (Ext.refl [] (w.alloc (.cells #[.int .u64 (s : Int), .slice a l.length c] 25))).alloc (.cells #[.int .u64 0, .slice none 0 0] 25)
  have e3 := (Ext.refl [] ((w.alloc (.cells #[.int .u64 (s : Int), .slice a l.length c] 25)).alloc (.cells #[.int .u64 0, .slice none 0 0] 25))).alloc (.cells #[.int .u64 0, .int .i64 0, .int .i64 0, .slice none 0 0, .bool false] 33)
  have e4 := (Ext.refl [] (((w.alloc (.cells #[.int .u64 (s : Int), .slice a l.length c] 25)).alloc (.cells #[.int .u64 0, .slice none 0 0] 25)).alloc (.cells #[.int .u64 0, .int .i64 0, .int .i64 0, .slice none 0 0, .bool false] 33))).alloc (.cells #[.int .u64 0, .int .i64 0, .int .i64 0, .slice none 0 0, .bool false] 33)
  have b1 := (Blk.new w [.int .u64 (s : Int), .slice a l.length c] 25).ext ((e2.trans e3).trans e4) (by simp)
  have b5 := (Blk.new (w.alloc (.cells #[.int .u64 (s : Int), .slice a l.length c] 25)) [.int .u64 0, .slice none 0 0] 25).ext (e3.trans e4) (by simp)
  have b6 := (Blk.new ((w.alloc (.cells #[.int .u64 (s : Int), .slice a l.length c] 25)).alloc (.cells #[.int .u64 0, .slice none 0 0] 25)) [.int .u64 0, .int .i64 0, .int .i64 0, .slice none 0 0, .bool false] 33).ext e4 (by simp)
  have b7 := Blk.new (((w.alloc (.cells #[.int .u64 (s : Int), .slice a l.length c] 25)).alloc (.cells #[.int .u64 0, .slice none 0 0] 25)).alloc (.cells #[.int .u64 0, .int .i64 0, .int .i64 0, .slice none 0 0, .bool false] 33)) [.int .u64 0, .int .i64 0, .int .i64 0, .slice none 0 0, .bool false] 33
  have hE := ((e1.trans e2).trans e3).trans e4
  simp only [World.size_alloc] at b5 b6 b7
  have hP := hP.ext hE
  have hsz : ((((w.alloc (.cells #[.int .u64 (s : Int), .slice a l.length c] 25)).alloc (.cells #[.int .u64 0, .slice none 0 0] 25)).alloc (.cells #[.int .u64 0, .int .i64 0, .int .i64 0, .slice none 0 0, .bool false] 33)).alloc (.cells #[.int .u64 0, .int .i64 0, .int .i64 0, .slice none 0 0, .bool false] 33)).heap.size = w.heap.size + 4 := by simp
  clear e1 e2 e3 e4
  have ch := changedAt_Come ((((w.alloc (.cells #[.int .u64 (s : Int), .slice a l.length c] 25)).alloc (.cells #[.int .u64 0, .slice none 0 0] 25)).alloc (.cells #[.int .u64 0, .int .i64 0, .int .i64 0, .slice none 0 0, .bool false] 33)).alloc (.cells #[.int .u64 0, .int .i64 0, .int .i64 0, .slice none 0 0, .bool false] 33)) s k _ l hP #[pt (w.heap.size + 1 + 1 + 1)] (comeM ⟨s, l⟩ k).e [w.heap.size + 1 + 1 + 1] (by simp) (DC ((((w.alloc (.cells #[.int .u64 (s : Int), .slice a l.length c] 25)).alloc (.cells #[.int .u64 0, .slice none 0 0] 25)).alloc (.cells #[.int .u64 0, .int .i64 0, .int .i64 0, .slice none 0 0, .bool false] 33)).alloc (.cells #[.int .u64 0, .int .i64 0, .int .i64 0, .slice none 0 0, .bool false] 33)).heap.size (w.heap.size + 1 + 1 + 1) (comeM ⟨s, l⟩ k)) (fun hn => by
      have : comeM ⟨s, l⟩ k = { e := 4 } := atM_none hn
      rw [this]
      exact ⟨rfl, fun _ _ _ x => ⟨fun h => (by cases h), fun _ => b7.ext x (by simp)⟩⟩)
    (fun hr b S W' vv rs x hb1 hb2 hs hN hO W'' i p x2 hp hnum hf => by
      have : comeM ⟨s, l⟩ k = { n := ⟨s, l.eraseIdx i⟩, p := p } := atM_some hf hp
      rw [this]
      refine (come1_any W'' b S s i (w.heap.size + 1 + 1 + 1) vv l rs p _ _ _ _ _ (hN.ext x2 (by simp)) (hO.ext x2) hb2 hp ((b7.ext x (by simp)).ext x2 (by simp)) (by omega)).mono ?_
      rintro e w' ⟨s', v', h1, h2, h3, h4, h5⟩
      refine ⟨s', v', h1, h2, h3, ⟨fun hz => ?_, h4.2⟩, h5⟩
      obtain ⟨h6, rs', r, h7, h8, h9, h10⟩ := h4.1 hz
      exact ⟨h6, rs', r, h7.mono (by omega), h8, h9.mono (by omega), h10⟩)
  have hz : (comeM ⟨s, l⟩ k).e ≠ 0 → (comeM ⟨s, l⟩ k).n = zNt ∧ (comeM ⟨s, l⟩ k).p = zPar := by
    rcases atM_cases ⟨s, l⟩ k with ⟨i, p, h1, h2⟩ | h1
    · rw [show comeM ⟨s, l⟩ k = { n := ⟨s, l.eraseIdx i⟩, p := p } from atM_some h1 h2]; exact fun h => absurd rfl h
    · rw [show comeM ⟨s, l⟩ k = { e := 4 } from atM_none h1]; exact fun _ => ⟨rfl, rfl⟩
  have ch := ch.mono fun e w' h => ChangedAt.come (A := ((((w.alloc (.cells #[.int .u64 (s : Int), .slice a l.length c] 25)).alloc (.cells #[.int .u64 0, .slice none 0 0] 25)).alloc (.cells #[.int .u64 0, .int .i64 0, .int .i64 0, .slice none 0 0, .bool false] 33)).alloc (.cells #[.int .u64 0, .int .i64 0, .int .i64 0, .slice none 0 0, .bool false] 33)).heap.size) h hz b7
  rw [hsz] at ch
  unfold AnsC
  generalize ofM ⟨s, l⟩ (comeM ⟨s, l⟩ k) = T at *
  clear hz hP
  go_enter Try.func37, Try.ntmps37
  go_upto_region 2 with (fail)
  generalize ((((w.alloc (.cells #[.int .u64 (s : Int), .slice a l.length c] 25)).alloc (.cells #[.int .u64 0, .slice none 0 0] 25)).alloc (.cells #[.int .u64 0, .int .i64 0, .int .i64 0, .slice none 0 0, .bool false] 33)).alloc (.cells #[.int .u64 0, .int .i64 0, .int .i64 0, .slice none 0 0, .bool false] 33)) = W at *
  generalize hwb : w.heap.size = wb at *
  have HWB := Lib.hid hwb
  clear hwb
  obtain ⟨n0, n1⟩ := b1.c2
  go_upto_region 3 with (go_at_call 55; (with_reducible refine ch.mono ?_); rintro e w1 ⟨v1, rs1, r1, ⟨a1, n1, c1, rfl⟩, rfl, hO1, hB1, hI1, hA1, x1⟩; have b5 := b5.ext x1 (by simp); have b6 := b6.ext x1 (by simp); obtain ⟨ra, rc, hrb⟩ := own_shape hI1.2.2.2.2)
  obtain ⟨rn, rf', rt, rb, rsp⟩ := r1
  dsimp only at hrb
  subst hrb
  rw [prow_row] at hB1
  dsimp only at hB1
  have e2 := (Ext.refl [] w1).alloc (.cells #[.int .u64 (T.n.s : Int), .slice a1 n1 c1] 25)
  have d2 := Blk.new w1 [.int .u64 (T.n.s : Int), .slice a1 n1 c1] 25
  have b5 := b5.ext e2 (by simp)
  have b6 := b6.ext e2 (by simp)
  have hB1 := hB1.ext e2 (by simp)
  have hO2 := hO1.ext e2
  have hI2 := hI1.keep e2 (fun _ _ => by simp)
  have hlt := (b6).lt
  have hlt1 := x1.size
  generalize w1.alloc (.cells #[.int .u64 (T.n.s : Int), .slice a1 n1 c1] 25) = W2 at *
  obtain ⟨d0, d1⟩ := d2.c2
  obtain ⟨r0, r1⟩ := b5.c2
  have rf := b5.frozen
  obtain ⟨p0, p1, p2, p3, p4⟩ := b6.c5
  have pf := b6.frozen
  obtain ⟨q0, q1, q2, q3, q4⟩ := hB1.c5
  go_region
  have x3 := ((Ext.refl [wb + 1] W2).setCell (p := ⟨wb + 1, 0, none⟩) (.inl (by simp)) (.int .u64 (T.n.s : Int))).setCell (p := ⟨wb + 1, 1, none⟩) (.inl (by simp)) (.slice a1 n1 c1)
  have hB3 := (b5.set 0 (.int .u64 (T.n.s : Int))).set 1 (.slice a1 n1 c1)
  simp only [List.set_cons_zero, List.set_cons_succ] at hB3
  have b63 := b6.ext x3 (by simp)
  have hO3 := hO2.other b5 (by decide) (by decide) x3
  have hI3 := hI2.keep x3 (own_ne hI2.2.2.2.2 b5 (by decide))
  have hX3 := ((hE.trans' x1 (fun i hi => .inr (by have := HWB.out; simp at hi; omega))).trans e2).trans' x3 (fun i hi => .inr (by have := HWB.out; simp at hi; omega))
  generalize (W2.setCell ⟨wb + 1, 0, none⟩ (.int .u64 (T.n.s : Int))).setCell ⟨wb + 1, 1, none⟩ (.slice a1 n1 c1) = W3 at *
  have x4 := (((((Ext.refl [wb + 1 + 1] W3).setCell (p := ⟨wb + 1 + 1, 0, none⟩) (.inl (by simp)) (.int .u64 (rn : Int))).setCell (p := ⟨wb + 1 + 1, 1, none⟩) (.inl (by simp)) (.int .i64 rf')).setCell (p := ⟨wb + 1 + 1, 2, none⟩) (.inl (by simp)) (.int .i64 rt)).setCell (p := ⟨wb + 1 + 1, 3, none⟩) (.inl (by simp)) (.slice ra T.p.bs.length rc)).setCell (p := ⟨wb + 1 + 1, 4, none⟩) (.inl (by simp)) (.bool rsp)
  have hB4 := ((((b63.set 0 (.int .u64 (rn : Int))).set 1 (.int .i64 rf')).set 2 (.int .i64 rt)).set 3 (.slice ra T.p.bs.length rc)).set 4 (.bool rsp)
  simp only [List.set_cons_zero, List.set_cons_succ] at hB4
  have hN4 := hB3.ext x4 (by simp)
  have hO4 := hO3.keep x4 (by intro k hk; simp at hk; omega)
  have hI4 := hI3.keep x4 (own_ne hI3.2.2.2.2 b63 (by decide))
  have hX4 := hX3.trans' x4 (fun i hi => .inr (by have := HWB.out; simp at hi; omega))
  have HH := Lib.hid (And.intro hB4 (And.intro hN4 (And.intro hO4 (And.intro hI4 hX4))))
  clear hB4 hN4 hO4 hI4 hX4 x3 x4 hO3 hI3 hX3 b63 hB3 ch
  go_wp2_with (fail)
  refine ret_cell_cell_tmp Try.results37 rfl (Blk.drew HH.out.2.1) Try.underlying25 rfl net_info rfl (Blk.drew HH.out.1) Try.underlying33 rfl par_info rfl ⟨_, rs1, ⟨rn, rf', rt, .slice ra T.p.bs.length rc, rsp⟩, ⟨_, _, _, rfl⟩, rfl, ?_, ?_, hA1, HH.out.2.2.2.2.drew⟩
  · rw [HWB.out]
    exact (HH.out.2.2.1.ext ((Ext.refl [] _).drew)).mono (by omega)
  · rw [HWB.out]
    exact (HH.out.2.2.2.1.keep ((Ext.refl [] _).drew) (fun _ _ => by simp)).mono (by omega)
end Go.Proofs.Ytpdfmeaemlgniaa
