/-
  A net of the call's own: laws for elements of several cells; copyOf.
-/
import Derived.Test.YtpdfmeaemlgniaaNetD
import Derived.Deep.AppendSrc
import Derived.Lib.SliceRun
namespace Go.Proofs.Ytpdfmeaemlgniaa
open Go.RowKit
set_option linter.unusedVariables false

theorem own_blk {w : World} {base e size n : Nat} {v : Value} {xs : List Value} (h : w.ownsRow base e size v n xs) : (v = .slice none 0 0 ∧ n = 0) ∨ ∃ g cap rest, v = .slice (some ⟨g, 0, none⟩) n cap ∧ base ≤ g ∧ Blk w g e (xs ++ rest) ∧ n ≤ cap ∧ cap ≤ maxLen ∧ (xs ++ rest).length = cap * size := by
  rcases h.2 with h2 | ⟨g, cap, cur, rfl, hb, hg, hn, hc, hs, hx⟩
  · exact .inl h2
  · refine .inr ⟨g, cap, cur.toList.drop (n * size), rfl, hb, ?_, hn, hc, ?_⟩
    · unfold Blk
      have : (xs ++ cur.toList.drop (n * size)).toArray = cur := by
        rw [← hx, List.take_append_drop]
      rw [this]; exact hg
    · rw [← hx, List.take_append_drop]; simpa using hs
/-- make([]T, n), T of several cells -/
theorem wpList_make_wide {P : Program} {w : World} {ops : Array Oper} {rest : List Oper} {o : Oper} {a : Act} {Q : Exit → Act → World → Prop}
    {t e : TypeId} {size bytes : Nat} {z : Value} (T : SliceTy P t e size bytes z) (hg : o.guard = none) (l c : Operand) (hop : o.op = Op.makeSlice t l c)
    {kl kc : IntKind} {L C : Int} (n : Nat) (hl : a.eval l = .int kl L) (hc : a.eval c = .int kc C) (hL : L = (n : Int)) (hC : C = (n : Int)) (b2 : bytes * n ≤ 281474976710656) (b3 : n ≤ maxLen)
    (hK : ∀ w' cs, cs.length = n * size → Blk w' w.heap.size e cs → Ext [] w w' → wpList P ops Q rest (a.put o.dst (.slice (some ⟨w.heap.size, 0, none⟩) n n)) w') :
    wpList P ops Q (o :: rest) a w := by
  obtain ⟨i, i1, i2, i3, i4⟩ := T.info
  refine wpList_make_full w hg l c t hop w.heap.size e i z size T.und i1 i2 i3 kl kc L C n hl hc hL hC (by rw [i4]; exact b2) b3 (Nat.le_refl _) fun w' h1 h2 => ?_
  rcases own_blk h1 with ⟨h, _⟩ | ⟨g, cap, rst, h, _, hb, _, _, hlen⟩
  · simp at h
  · simp only [Value.slice.injEq, Option.some.injEq, Addr.mk.injEq, true_and, and_true] at h
    obtain ⟨rfl, rfl⟩ := h
    exact hK w' _ hlen hb (Ext.ofGrown h2)
/-- copy(d, s), T of several cells: d a whole block of the call's own, s whatever slice that fits -/
theorem wpList_copy_wide {P : Program} {w : World} {ops : Array Oper} {rest : List Oper} {o : Oper} {a : Act} {Q : Exit → Act → World → Prop}
    {t e : TypeId} {size bytes : Nat} {z : Value} (T : SliceTy P t e size bytes z) (hgd : o.guard = none) (d s : Operand)
    (ho : o.op = .call { callee := .builtin .copy, args := #[d, s], argTypes := #[t, t] })
    {g n cap m ob : Nat} {cur news : List Value} {vx : Value} (hd : a.eval d = .slice (some ⟨g, 0, none⟩) n cap) (hb : Blk w g e cur) (hx : a.eval s = vx) (hsl : Sl w vx ob size m news) (h1 : ∀ u ∈ news, u.oneCell' = true)
    (hmn : m ≤ n) (hn : n * size ≤ cur.length)
    (h : ∀ w', Blk w' g e (news ++ cur.drop (m * size)) → Ext [g] w w' → wpList P ops Q rest (a.put o.dst (goInt m)) w') : wpList P ops Q (o :: rest) a w := by
  obtain ⟨i, i1, i2, i3, i4⟩ := T.info
  obtain ⟨hl, hsl⟩ := hsl
  have hms := Nat.mul_le_mul_right size hmn
  have hst := run_storeCells_at P g 0 e news 0 cur.toArray w hb (by rw [hl]; simp; omega) h1
  simp only [Nat.add_zero, Nat.zero_add, List.take_zero, List.nil_append, hl] at hst
  have hrun : (Builtin.copy_ #[t, t] o.type #[.slice (some ⟨g, 0, none⟩) n cap, vx]).run P w = .ok (goInt m) (w.setRow g (news ++ cur.drop (m * size)).toArray) := by
    rcases hsl with ⟨rfl, rfl⟩ | ⟨off, sp, c, rfl, hc1, hc2, hsp, hc⟩
    · have hf := run_firstCells_none (P := P) w size 0 0 0
      obtain rfl : news = [] := List.eq_nil_of_length_eq_zero (by simpa using hl)
      simp only [Nat.zero_mul, List.drop_zero] at hst ⊢
      simp only [List.nil_append] at hst ⊢
      simp [Builtin.copy_, run_underlying T.und, Builtin.lenOf, sizeOf, typeInfo, i1, i3, hf, hst]
    · have hf := run_firstCells_some (P := P) w size m ⟨ob, off, sp⟩ m c news hl (fun j u hu => by
        rcases hsp with rfl | rfl
        · rw [Nat.zero_mul] at hl
          have : news = [] := List.eq_nil_of_length_eq_zero hl
          subst this; simp at hu
        · simpa only [add_off] using hc j u hu)
      simp [Builtin.copy_, run_underlying T.und, Builtin.lenOf, sizeOf, typeInfo, i1, i3, Nat.min_eq_left hmn, hf, hst]
  refine wpList_plain hgd fun K hK => ?_
  unfold Oper.wp
  simp [execOp, ho, resolve, invoke, builtin, hd, hx, hrun, Result.andThen]
  refine hK _ _ (h _ ?_ ⟨rfl, rfl, rfl, by simp [World.setRow], fun k hk hx => setRow_other w g k _ (by simpa using hx)⟩)
  exact setRow_heap w g cur.toArray (news ++ cur.drop (m * size)).toArray e (0, 0) hb
/-- the end of a function whose result is a struct in memory -/
theorem ret_cell {P : Program} {fn : Func} {R : Ending → World → Prop} {a : Act} {w : World} {p : Tmp} {ty t : TypeId} {g : Nat} {cs : List Value} {d : TypeDesc}
    (hres : fn.results = #[.cell p ty]) (hp : a.tmps.getD p undef = .pointer (some ⟨g, 0, none⟩)) (hg : Blk w g t cs) (hu : P.underlying ty = some d)
    (hd : (match d with | .struct _ | .array _ _ => true | _ => false) = true) (hi : (P.info? ty).map (·.size) = some cs.length) (hdf : a.defers = [])
    (hR : R (.returned (.agg cs.toArray)) w) : bodyPost P fn R .ret a w :=
  bodyPost_ret (results_cell_row hres _ _ g t cs.toArray (0, 0) d hp hg hu hd (by simpa using hi)) hdf hR
theorem net_info : (Try.prog.info? 25).map (·.size) = some 2 := by kernel_rfl
theorem par_info : (Try.prog.info? 33).map (·.size) = some 5 := by kernel_rfl
/-- blocks of the call's own of two types are two -/
theorem own_ne {w : World} {A e size n : Nat} {v : Value} {xs : List Value} (h : w.ownsRow A e size v n xs) {g : Nat} {e' : TypeId} {cs : List Value} (hb : Blk w g e' cs) (hne : e' ≠ e) : ∀ k, v.ownBlock = some k → k ∉ [g] := by
  intro k hk m
  obtain rfl : k = g := by simpa using m
  obtain ⟨_, _, cs', hh⟩ := own_block h hk
  unfold Blk at hb
  rw [hb] at hh; cases hh; exact hne rfl
/-- what copyOf has laid after k rounds -/
structure Laid (A : Nat) (w : World) (rs rk : List PRaw) (l : List Par) (k : Nat) : Prop where
  is : ∀ (j : Nat) r p, j < k → rk[j]? = some r → l[j]? = some p → OIs A w r p
  sep : ∀ (i j : Nat) r r', i < k → j < k → rk[i]? = some r → rk[j]? = some r' → i ≠ j → ∀ b, r.b.ownBlock = some b → r'.b.ownBlock ≠ some b
  rest : ∀ j, k ≤ j → rk[j]? = rs[j]?
theorem Laid.step {A g k : Nat} {w w' : World} {rs rk : List PRaw} {l : List Par} {r : PRaw} {p : Par} {v' : Value} {cs : List Value} (h : Laid A w rs rk l k) (hA : A ≤ w.heap.size) (hrk : rk.length = l.length) (hr : rk[k]? = some r) (hp : l[k]? = some p)
    (hR : PIs [] w r p) (hN : NewB w w' v' p.bs) (hE : Ext [] w w') (hg : Blk w' g 33 cs) (i : Nat) (u : Value) :
    Laid A (w'.setCell ⟨g, i, none⟩ u) rs (rk.set k { r with b := v' }) l (k + 1) := by
  have hlk := (List.getElem?_eq_some_iff.1 hr).1
  have hS := (Ext.refl [g] w').setCell (p := ⟨g, i, none⟩) (.inl (by simp)) u
  refine ⟨fun j r' p' hj hr' hp' => ?_, fun i' j r1 r2 hi' hj h1 h2 hne b hb => ?_, fun j hj => ?_⟩
  · by_cases e : j = k
    · subst e
      rw [List.getElem?_set_self hlk] at hr'
      rw [hp] at hp'
      obtain rfl := Option.some.inj hr'
      obtain rfl := Option.some.inj hp'
      obtain ⟨h1, h2, h3, h4, _⟩ := hR
      exact ⟨h1, h2, h3, h4, own_ext (own_mono hN hA) hS (own_ne hN hg (by decide))⟩
    · rw [List.getElem?_set_ne (by omega)] at hr'
      have ho := h.is j r' p' (by omega) hr' hp'
      have ho' := ho.keep hE (fun b _ => by simp)
      exact ho'.keep hS (own_ne ho'.2.2.2.2 hg (by decide))
  · have hold : ∀ (j : Nat) q, j < k → rk[j]? = some q → ∀ c, q.b.ownBlock = some c → c < w.heap.size := by
      intro j q hj hq c hc
      have hjl := (List.getElem?_eq_some_iff.1 hq).1
      exact (own_block (h.is j q _ hj hq (List.getElem?_eq_getElem (by omega))).2.2.2.2 hc).2.1
    have hnew : ∀ c, v'.ownBlock = some c → w.heap.size ≤ c := fun c hc => (own_block hN hc).1
    by_cases e1 : i' = k
    · subst e1
      rw [List.getElem?_set_self hlk] at h1
      obtain rfl := Option.some.inj h1
      rw [List.getElem?_set_ne (by omega)] at h2
      intro hb2
      have := hold j r2 (by omega) h2 b hb2
      have := hnew b hb
      omega
    · rw [List.getElem?_set_ne (by omega)] at h1
      by_cases e2 : j = k
      · subst e2
        rw [List.getElem?_set_self hlk] at h2
        obtain rfl := Option.some.inj h2
        intro hb2
        have := hold i' r1 (by omega) h1 b hb
        have := hnew b hb2
        omega
      · rw [List.getElem?_set_ne (by omega)] at h2
        exact h.sep i' j r1 r2 (by omega) (by omega) h1 h2 hne b hb
  · rw [List.getElem?_set_ne (by omega)]
    exact h.rest j (by omega)
theorem prow_b (r : PRaw) (v : Value) : PRaw.row { r with b := v } = r.row.set 3 v := rfl
theorem blk_prow {w : World} {b : Nat} {e : TypeId} {rs : List PRaw} {rest : List Value} (h : Blk w b e (prows rs ++ rest)) (k : Nat) (r : PRaw) (hr : rs[k]? = some r) :
    w.cell? ⟨b, k * 5, none⟩ = some (.int .u64 (r.num : Int)) ∧ w.cell? ⟨b, k * 5 + 1, none⟩ = some (.int .i64 r.fr) ∧ w.cell? ⟨b, k * 5 + 2, none⟩ = some (.int .i64 r.to) ∧ w.cell? ⟨b, k * 5 + 3, none⟩ = some r.b ∧ w.cell? ⟨b, k * 5 + 4, none⟩ = some (.bool r.sp) := by
  have hlt := (List.getElem?_eq_some_iff.1 hr).1
  have hc : ∀ j, j < 5 → w.cell? ⟨b, k * 5 + j, none⟩ = r.row[j]? := fun j hj => by
    rw [h.cell, List.getElem?_append_left (by rw [flat_length wideP]; omega), flat_at wideP rs k r hr j hj]
  exact ⟨hc 0 (by decide), hc 1 (by decide), hc 2 (by decide), hc 3 (by decide), hc 4 (by decide)⟩
set_option maxRecDepth 100000 in
set_option maxHeartbeats 4000000 in
theorem copyOf_any (w : World) (s : Nat) (v : Value) (l : List Par) (hP : Ps w v l) (hl : l.length ≤ 100000) (hb : ∀ p ∈ l, p.bs.length ≤ 100000) :
    Calls Try.prog 69 #[NV s v] w fun e w' => (∃ v' rs', e = .returned (NV s v') ∧ OPs w.heap.size w' v' l rs') ∧ Ext [] w w' := by
  obtain ⟨a, c, rfl⟩ := hP.shape
  have hE1 := (Ext.refl [] w).alloc (.cells #[.int .u64 (s : Int), .slice a l.length c] 25)
  have hE2 := (Ext.refl [] (w.alloc (.cells #[.int .u64 (s : Int), .slice a l.length c] 25))).alloc (.cells #[.int .u64 0, .slice none 0 0] 25)
  have hE := hE1.trans hE2
  have hN := (Blk.new w [.int .u64 (s : Int), .slice a l.length c] 25).ext hE2 (by simp)
  have hR := Blk.new (w.alloc (.cells #[.int .u64 (s : Int), .slice a l.length c] 25)) [.int .u64 0, .slice none 0 0] 25
  simp only [World.size_alloc] at hR
  obtain ⟨ob, rs, hRs, hRI⟩ := hP.ext hE
  have hrl := hRI.1
  clear hP hE1 hE2
  go_enter Try.func69, Try.ntmps69
  go_upto_region 1 with (fail)
  generalize (w.alloc (.cells #[.int .u64 (s : Int), .slice a l.length c] 25)).alloc (.cells #[.int .u64 0, .slice none 0 0] 25) = W at *
  generalize hwb : w.heap.size = wb at *
  have HWB := Lib.hid hwb
  clear hwb
  obtain ⟨n0, n1⟩ := hN.c2
  have hl5 : (prows rs).length = l.length * 5 := by rw [flat_length wideP, hrl]
  have hsrc : Sl W (.slice a l.length c) ob 5 l.length (prows rs) := by have := hRs; unfold Rs at this; rwa [hrl] at this
  go_wp2_with (first
    | (at_make; refine wpList_make_wide TPar rfl _ _ rfl l.length rfl rfl rfl rfl (by omega) (by unfold maxLen; omega) ?_; intro W1 cs hcs hg xg; have n1 := cells_ext xg n1)
    | ((with_reducible refine at_copy ?_); refine wpList_copy_wide TPar rfl _ _ rfl rfl hg rfl (hsrc.ext xg (by simp)) (prows_one hRI) (Nat.le_refl _) (by omega) ?_; intro W2 hg2 xg2))
  rw [List.drop_eq_nil_of_le (by omega), List.append_nil] at hg2
  generalize hgg : W.heap.size = g at *
  have hA : w.heap.size ≤ W.heap.size := hE.size
  have hgw := hg.lt
  have hX2 : Ext [] W W2 := xg.trans' xg2 (fun i hi => .inr (by simp at hi; omega))
  have HG := Lib.hid hgg
  have HL5 := Lib.hid hl5
  have HRL := Lib.hid hrl
  have hrl2 : rs.length ≤ l.length := by omega
  clear hg xg hcs hsrc hgg hl5 hrl xg2 n1
  go_loopw [4, 15] (fun _ i wr => ∃ (k : Nat) (rk : List PRaw), i = .int .i64 k ∧ k ≤ l.length ∧ Blk wr g 33 (prows rk) ∧ Ext [] W wr ∧ Hid (rk.length = l.length ∧ Laid w.heap.size wr rs rk l k)) (fun _ i _ => l.length - (intOf i).toNat)
  case atStart => exact ⟨0, rs, rfl, by omega, hg2, hX2, ⟨HRL.out, ⟨fun j r p h => by omega, fun i j r r' h => by omega, fun _ _ => rfl⟩⟩⟩
  case round =>
    clear hX2 hg2
    obtain ⟨k, rk, rfl, hk, hB, hX, hI⟩ := hrel
    by_cases hlt : k < l.length
    · have hp : l[k]? = some l[k] := List.getElem?_eq_getElem hlt
      have hr0 : rs[k]? = some (rs[k]'(by rw [HRL.out]; exact hlt)) := List.getElem?_eq_getElem _
      have hbl := hb l[k] (List.getElem_mem _)
      generalize rs[k]'(by rw [HRL.out]; exact hlt) = r at *
      generalize l[k] = p at *
      have hPI := (hRI.2 k r p hr0 hp).keep hX
      obtain ⟨a1, c1, rfl⟩ := hPI.shape
      have hr : rk[k]? = some _ := (hI.out.2.rest k (Nat.le_refl _)).trans hr0
      have hBs := hPI.2.2.2.2
      obtain ⟨oc, _, hBs⟩ := hBs
      dsimp only at hBs
      have hc3 : wr.cell? ⟨g, k * 5 + 3, none⟩ = some (.slice a1 p.bs.length c1) := (blk_prow (rest := []) (by simpa using hB) k _ hr).2.2.2.1
      have cl := clone_any wr _ oc p.bs hBs (by omega)
      have HST := Lib.hid (fun v' w' => hI.out.2.step (w := wr) (w' := w') (v' := v') (by have := hX.size; omega) hI.out.1 hr hp hPI (cs := prows rk) (g := g))
      have HI := Lib.hid (And.intro hI.out.1 (And.intro hr hp))
      clear hI hr hp hr0 hPI hBs
      have hgw := hB.lt
      have hgk : k * 5 + 3 < (prows rk).length := by rw [flat_length wideP, HI.out.1]; omega
      go_wp2_with (first
        | (go_at_call 65; (with_reducible refine cl.mono ?_); rintro e W3 ⟨v3, rfl, hN3, x3⟩; obtain ⟨a3, m3, rfl⟩ := own_shape hN3; have hB3 := hB.ext x3 (by simp); have z3 := hB3.frozen (k * 5 + 3); have y3 := cells_ext x3 hc3))
      have HST := HST.out (.slice a3 p.bs.length m3) W3 hN3 x3 hB3 (k * 5 + 3) (.slice a3 p.bs.length m3)
      have hB4 := hB3.set (k * 5 + 3) (.slice a3 p.bs.length m3)
      have hfs := flat_set wideP rk [] k _ _ 3 (.slice a3 p.bs.length m3) HI.out.2.1 (by decide) (prow_b _ (.slice a3 p.bs.length m3))
      rw [List.append_nil, List.append_nil] at hfs
      rw [hfs] at hB4
      have hX4 : Ext [] W (W3.setCell ⟨g, k * 5 + 3, none⟩ (.slice a3 p.bs.length m3)) := (hX.trans x3).trans' ((Ext.refl [g] W3).setCell (p := ⟨g, k * 5 + 3, none⟩) (.inl (by simp)) (.slice a3 p.bs.length m3)) (fun i hi => .inr (by have := HG.out; simp at hi; omega))
      have HH := Lib.hid (And.intro hB4 (And.intro hX4 (And.intro (show (rk.set k ⟨p.num, p.fr, p.to, .slice a3 p.bs.length m3, p.sp⟩).length = l.length by rw [List.length_set]; exact HI.out.1) HST)))
      clear hB4 hX4 HST hfs hB3 z3 y3 hN3
      go_wp2_with (fail)
      go_roundw
      case rel => exact ⟨k + 1, _, by go_num, by omega, HH.out.1, HH.out.2.1, HH.out.2.2.1, HH.out.2.2.2⟩
      case measure => simp [intOf]; omega
    · obtain rfl : k = l.length := by omega
      have hN' := hN.ext hX (by simp)
      have hR' := hR.ext hX (by simp)
      have hsl : OPs w.heap.size wr (.slice (some ⟨g, 0, none⟩) l.length l.length) l rk := by
        have hlk := hI.out.1
        have h5 : (prows rk).length = l.length * 5 := by rw [flat_length wideP, hlk]
        refine ⟨?_, ⟨hlk, fun j r p h1 h2 => hI.out.2.is j r p (List.getElem?_eq_some_iff.1 h2).1 h1 h2⟩, fun i j r r' h1 h2 hne => hI.out.2.sep i j r r' (by have := (List.getElem?_eq_some_iff.1 h1).1; omega) (by have := (List.getElem?_eq_some_iff.1 h2).1; omega) h1 h2 hne⟩
        have := hB.owns (base := w.heap.size) (size := 5) (n := l.length) (cap := l.length) (by have := HG.out; omega) h5 (Nat.le_refl _) (by unfold maxLen; omega)
        rw [List.take_of_length_le (by omega), ← hlk] at this
        rwa [hlk] at this ⊢
      have hwbg := HWB.out
      have hXX := hE.trans hX
      have HS := Lib.hid (And.intro hsl hXX)
      obtain ⟨m0, m1⟩ := hN'.c2
      have mf := hN'.frozen
      obtain ⟨r0, r1⟩ := hR'.c2
      have rf := hR'.frozen
      have q := hN'.set 1 (.slice (some ⟨g, 0, none⟩) l.length l.length)
      have q2 : Blk (wr.setCell ⟨wb, 1, none⟩ (.slice (some ⟨g, 0, none⟩) l.length l.length)) (wb + 1) 25 [.int .u64 0, .slice none 0 0] := hR'.other _ (by simp) _
      clear hsl hXX hI
      go_wp2_with (fail)
      have x1 := (Ext.refl [wb] wr).setCell (p := ⟨wb, 1, none⟩) (.inl (by simp)) (.slice (some ⟨g, 0, none⟩) l.length l.length)
      have x2 := ((Ext.refl [wb + 1] (wr.setCell ⟨wb, 1, none⟩ (.slice (some ⟨g, 0, none⟩) l.length l.length))).setCell (p := ⟨wb + 1, 0, none⟩) (.inl (by simp)) (.int .u64 (s : Int))).setCell (p := ⟨wb + 1, 1, none⟩) (.inl (by simp)) (.slice (some ⟨g, 0, none⟩) l.length l.length)
      refine ret_cell Try.results69 rfl ((q2.set 0 (.int .u64 (s : Int))).set 1 (.slice (some ⟨g, 0, none⟩) l.length l.length)) Try.underlying25 rfl net_info rfl ⟨⟨_, rk, rfl, ?_⟩, ?_⟩
      · exact (HS.out.1.other hN' (by decide) (by decide) x1).other q2 (by decide) (by decide) x2
      · exact (HS.out.2.trans' x1 (fun i hi => .inr (by simp at hi; omega))).trans' x2 (fun i hi => .inr (by simp at hi; omega))
end Go.Proofs.Ytpdfmeaemlgniaa
