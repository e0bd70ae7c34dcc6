
/-
  NetDoes's walk (written by wip/gen/does.py).
-/
import Derived.Test.YtpdfmeaemlgniaaNetWb
import Derived.Test.YtpdfmeaemlgniaaNetDoM
import Derived.Test.YtpdfmeaemlgniaaNetOps
import Derived.Test.YtpdfmeaemlgniaaNetW
import Derived.Test.YtpdfmeaemlgniaaHeld
import Derived.Deep.DeepCutAuto
namespace Go.Proofs.Ytpdfmeaemlgniaa
open Go.RowKit
open Go.Lib hiding intOf
set_option linter.unusedVariables false
set_option linter.unusedSimpArgs false
theorem HeldBut.each {P : Program} {ops : Array Oper} {Q : Exit → Act → World → Prop} {md : Region.Mode} {S : World → Prop} {D : List Nat} {n : Nat} {listed : Array Bool} {a : Act} {w : World} (l : List Nat) (hr : Region.ready md ops listed = l) (hne : l.isEmpty = false)
    (h : ∀ i ∈ l, wpOp P ops Q i (fun b u => (i ∉ D → S u) ∧ HeldBut P md ops Q S D n (listed.setIfInBounds i true) b u) a w) : HeldBut P md ops Q S D (n + 1) listed a w :=
  ⟨fun h0 => (by rw [hr] at h0; subst h0; cases hne), fun j hj => (by rw [hr] at hj; exact h j hj)⟩
theorem one_told (x0 x2 x3 : Int) (a1 : Option Addr) (n1 c1 : Nat) (x4 x5 : Int) (a6 : Option Addr) (n6 c6 : Nat) (x7 : Bool) (x8 x9 : Int) : ∀ u ∈ [Value.int .u64 x0, .slice a1 n1 c1, .int .u64 x2, .int .u64 x3, .int .i64 x4, .int .i64 x5, .slice a6 n6 c6, .bool x7, .int .i64 x8, .int .i64 x9], u.oneCell' = true := by
  intro u hu
  simp at hu
  rcases hu with rfl | rfl | rfl | rfl | rfl | rfl | rfl | rfl | rfl | rfl <;> rfl
theorem step_store_blk {P : Program} {w : World} {ops : Array Oper} {o : Oper} {a : Act} {K : Act → World → Prop} {Q : Exit → Act → World → Prop} {E : Prop}
    (hgd : o.guard = none) (ty : TypeId) (x y : Operand) (ho : o.op = .store ty x y) (hd : o.dst = none)
    {g : Nat} {t : TypeId} {old cells : List Value} (hx : a.eval x = .pointer (some ⟨g, 0, none⟩)) (hy : a.eval y = .agg cells.toArray) (hB : Blk w g t old) (hi : (P.info? ty).map (·.size) = some cells.length) (hold : old.length = cells.length)
    (h1 : ∀ u ∈ cells, u.oneCell' = true) (h : ∀ w', Blk w' g t cells → Ext [g] w w' → K a w') : if Region.wanted o (yielded ops a.tmps) = true then Oper.wp P o a w K Q else E := by
  have hw : Region.wanted o (yielded ops a.tmps) = true := by simp [Region.wanted, hgd]
  rw [if_pos hw]
  refine wp_store_row ty x y ho g cells.toArray hx hy t old.toArray hB (by simpa using hi) (by simpa using hold) (by simpa using h1) ?_
  rw [hd]
  refine h _ ?_ ⟨rfl, rfl, rfl, by simp [World.setRow], fun k hk hx => setRow_other w g k _ (by simpa using hx)⟩
  have := setRow_heap w g old.toArray cells.toArray t (0, 0) hB
  simpa [Blk] using this
/-- what is written into a parcel's bytes that lie apart leaves the list -/
theorem OPs.apart {A : Nat} {w w' : World} {v : Value} {l : List Par} {rs : List PRaw} {n : Nat} {r : PRaw} {xs : List Value} (h : OPs A w v l rs) (ha : Apart r rs) (he : Ext r.b.ownBlock.toList w w') (ho : w.ownsRow A 5 1 r.b n xs) : OPs A w' v l rs := by
  refine ⟨own_ext h.own he fun k hk m => ?_, ⟨h.all.1, fun k q p h1 h2 => (h.all.2 k q p h1 h2).keep he fun d hd m => ?_⟩, h.sep⟩
  · have := own_far h.own ho (by decide) k hk
    exact this (by simpa using m)
  · exact ha k q h1 d hd (by simpa using m)
/-- the blocks of the bytes of these -/
def blocksOf (rs : List PRaw) : List Nat := rs.filterMap fun r => r.b.ownBlock
theorem blocksOf_mem {rs : List PRaw} {k : Nat} {r : PRaw} {c : Nat} (h : rs[k]? = some r) (hc : r.b.ownBlock = some c) : c ∈ blocksOf rs := List.mem_filterMap.2 ⟨r, List.mem_of_getElem? h, hc⟩
theorem OPs.blocks {A : Nat} {w : World} {v : Value} {l : List Par} {rs : List PRaw} (h : OPs A w v l rs) : ∀ c ∈ blocksOf rs, A ≤ c ∧ c < w.heap.size ∧ ∃ cs, w.heap[c]? = some (.cells cs 5 (0, 0)) := by
  intro c hc
  obtain ⟨r, hr, hb⟩ := List.mem_filterMap.1 hc
  obtain ⟨k, hk⟩ := List.getElem?_of_mem hr
  have hl : k < l.length := by rw [← h.all.1]; exact (List.getElem?_eq_some_iff.1 hk).1
  exact own_block (h.all.2 k r l[k] hk (List.getElem?_eq_getElem hl)).2.2.2.2 hb
theorem same_self (p : Par) : same p p = true := by unfold same; simp
theorem sameNt_self (n : Nt) : sameNt n n = true := by unfold sameNt; simp
set_option maxRecDepth 100000 in
set_option maxHeartbeats 16000000 in
theorem walkDoes (w : World) (s : Nat) (v : Value) (l : List Par) (hP : Ps w v l) (a : Option Addr) (c : Nat) (Lo : List OX) (hO : OpsAt w a Lo) (hLo : Lo.length ≤ maxLen) :
    Calls Try.prog 3 #[NV s v, .slice a Lo.length c] w fun e w' => e = .returned (.bool true) ∧ Below w.heap.size w w' := by
  unfold maxLen at hLo
  obtain ⟨an, cn, rfl⟩ := hP.shape
  have hE := (Ext.refl [] w).alloc (.cells #[.int .u64 (s : Int), .slice an l.length cn] 25)
  have b1 := Blk.new w [.int .u64 (s : Int), .slice an l.length cn] 25
  replace hP := hP.ext hE
  obtain ⟨d0, d1⟩ := b1.c2
  go_enter Try.func3, Try.ntmps3
  go_upto_region 1 with (fail)
  generalize w.alloc (.cells #[.int .u64 (s : Int), .slice an l.length cn] 25) = V at *
  generalize hwb : w.heap.size = wb at *
  have HWB := Lib.hid hwb
  clear hwb
  go_upto_region 4 with (first
    | (go_at_call 9; (with_reducible refine (wakes_any _).mono ?_); rintro e w1 ⟨rfl, x1⟩; replace d0 := cells_ext x1 d0; replace d1 := cells_ext x1 d1)
    | (go_at_call 10; (with_reducible refine (short_any _ _ _ _ (hP.ext x1)).mono ?_); rintro e w2 ⟨v2, rs2, ⟨a2, n2, c2, rfl⟩, rfl, hO2, x2⟩))
  obtain ⟨a2', c2', e2⟩ := hO2.shape
  simp only [Value.slice.injEq] at e2
  obtain ⟨rfl, rfl, rfl⟩ := e2
  have y2 := (Ext.refl [] w2).alloc (.cells #[.int .u64 (s : Int), .slice a2 (shortL l).length c2] 25)
  have b3 := Blk.new w2 [.int .u64 (s : Int), .slice a2 (shortL l).length c2] 25
  have hX := ((hE.trans x1).trans x2).trans y2
  have hP2 := hO2.ps.ext y2
  have hll := shortL_len l
  have hlb := shortL_bs l
  have hnb : wb ≤ w2.heap.size := by have := ((hE.trans x1).trans x2).size; have := HWB.out; omega
  generalize w2.alloc (.cells #[.int .u64 (s : Int), .slice a2 (shortL l).length c2] 25) = W0 at *
  generalize w2.heap.size = nb at *
  generalize shortL l = L at *
  clear x1 x2 y2 hO2 hP d0 d1 hE b1
  have hlow := Lib.hid hlb
  clear hlb
  go_wp2_with (fail)
  go_loopw [21] (fun i wr => ∃ (k s' : Nat) (v' : Value) (ln : List Par), k ≤ Lo.length ∧ i = .int .i64 (k : Int) ∧ Blk wr nb 25 [.int .u64 (s' : Int), v'] ∧ Ps wr v' ln ∧ ln.length ≤ 20001 ∧ Hid (Low ln) ∧ Ext [] w wr) (fun i _ => Lo.length - (intOf i).toNat)
  case atStart => exact ⟨0, s, _, L, by omega, rfl, b3, hP2, hll, hlow.out, hX⟩
  case round =>
    clear b3 hP2 hll hlow hX
    obtain ⟨k, s', v', ln, hk, rfl, b3, hP2, hll, hlow, hX⟩ := hrel
    obtain ⟨an', cn', rfl⟩ := hP2.shape
    by_cases hkl : k < Lo.length
    · have hx : Lo[k]? = some Lo[k] := List.getElem?_eq_getElem hkl
      obtain ⟨⟨pb', po, rfl, p0, p1, p2, p3, p4, p5, p6, p7⟩, hB, hin⟩ := (hO.ext hX) k _ hx
      generalize Lo[k] = ox at *
      obtain ⟨o, oa, oc, ob⟩ := ox
      dsimp only at p0 p1 p2 p3 p4 p5 p6 p7 hB hin
      have hk0 : (k : Int) < (Lo.length : Int) := by omega
      have x1 := (Ext.refl [] wr).alloc (.cells #[.int .i64 o.kind, .int .i64 o.fr, .int .i64 o.tt, .int .i64 o.at_, .int .i64 o.place, .bool o.other, .int .u8 (o.by_.toNat : Int), .slice oa o.bs.length oc] 31)
      have b7 := Blk.new wr [.int .i64 o.kind, .int .i64 o.fr, .int .i64 o.tt, .int .i64 o.at_, .int .i64 o.place, .bool o.other, .int .u8 (o.by_.toNat : Int), .slice oa o.bs.length oc] 31
      have hX1 := hX.trans x1
      replace b3 := b3.ext x1 (by simp)
      replace hP2 := hP2.ext x1
      replace hB := hB.ext x1 (by simp)
      clear hx
      go_upto_region 7 with (fail)
      clear p0 p1 p2 p3 p4 p5 p6 p7
      generalize wr.alloc (.cells #[.int .i64 o.kind, .int .i64 o.fr, .int .i64 o.tt, .int .i64 o.at_, .int .i64 o.place, .bool o.other, .int .u8 (o.by_.toNat : Int), .slice oa o.bs.length oc] 31) = U at *
      generalize wr.heap.size = pb at *
      by_cases hk30 : k = 30
      · subst hk30
        go_wp2_with (fail)
        go_ret
        exact ⟨rfl, hX1.below⟩
      · have hk30' : ((k : Int) == 30) = false := by rw [beq_eq_false_iff_ne]; omega
        obtain ⟨d0, d1⟩ := b3.c2
        go_upto_region 9 with (go_at_call 10; (with_reducible refine (short_any _ _ _ _ hP2).mono ?_); rintro e w2 ⟨v2, rs2, ⟨a2, n2, c2, rfl⟩, rfl, hO2, x2⟩)
        rw [shortL_id hll hlow.out] at hO2
        obtain ⟨a2', c2', e2⟩ := hO2.shape
        simp only [Value.slice.injEq] at e2
        obtain ⟨rfl, rfl, rfl⟩ := e2
        have y2 := (Ext.refl [] w2).alloc (.cells #[.int .u64 (s' : Int), .slice a2 ln.length c2] 25)
        have b8 := Blk.new w2 [.int .u64 (s' : Int), .slice a2 ln.length c2] 25
        have xy := x2.trans y2
        have hW := hX1.trans xy
        have hPw := hO2.ps.ext y2
        replace hP2 := hP2.ext xy
        replace hB := hB.ext xy (by simp)
        replace b3 := b3.ext xy (by simp)
        replace b7 := b7.ext xy (by simp)
        clear x1 x2 y2 hO2 d0 d1 hX1 hX
        generalize w2.alloc (.cells #[.int .u64 (s' : Int), .slice a2 ln.length c2] 25) = W at *
        generalize w2.heap.size = wbk at *
        have rn' := fun w' (x : Ext [] W w') => run_any w' o oa oc ob hin s' _ ln (hP2.ext x) (by omega) (hB.ext x (by simp))
        have sh := fun w' (x : Ext [] W w') => short_any w' s' _ ln (hPw.ext x)
        rw [shortL_id hll hlow.out] at sh
        have wn := fun w' (x : Ext [] W w') v (h : Ps w' v ln) => wants_any w' o oa oc ob hin s' v ln h (hB.ext x (by simp))
        have hTl : Hid ((o.tells s' ln).e = 0 → (o.tells s' ln).n.ps.length ≤ 20001) := OpR.tells_short
        have hTl2 : Hid ((o.tells s' ln).n.ps.length ≤ 20002) := by show _ ≤ _; have := o.tells_len s' ln; omega
        have hTw : Hid (Low (o.tells s' ln).n.ps) := o.tells_low s' ln hlow.out
        generalize o.tells s' ln = T at *
        obtain ⟨k0, k1, k2, k3, k4, k5, k6, k7⟩ := b7.c8
        obtain ⟨d0, d1⟩ := b3.c2
        obtain ⟨e0, e1⟩ := b8.c2
        go_cut [9, 10] (fun s9 s10 wx => ∃ (b9 b10 : Nat) (v3 v4 : Value) (rs3 : List PRaw) (r3 r4 : PRaw), s9 = pt b9 ∧ s10 = pt b10 ∧ Ext [] W wx ∧ W.heap.size ≤ b9 ∧ W.heap.size ≤ b10 ∧ Blk wx b9 36 [.int .u64 (T.n.s : Int), v3, .int .u64 (T.num : Int), .int .u64 (r3.num : Int), .int .i64 r3.fr, .int .i64 r3.to, r3.b, .bool r3.sp, .int .i64 (T.gone : Int), .int .i64 T.e] ∧ Blk wx b10 36 [.int .u64 (T.n.s : Int), v4, .int .u64 (T.num : Int), .int .u64 (r4.num : Int), .int .i64 r4.fr, .int .i64 r4.to, r4.b, .bool r4.sp, .int .i64 (T.gone : Int), .int .i64 T.e] ∧ (∃ a' n' c', v3 = .slice a' n' c') ∧ (∃ a' n' c', v4 = .slice a' n' c') ∧ (∃ a' n' c', r3.b = .slice a' n' c') ∧ (∃ a' n' c', r4.b = .slice a' n' c') ∧ OPs W.heap.size wx v3 T.n.ps rs3 ∧ OIs W.heap.size wx r3 T.p ∧ Apart r3 rs3 ∧ Ps wx v4 T.n.ps ∧ PIs [] wx r4 T.p)
        case first =>
          have hS0 : Ext [] W W.drew := (Ext.refl [] W).drew
          refine region_but (fun u => Ext [] W u) [] 11 rfl (by kernel_rfl) ?_
          generalize W.drew = D0 at *
          refine HeldBut.take (i := 0) (v := ?_) rfl (by kernel_rfl) (by kernel_rfl) (by kernel_rfl) (by kernel_rfl) (fun _ _ _ h => h) (Or.inl ⟨by kernel_rfl, ?_⟩) hS0 ?_; rotate_left 1; (focus (intro u hu; (try dsimp only at hu); have k0 := cells_ext hu k0; have k1 := cells_ext hu k1; have k2 := cells_ext hu k2; have k3 := cells_ext hu k3; have k4 := cells_ext hu k4; have k5 := cells_ext hu k5; have k6 := cells_ext hu k6; have k7 := cells_ext hu k7; have d0 := cells_ext hu d0; have d1 := cells_ext hu d1; have e0 := cells_ext hu e0; have e1 := cells_ext hu e1; clear hu; go_simp; try with_reducible rfl))
          try simp only [Act.put, List.getElem_toArray, List.getElem_cons_zero, List.getElem_cons_succ, List.setIfInBounds_toArray, List.set_cons_zero, List.set_cons_succ]
          refine HeldBut.take (i := 1) (v := ?_) rfl (by kernel_rfl) (by kernel_rfl) (by kernel_rfl) (by kernel_rfl) (fun _ _ _ h => h) (Or.inl ⟨by kernel_rfl, ?_⟩) hS0 ?_; rotate_left 1; (focus (intro u hu; (try dsimp only at hu); have k0 := cells_ext hu k0; have k1 := cells_ext hu k1; have k2 := cells_ext hu k2; have k3 := cells_ext hu k3; have k4 := cells_ext hu k4; have k5 := cells_ext hu k5; have k6 := cells_ext hu k6; have k7 := cells_ext hu k7; have d0 := cells_ext hu d0; have d1 := cells_ext hu d1; have e0 := cells_ext hu e0; have e1 := cells_ext hu e1; clear hu; go_simp; try with_reducible rfl))
          try simp only [Act.put, List.getElem_toArray, List.getElem_cons_zero, List.getElem_cons_succ, List.setIfInBounds_toArray, List.set_cons_zero, List.set_cons_succ]
          refine HeldBut.take (i := 3) (v := ?_) rfl (by kernel_rfl) (by kernel_rfl) (by kernel_rfl) (by kernel_rfl) (fun _ _ _ h => h) (Or.inl ⟨by kernel_rfl, ?_⟩) hS0 ?_; rotate_left 1; (focus (intro u hu; (try dsimp only at hu); have k0 := cells_ext hu k0; have k1 := cells_ext hu k1; have k2 := cells_ext hu k2; have k3 := cells_ext hu k3; have k4 := cells_ext hu k4; have k5 := cells_ext hu k5; have k6 := cells_ext hu k6; have k7 := cells_ext hu k7; have d0 := cells_ext hu d0; have d1 := cells_ext hu d1; have e0 := cells_ext hu e0; have e1 := cells_ext hu e1; clear hu; go_simp; try with_reducible rfl))
          try simp only [Act.put, List.getElem_toArray, List.getElem_cons_zero, List.getElem_cons_succ, List.setIfInBounds_toArray, List.set_cons_zero, List.set_cons_succ]
          refine HeldBut.take (i := 4) (v := ?_) rfl (by kernel_rfl) (by kernel_rfl) (by kernel_rfl) (by kernel_rfl) (fun _ _ _ h => h) (Or.inl ⟨by kernel_rfl, ?_⟩) hS0 ?_; rotate_left 1; (focus (intro u hu; (try dsimp only at hu); have k0 := cells_ext hu k0; have k1 := cells_ext hu k1; have k2 := cells_ext hu k2; have k3 := cells_ext hu k3; have k4 := cells_ext hu k4; have k5 := cells_ext hu k5; have k6 := cells_ext hu k6; have k7 := cells_ext hu k7; have d0 := cells_ext hu d0; have d1 := cells_ext hu d1; have e0 := cells_ext hu e0; have e1 := cells_ext hu e1; clear hu; go_simp; try with_reducible rfl))
          try simp only [Act.put, List.getElem_toArray, List.getElem_cons_zero, List.getElem_cons_succ, List.setIfInBounds_toArray, List.set_cons_zero, List.set_cons_succ]
          clear k0 k1 k2 k3 k4 k5 k6 k7 d0 d1 e0 e1 b7 b3 b8 hTl hTl2 hTw hW hP2 hPw hB
          refine HeldBut.each [2, 7, 8] (by kernel_rfl) rfl ?_
          intro i hi; simp only [List.mem_cons, List.mem_nil_iff, or_false] at hi; rcases hi with rfl | rfl | rfl
          · refine HeldBut.step (i := 2) rfl (fun K hK => ?_)
            try simp only [List.getElem_toArray, List.getElem_cons_zero, List.getElem_cons_succ]
            go_simp
            go_at_call 11
            (with_reducible refine (rn' _ hS0).mono ?_)
            rintro e w3 ⟨v3, rs3, r3, ⟨a3, n3, c3, rfl⟩, rfl, hO3, hI3, hA3, x3⟩
            obtain ⟨ra, rc, hrb⟩ := own_shape hI3.2.2.2.2
            obtain ⟨rn, rf, rt, rb, rsp⟩ := r3
            dsimp only at hrb
            subst hrb
            dsimp only
            have lA := hS0.size
            have hS1 := hS0.trans x3
            refine hK.out _ _ (fun _ => hS1) ?_; clear hK K
            try simp only [Act.put, List.getElem_toArray, List.getElem_cons_zero, List.getElem_cons_succ, List.setIfInBounds_toArray, List.set_cons_zero, List.set_cons_succ]
            clear hS0 x3
            have hS0 := hS1; clear hS1
            refine HeldBut.each [5, 7, 8] (by kernel_rfl) rfl ?_
            intro i hi; simp only [List.mem_cons, List.mem_nil_iff, or_false] at hi; rcases hi with rfl | rfl | rfl
            · refine HeldBut.step (i := 5) rfl (fun K hK => ?_)
              try simp only [List.getElem_toArray, List.getElem_cons_zero, List.getElem_cons_succ]
              go_simp
              go_at_call 10
              (with_reducible refine (sh _ hS0).mono ?_)
              rintro e w5 ⟨v5, rs5, ⟨a5, n5, c5, rfl⟩, rfl, hO5, x5⟩
              dsimp only
              have hP5 := hO5.ps
              clear hO5
              have hS1 := hS0.trans x5
              refine hK.out _ _ (fun _ => hS1) ?_; clear hK K
              try simp only [Act.put, List.getElem_toArray, List.getElem_cons_zero, List.getElem_cons_succ, List.setIfInBounds_toArray, List.set_cons_zero, List.set_cons_succ]
              replace hO3 := hO3.ext x5
              replace hI3 := hI3.keep x5 (fun _ _ => by simp)
              clear hS0 x5
              have hS0 := hS1; clear hS1
              refine HeldBut.each [6, 7, 8] (by kernel_rfl) rfl ?_
              intro i hi; simp only [List.mem_cons, List.mem_nil_iff, or_false] at hi; rcases hi with rfl | rfl | rfl
              · refine HeldBut.step (i := 6) rfl (fun K hK => ?_)
                try simp only [List.getElem_toArray, List.getElem_cons_zero, List.getElem_cons_succ]
                go_simp
                go_at_call 12
                (with_reducible refine (wn _ hS0 _ hP5).mono ?_)
                rintro e w6 ⟨v6, r6, ⟨a6, n6, c6, rfl⟩, rfl, hP6, hI6, x6⟩
                obtain ⟨pa, pc, rfl⟩ := (hI6.pis (X := []) (by simp)).shape
                dsimp only
                have hS1 := hS0.trans x6
                refine hK.out _ _ (fun _ => hS1) ?_; clear hK K
                try simp only [Act.put, List.getElem_toArray, List.getElem_cons_zero, List.getElem_cons_succ, List.setIfInBounds_toArray, List.set_cons_zero, List.set_cons_succ]
                obtain ⟨A6, hAA⟩ : ∃ A, w5.heap.size = A := ⟨_, rfl⟩
                obtain ⟨z6, hzz, hQ6⟩ : ∃ z, w6.heap.size = z ∧ Hid (∀ X w'', (∀ k ∈ X, k < A6 ∨ z ≤ k) → Ext X w6 w'' → Ps w'' (.slice a6 n6 c6) T.n.ps) := ⟨_, rfl, hAA ▸ hP6⟩
                rw [hAA] at hI6
                have hs6 : z6 ≤ w6.heap.size := Nat.le_of_eq hzz.symm
                have y6 := Ext.refl [] w6
                clear hP6 hAA hzz
                replace hO3 := hO3.ext x6
                replace hI3 := hI3.keep x6 (fun _ _ => by simp)
                replace hP5 := hP5.ext x6
                clear hS0 x6 hP5
                have hS0 := hS1; clear hS1
                refine HeldBut.each [7, 8] (by kernel_rfl) rfl ?_
                intro i hi; simp only [List.mem_cons, List.mem_nil_iff, or_false] at hi; rcases hi with rfl | rfl
                · refine HeldBut.step (i := 7) rfl (fun K hK => ?_)
                  try simp only [List.getElem_toArray, List.getElem_cons_zero, List.getElem_cons_succ]
                  go_simp
                  have e6 := (Ext.refl [] w6).alloc (.cells #[.int .u64 0, .slice none 0 0, .int .u64 0, .int .u64 0, .int .i64 0, .int .i64 0, .slice none 0 0, .bool false, .int .i64 0, .int .i64 0] 36)
                  have hs6o := hs6
                  replace hO3 := hO3.ext e6
                  replace hI3 := hI3.keep e6 (fun _ _ => by simp)
                  have y6n := y6.trans e6; clear y6; have y6 := y6n; clear y6n
                  have hs6n := Nat.le_trans hs6 (e6).size; clear hs6; have hs6 := hs6n; clear hs6n
                  replace hI6 := hI6.keep e6 (fun _ _ => by simp)
                  have g9 := Blk.new w6 [.int .u64 0, .slice none 0 0, .int .u64 0, .int .u64 0, .int .i64 0, .int .i64 0, .slice none 0 0, .bool false, .int .i64 0, .int .i64 0] 36
                  have l9 := hS0.size
                  have q9 : w6.heap.size < A6 ∨ z6 ≤ w6.heap.size := .inr hs6o
                  have hS1 := hS0.trans e6
                  refine hK.out _ _ (fun _ => hS1) ?_; clear hK K
                  try simp only [Act.put, List.getElem_toArray, List.getElem_cons_zero, List.getElem_cons_succ, List.setIfInBounds_toArray, List.set_cons_zero, List.set_cons_succ]
                  clear hS0 e6 hs6o
                  have hS0 := hS1; clear hS1
                  generalize w6.alloc (.cells #[.int .u64 0, .slice none 0 0, .int .u64 0, .int .u64 0, .int .i64 0, .int .i64 0, .slice none 0 0, .bool false, .int .i64 0, .int .i64 0] 36) = U7 at *
                  generalize w6.heap.size = b9 at *
                  refine HeldBut.each [8] (by kernel_rfl) rfl ?_
                  intro i hi; simp only [List.mem_cons, List.mem_nil_iff, or_false] at hi; rcases hi with rfl
                  · refine HeldBut.step (i := 8) rfl (fun K hK => ?_)
                    try simp only [List.getElem_toArray, List.getElem_cons_zero, List.getElem_cons_succ]
                    go_simp
                    have e6 := (Ext.refl [] U7).alloc (.cells #[.int .u64 0, .slice none 0 0, .int .u64 0, .int .u64 0, .int .i64 0, .int .i64 0, .slice none 0 0, .bool false, .int .i64 0, .int .i64 0] 36)
                    have hne : b9 ≠ U7.heap.size := by have := g9.lt; omega
                    have hs6o := hs6
                    replace g9 := g9.ext e6 (by simp)
                    replace hO3 := hO3.ext e6
                    replace hI3 := hI3.keep e6 (fun _ _ => by simp)
                    have y6n := y6.trans e6; clear y6; have y6 := y6n; clear y6n
                    have hs6n := Nat.le_trans hs6 (e6).size; clear hs6; have hs6 := hs6n; clear hs6n
                    replace hI6 := hI6.keep e6 (fun _ _ => by simp)
                    have g10 := Blk.new U7 [.int .u64 0, .slice none 0 0, .int .u64 0, .int .u64 0, .int .i64 0, .int .i64 0, .slice none 0 0, .bool false, .int .i64 0, .int .i64 0] 36
                    have l10 := hS0.size
                    have q10 : U7.heap.size < A6 ∨ z6 ≤ U7.heap.size := .inr hs6o
                    have hS1 := hS0.trans e6
                    refine hK.out _ _ (fun _ => hS1) ?_; clear hK K
                    try simp only [Act.put, List.getElem_toArray, List.getElem_cons_zero, List.getElem_cons_succ, List.setIfInBounds_toArray, List.set_cons_zero, List.set_cons_succ]
                    clear hS0 e6 hs6o
                    have hS0 := hS1; clear hS1
                    generalize U7.alloc (.cells #[.int .u64 0, .slice none 0 0, .int .u64 0, .int .u64 0, .int .i64 0, .int .i64 0, .slice none 0 0, .bool false, .int .i64 0, .int .i64 0] 36) = U8 at *
                    generalize U7.heap.size = b10 at *
                    refine HeldBut.each [9] (by kernel_rfl) rfl ?_
                    intro i hi; simp only [List.mem_cons, List.mem_nil_iff, or_false] at hi; rcases hi with rfl
                    · refine HeldBut.step (i := 9) rfl (fun K hK => ?_)
                      refine step_store_blk (by rfl) _ (.tmp 9) (.tmp 32) (by rfl) (by rfl) (by rfl) (by rfl) g9 told_info (by rfl) (one_told _ _ _ _ _ _ _ _ _ _ _ _ _ _) ?_
                      intro U9 f9 e8
                      replace g10 := g10.ext e8 (by simp; omega)
                      replace hO3 := hO3.other g9 (by decide) (by decide) e8
                      replace hI3 := hI3.keep e8 (own_ne hI3.2.2.2.2 g9 (by decide))
                      replace hI6 := hI6.keep e8 (own_ne hI6.2.2.2.2 g9 (by decide))
                      have y6n : Ext [b9, b10] w6 _ := (y6.mono (fun k _ h => by simp at h ⊢)).trans (e8.mono (fun k _ h => by simp at h ⊢; omega)); clear y6; have y6 := y6n; clear y6n
                      clear g9; have g9 := f9; clear f9
                      have hS1 := hS0.trans' e8 (fun i hi => .inr (by simp at hi; omega))
                      refine hK.out _ _ (fun _ => hS1) ?_; clear hK K
                      try simp only [Act.put, List.getElem_toArray, List.getElem_cons_zero, List.getElem_cons_succ, List.setIfInBounds_toArray, List.set_cons_zero, List.set_cons_succ]
                      clear hS0 e8
                      have hS0 := hS1; clear hS1
                      refine HeldBut.each [10] (by kernel_rfl) rfl ?_
                      intro i hi; simp only [List.mem_cons, List.mem_nil_iff, or_false] at hi; rcases hi with rfl
                      · refine HeldBut.step (i := 10) rfl (fun K hK => ?_)
                        refine step_store_blk (by rfl) _ (.tmp 10) (.tmp 36) (by rfl) (by rfl) (by rfl) (by rfl) g10 told_info (by rfl) (one_told _ _ _ _ _ _ _ _ _ _ _ _ _ _) ?_
                        intro U10 f10 e8
                        replace g9 := g9.ext e8 (by simp; omega)
                        replace hO3 := hO3.other g10 (by decide) (by decide) e8
                        replace hI3 := hI3.keep e8 (own_ne hI3.2.2.2.2 g10 (by decide))
                        replace hI6 := hI6.keep e8 (own_ne hI6.2.2.2.2 g10 (by decide))
                        have y6n : Ext [b9, b10] w6 _ := (y6.mono (fun k _ h => by simp at h ⊢; exact h)).trans (e8.mono (fun k _ h => by simp at h ⊢; omega)); clear y6; have y6 := y6n; clear y6n
                        clear g10; have g10 := f10; clear f10
                        have hS1 := hS0.trans' e8 (fun i hi => .inr (by simp at hi; omega))
                        refine hK.out _ _ (fun _ => hS1) ?_; clear hK K
                        try simp only [Act.put, List.getElem_toArray, List.getElem_cons_zero, List.getElem_cons_succ, List.setIfInBounds_toArray, List.set_cons_zero, List.set_cons_succ]
                        clear hS0 e8
                        have hS0 := hS1; clear hS1
                        refine HeldBut.done (by kernel_rfl) ?_ _
                        go_wp2_with (fail)
                        go_meet
                        exact ⟨b9, b10, _, _, rs3, _, _, rfl, rfl, hS0, l9, l10, g9, g10, ⟨_, _, _, rfl⟩, ⟨_, _, _, rfl⟩, ⟨_, _, _, rfl⟩, ⟨_, _, _, rfl⟩, hO3.mono lA, hI3.mono lA, hA3, hQ6.out [b9, b10] _ (fun k hk => by simp at hk; rcases hk with rfl | rfl; exact q9; exact q10) y6, hI6.pis (by simp)⟩
                · refine HeldBut.step (i := 8) rfl (fun K hK => ?_)
                  try simp only [List.getElem_toArray, List.getElem_cons_zero, List.getElem_cons_succ]
                  go_simp
                  have e6 := (Ext.refl [] w6).alloc (.cells #[.int .u64 0, .slice none 0 0, .int .u64 0, .int .u64 0, .int .i64 0, .int .i64 0, .slice none 0 0, .bool false, .int .i64 0, .int .i64 0] 36)
                  have hs6o := hs6
                  replace hO3 := hO3.ext e6
                  replace hI3 := hI3.keep e6 (fun _ _ => by simp)
                  have y6n := y6.trans e6; clear y6; have y6 := y6n; clear y6n
                  have hs6n := Nat.le_trans hs6 (e6).size; clear hs6; have hs6 := hs6n; clear hs6n
                  replace hI6 := hI6.keep e6 (fun _ _ => by simp)
                  have g10 := Blk.new w6 [.int .u64 0, .slice none 0 0, .int .u64 0, .int .u64 0, .int .i64 0, .int .i64 0, .slice none 0 0, .bool false, .int .i64 0, .int .i64 0] 36
                  have l10 := hS0.size
                  have q10 : w6.heap.size < A6 ∨ z6 ≤ w6.heap.size := .inr hs6o
                  have hS1 := hS0.trans e6
                  refine hK.out _ _ (fun _ => hS1) ?_; clear hK K
                  try simp only [Act.put, List.getElem_toArray, List.getElem_cons_zero, List.getElem_cons_succ, List.setIfInBounds_toArray, List.set_cons_zero, List.set_cons_succ]
                  clear hS0 e6 hs6o
                  have hS0 := hS1; clear hS1
                  generalize w6.alloc (.cells #[.int .u64 0, .slice none 0 0, .int .u64 0, .int .u64 0, .int .i64 0, .int .i64 0, .slice none 0 0, .bool false, .int .i64 0, .int .i64 0] 36) = U8 at *
                  generalize w6.heap.size = b10 at *
                  refine HeldBut.each [7] (by kernel_rfl) rfl ?_
                  intro i hi; simp only [List.mem_cons, List.mem_nil_iff, or_false] at hi; rcases hi with rfl
                  · refine HeldBut.step (i := 7) rfl (fun K hK => ?_)
                    try simp only [List.getElem_toArray, List.getElem_cons_zero, List.getElem_cons_succ]
                    go_simp
                    have e6 := (Ext.refl [] U8).alloc (.cells #[.int .u64 0, .slice none 0 0, .int .u64 0, .int .u64 0, .int .i64 0, .int .i64 0, .slice none 0 0, .bool false, .int .i64 0, .int .i64 0] 36)
                    have hne : b10 ≠ U8.heap.size := by have := g10.lt; omega
                    have hs6o := hs6
                    replace g10 := g10.ext e6 (by simp)
                    replace hO3 := hO3.ext e6
                    replace hI3 := hI3.keep e6 (fun _ _ => by simp)
                    have y6n := y6.trans e6; clear y6; have y6 := y6n; clear y6n
                    have hs6n := Nat.le_trans hs6 (e6).size; clear hs6; have hs6 := hs6n; clear hs6n
                    replace hI6 := hI6.keep e6 (fun _ _ => by simp)
                    have g9 := Blk.new U8 [.int .u64 0, .slice none 0 0, .int .u64 0, .int .u64 0, .int .i64 0, .int .i64 0, .slice none 0 0, .bool false, .int .i64 0, .int .i64 0] 36
                    have l9 := hS0.size
                    have q9 : U8.heap.size < A6 ∨ z6 ≤ U8.heap.size := .inr hs6o
                    have hS1 := hS0.trans e6
                    refine hK.out _ _ (fun _ => hS1) ?_; clear hK K
                    try simp only [Act.put, List.getElem_toArray, List.getElem_cons_zero, List.getElem_cons_succ, List.setIfInBounds_toArray, List.set_cons_zero, List.set_cons_succ]
                    clear hS0 e6 hs6o
                    have hS0 := hS1; clear hS1
                    generalize U8.alloc (.cells #[.int .u64 0, .slice none 0 0, .int .u64 0, .int .u64 0, .int .i64 0, .int .i64 0, .slice none 0 0, .bool false, .int .i64 0, .int .i64 0] 36) = U7 at *
                    generalize U8.heap.size = b9 at *
                    refine HeldBut.each [9] (by kernel_rfl) rfl ?_
                    intro i hi; simp only [List.mem_cons, List.mem_nil_iff, or_false] at hi; rcases hi with rfl
                    · refine HeldBut.step (i := 9) rfl (fun K hK => ?_)
                      refine step_store_blk (by rfl) _ (.tmp 9) (.tmp 32) (by rfl) (by rfl) (by rfl) (by rfl) g9 told_info (by rfl) (one_told _ _ _ _ _ _ _ _ _ _ _ _ _ _) ?_
                      intro U9 f9 e8
                      replace g10 := g10.ext e8 (by simp; omega)
                      replace hO3 := hO3.other g9 (by decide) (by decide) e8
                      replace hI3 := hI3.keep e8 (own_ne hI3.2.2.2.2 g9 (by decide))
                      replace hI6 := hI6.keep e8 (own_ne hI6.2.2.2.2 g9 (by decide))
                      have y6n : Ext [b9, b10] w6 _ := (y6.mono (fun k _ h => by simp at h ⊢)).trans (e8.mono (fun k _ h => by simp at h ⊢; omega)); clear y6; have y6 := y6n; clear y6n
                      clear g9; have g9 := f9; clear f9
                      have hS1 := hS0.trans' e8 (fun i hi => .inr (by simp at hi; omega))
                      refine hK.out _ _ (fun _ => hS1) ?_; clear hK K
                      try simp only [Act.put, List.getElem_toArray, List.getElem_cons_zero, List.getElem_cons_succ, List.setIfInBounds_toArray, List.set_cons_zero, List.set_cons_succ]
                      clear hS0 e8
                      have hS0 := hS1; clear hS1
                      refine HeldBut.each [10] (by kernel_rfl) rfl ?_
                      intro i hi; simp only [List.mem_cons, List.mem_nil_iff, or_false] at hi; rcases hi with rfl
                      · refine HeldBut.step (i := 10) rfl (fun K hK => ?_)
                        refine step_store_blk (by rfl) _ (.tmp 10) (.tmp 36) (by rfl) (by rfl) (by rfl) (by rfl) g10 told_info (by rfl) (one_told _ _ _ _ _ _ _ _ _ _ _ _ _ _) ?_
                        intro U10 f10 e8
                        replace g9 := g9.ext e8 (by simp; omega)
                        replace hO3 := hO3.other g10 (by decide) (by decide) e8
                        replace hI3 := hI3.keep e8 (own_ne hI3.2.2.2.2 g10 (by decide))
                        replace hI6 := hI6.keep e8 (own_ne hI6.2.2.2.2 g10 (by decide))
                        have y6n : Ext [b9, b10] w6 _ := (y6.mono (fun k _ h => by simp at h ⊢; exact h)).trans (e8.mono (fun k _ h => by simp at h ⊢; omega)); clear y6; have y6 := y6n; clear y6n
                        clear g10; have g10 := f10; clear f10
                        have hS1 := hS0.trans' e8 (fun i hi => .inr (by simp at hi; omega))
                        refine hK.out _ _ (fun _ => hS1) ?_; clear hK K
                        try simp only [Act.put, List.getElem_toArray, List.getElem_cons_zero, List.getElem_cons_succ, List.setIfInBounds_toArray, List.set_cons_zero, List.set_cons_succ]
                        clear hS0 e8
                        have hS0 := hS1; clear hS1
                        refine HeldBut.done (by kernel_rfl) ?_ _
                        go_wp2_with (fail)
                        go_meet
                        exact ⟨b9, b10, _, _, rs3, _, _, rfl, rfl, hS0, l9, l10, g9, g10, ⟨_, _, _, rfl⟩, ⟨_, _, _, rfl⟩, ⟨_, _, _, rfl⟩, ⟨_, _, _, rfl⟩, hO3.mono lA, hI3.mono lA, hA3, hQ6.out [b9, b10] _ (fun k hk => by simp at hk; rcases hk with rfl | rfl; exact q9; exact q10) y6, hI6.pis (by simp)⟩
              · refine HeldBut.step (i := 7) rfl (fun K hK => ?_)
                try simp only [List.getElem_toArray, List.getElem_cons_zero, List.getElem_cons_succ]
                go_simp
                have e6 := (Ext.refl [] w5).alloc (.cells #[.int .u64 0, .slice none 0 0, .int .u64 0, .int .u64 0, .int .i64 0, .int .i64 0, .slice none 0 0, .bool false, .int .i64 0, .int .i64 0] 36)
                replace hO3 := hO3.ext e6
                replace hI3 := hI3.keep e6 (fun _ _ => by simp)
                replace hP5 := hP5.ext e6
                have g9 := Blk.new w5 [.int .u64 0, .slice none 0 0, .int .u64 0, .int .u64 0, .int .i64 0, .int .i64 0, .slice none 0 0, .bool false, .int .i64 0, .int .i64 0] 36
                have l9 := hS0.size
                have hS1 := hS0.trans e6
                refine hK.out _ _ (fun _ => hS1) ?_; clear hK K
                try simp only [Act.put, List.getElem_toArray, List.getElem_cons_zero, List.getElem_cons_succ, List.setIfInBounds_toArray, List.set_cons_zero, List.set_cons_succ]
                clear hS0 e6
                have hS0 := hS1; clear hS1
                generalize w5.alloc (.cells #[.int .u64 0, .slice none 0 0, .int .u64 0, .int .u64 0, .int .i64 0, .int .i64 0, .slice none 0 0, .bool false, .int .i64 0, .int .i64 0] 36) = U7 at *
                generalize w5.heap.size = b9 at *
                refine HeldBut.each [6, 8] (by kernel_rfl) rfl ?_
                intro i hi; simp only [List.mem_cons, List.mem_nil_iff, or_false] at hi; rcases hi with rfl | rfl
                · refine HeldBut.step (i := 6) rfl (fun K hK => ?_)
                  try simp only [List.getElem_toArray, List.getElem_cons_zero, List.getElem_cons_succ]
                  go_simp
                  go_at_call 12
                  (with_reducible refine (wn _ hS0 _ hP5).mono ?_)
                  rintro e w6 ⟨v6, r6, ⟨a6, n6, c6, rfl⟩, rfl, hP6, hI6, x6⟩
                  obtain ⟨pa, pc, rfl⟩ := (hI6.pis (X := []) (by simp)).shape
                  dsimp only
                  have hS1 := hS0.trans x6
                  refine hK.out _ _ (fun _ => hS1) ?_; clear hK K
                  try simp only [Act.put, List.getElem_toArray, List.getElem_cons_zero, List.getElem_cons_succ, List.setIfInBounds_toArray, List.set_cons_zero, List.set_cons_succ]
                  obtain ⟨A6, hAA⟩ : ∃ A, U7.heap.size = A := ⟨_, rfl⟩
                  obtain ⟨z6, hzz, hQ6⟩ : ∃ z, w6.heap.size = z ∧ Hid (∀ X w'', (∀ k ∈ X, k < A6 ∨ z ≤ k) → Ext X w6 w'' → Ps w'' (.slice a6 n6 c6) T.n.ps) := ⟨_, rfl, hAA ▸ hP6⟩
                  rw [hAA] at hI6
                  have hs6 : z6 ≤ w6.heap.size := Nat.le_of_eq hzz.symm
                  have y6 := Ext.refl [] w6
                  have q9 : b9 < A6 ∨ z6 ≤ b9 := .inl (by have := g9.lt; omega)
                  clear hP6 hAA hzz
                  replace g9 := g9.ext x6 (by simp)
                  replace hO3 := hO3.ext x6
                  replace hI3 := hI3.keep x6 (fun _ _ => by simp)
                  replace hP5 := hP5.ext x6
                  clear hS0 x6 hP5
                  have hS0 := hS1; clear hS1
                  refine HeldBut.each [8] (by kernel_rfl) rfl ?_
                  intro i hi; simp only [List.mem_cons, List.mem_nil_iff, or_false] at hi; rcases hi with rfl
                  · refine HeldBut.step (i := 8) rfl (fun K hK => ?_)
                    try simp only [List.getElem_toArray, List.getElem_cons_zero, List.getElem_cons_succ]
                    go_simp
                    have e6 := (Ext.refl [] w6).alloc (.cells #[.int .u64 0, .slice none 0 0, .int .u64 0, .int .u64 0, .int .i64 0, .int .i64 0, .slice none 0 0, .bool false, .int .i64 0, .int .i64 0] 36)
                    have hne : b9 ≠ w6.heap.size := by have := g9.lt; omega
                    have hs6o := hs6
                    replace g9 := g9.ext e6 (by simp)
                    replace hO3 := hO3.ext e6
                    replace hI3 := hI3.keep e6 (fun _ _ => by simp)
                    have y6n := y6.trans e6; clear y6; have y6 := y6n; clear y6n
                    have hs6n := Nat.le_trans hs6 (e6).size; clear hs6; have hs6 := hs6n; clear hs6n
                    replace hI6 := hI6.keep e6 (fun _ _ => by simp)
                    have g10 := Blk.new w6 [.int .u64 0, .slice none 0 0, .int .u64 0, .int .u64 0, .int .i64 0, .int .i64 0, .slice none 0 0, .bool false, .int .i64 0, .int .i64 0] 36
                    have l10 := hS0.size
                    have q10 : w6.heap.size < A6 ∨ z6 ≤ w6.heap.size := .inr hs6o
                    have hS1 := hS0.trans e6
                    refine hK.out _ _ (fun _ => hS1) ?_; clear hK K
                    try simp only [Act.put, List.getElem_toArray, List.getElem_cons_zero, List.getElem_cons_succ, List.setIfInBounds_toArray, List.set_cons_zero, List.set_cons_succ]
                    clear hS0 e6 hs6o
                    have hS0 := hS1; clear hS1
                    generalize w6.alloc (.cells #[.int .u64 0, .slice none 0 0, .int .u64 0, .int .u64 0, .int .i64 0, .int .i64 0, .slice none 0 0, .bool false, .int .i64 0, .int .i64 0] 36) = U8 at *
                    generalize w6.heap.size = b10 at *
                    refine HeldBut.each [9] (by kernel_rfl) rfl ?_
                    intro i hi; simp only [List.mem_cons, List.mem_nil_iff, or_false] at hi; rcases hi with rfl
                    · refine HeldBut.step (i := 9) rfl (fun K hK => ?_)
                      refine step_store_blk (by rfl) _ (.tmp 9) (.tmp 32) (by rfl) (by rfl) (by rfl) (by rfl) g9 told_info (by rfl) (one_told _ _ _ _ _ _ _ _ _ _ _ _ _ _) ?_
                      intro U9 f9 e8
                      replace g10 := g10.ext e8 (by simp; omega)
                      replace hO3 := hO3.other g9 (by decide) (by decide) e8
                      replace hI3 := hI3.keep e8 (own_ne hI3.2.2.2.2 g9 (by decide))
                      replace hI6 := hI6.keep e8 (own_ne hI6.2.2.2.2 g9 (by decide))
                      have y6n : Ext [b9, b10] w6 _ := (y6.mono (fun k _ h => by simp at h ⊢)).trans (e8.mono (fun k _ h => by simp at h ⊢; omega)); clear y6; have y6 := y6n; clear y6n
                      clear g9; have g9 := f9; clear f9
                      have hS1 := hS0.trans' e8 (fun i hi => .inr (by simp at hi; omega))
                      refine hK.out _ _ (fun _ => hS1) ?_; clear hK K
                      try simp only [Act.put, List.getElem_toArray, List.getElem_cons_zero, List.getElem_cons_succ, List.setIfInBounds_toArray, List.set_cons_zero, List.set_cons_succ]
                      clear hS0 e8
                      have hS0 := hS1; clear hS1
                      refine HeldBut.each [10] (by kernel_rfl) rfl ?_
                      intro i hi; simp only [List.mem_cons, List.mem_nil_iff, or_false] at hi; rcases hi with rfl
                      · refine HeldBut.step (i := 10) rfl (fun K hK => ?_)
                        refine step_store_blk (by rfl) _ (.tmp 10) (.tmp 36) (by rfl) (by rfl) (by rfl) (by rfl) g10 told_info (by rfl) (one_told _ _ _ _ _ _ _ _ _ _ _ _ _ _) ?_
                        intro U10 f10 e8
                        replace g9 := g9.ext e8 (by simp; omega)
                        replace hO3 := hO3.other g10 (by decide) (by decide) e8
                        replace hI3 := hI3.keep e8 (own_ne hI3.2.2.2.2 g10 (by decide))
                        replace hI6 := hI6.keep e8 (own_ne hI6.2.2.2.2 g10 (by decide))
                        have y6n : Ext [b9, b10] w6 _ := (y6.mono (fun k _ h => by simp at h ⊢; exact h)).trans (e8.mono (fun k _ h => by simp at h ⊢; omega)); clear y6; have y6 := y6n; clear y6n
                        clear g10; have g10 := f10; clear f10
                        have hS1 := hS0.trans' e8 (fun i hi => .inr (by simp at hi; omega))
                        refine hK.out _ _ (fun _ => hS1) ?_; clear hK K
                        try simp only [Act.put, List.getElem_toArray, List.getElem_cons_zero, List.getElem_cons_succ, List.setIfInBounds_toArray, List.set_cons_zero, List.set_cons_succ]
                        clear hS0 e8
                        have hS0 := hS1; clear hS1
                        refine HeldBut.done (by kernel_rfl) ?_ _
                        go_wp2_with (fail)
                        go_meet
                        exact ⟨b9, b10, _, _, rs3, _, _, rfl, rfl, hS0, l9, l10, g9, g10, ⟨_, _, _, rfl⟩, ⟨_, _, _, rfl⟩, ⟨_, _, _, rfl⟩, ⟨_, _, _, rfl⟩, hO3.mono lA, hI3.mono lA, hA3, hQ6.out [b9, b10] _ (fun k hk => by simp at hk; rcases hk with rfl | rfl; exact q9; exact q10) y6, hI6.pis (by simp)⟩
                · refine HeldBut.step (i := 8) rfl (fun K hK => ?_)
                  try simp only [List.getElem_toArray, List.getElem_cons_zero, List.getElem_cons_succ]
                  go_simp
                  have e6 := (Ext.refl [] U7).alloc (.cells #[.int .u64 0, .slice none 0 0, .int .u64 0, .int .u64 0, .int .i64 0, .int .i64 0, .slice none 0 0, .bool false, .int .i64 0, .int .i64 0] 36)
                  have hne : b9 ≠ U7.heap.size := by have := g9.lt; omega
                  replace g9 := g9.ext e6 (by simp)
                  replace hO3 := hO3.ext e6
                  replace hI3 := hI3.keep e6 (fun _ _ => by simp)
                  replace hP5 := hP5.ext e6
                  have g10 := Blk.new U7 [.int .u64 0, .slice none 0 0, .int .u64 0, .int .u64 0, .int .i64 0, .int .i64 0, .slice none 0 0, .bool false, .int .i64 0, .int .i64 0] 36
                  have l10 := hS0.size
                  have hS1 := hS0.trans e6
                  refine hK.out _ _ (fun _ => hS1) ?_; clear hK K
                  try simp only [Act.put, List.getElem_toArray, List.getElem_cons_zero, List.getElem_cons_succ, List.setIfInBounds_toArray, List.set_cons_zero, List.set_cons_succ]
                  clear hS0 e6
                  have hS0 := hS1; clear hS1
                  generalize U7.alloc (.cells #[.int .u64 0, .slice none 0 0, .int .u64 0, .int .u64 0, .int .i64 0, .int .i64 0, .slice none 0 0, .bool false, .int .i64 0, .int .i64 0] 36) = U8 at *
                  generalize U7.heap.size = b10 at *
                  refine HeldBut.each [6] (by kernel_rfl) rfl ?_
                  intro i hi; simp only [List.mem_cons, List.mem_nil_iff, or_false] at hi; rcases hi with rfl
                  · refine HeldBut.step (i := 6) rfl (fun K hK => ?_)
                    try simp only [List.getElem_toArray, List.getElem_cons_zero, List.getElem_cons_succ]
                    go_simp
                    go_at_call 12
                    (with_reducible refine (wn _ hS0 _ hP5).mono ?_)
                    rintro e w6 ⟨v6, r6, ⟨a6, n6, c6, rfl⟩, rfl, hP6, hI6, x6⟩
                    obtain ⟨pa, pc, rfl⟩ := (hI6.pis (X := []) (by simp)).shape
                    dsimp only
                    have hS1 := hS0.trans x6
                    refine hK.out _ _ (fun _ => hS1) ?_; clear hK K
                    try simp only [Act.put, List.getElem_toArray, List.getElem_cons_zero, List.getElem_cons_succ, List.setIfInBounds_toArray, List.set_cons_zero, List.set_cons_succ]
                    obtain ⟨A6, hAA⟩ : ∃ A, U8.heap.size = A := ⟨_, rfl⟩
                    obtain ⟨z6, hzz, hQ6⟩ : ∃ z, w6.heap.size = z ∧ Hid (∀ X w'', (∀ k ∈ X, k < A6 ∨ z ≤ k) → Ext X w6 w'' → Ps w'' (.slice a6 n6 c6) T.n.ps) := ⟨_, rfl, hAA ▸ hP6⟩
                    rw [hAA] at hI6
                    have hs6 : z6 ≤ w6.heap.size := Nat.le_of_eq hzz.symm
                    have y6 := Ext.refl [] w6
                    have q9 : b9 < A6 ∨ z6 ≤ b9 := .inl (by have := g9.lt; omega)
                    have q10 : b10 < A6 ∨ z6 ≤ b10 := .inl (by have := g10.lt; omega)
                    clear hP6 hAA hzz
                    replace g9 := g9.ext x6 (by simp)
                    replace g10 := g10.ext x6 (by simp)
                    replace hO3 := hO3.ext x6
                    replace hI3 := hI3.keep x6 (fun _ _ => by simp)
                    replace hP5 := hP5.ext x6
                    clear hS0 x6 hP5
                    have hS0 := hS1; clear hS1
                    refine HeldBut.each [9] (by kernel_rfl) rfl ?_
                    intro i hi; simp only [List.mem_cons, List.mem_nil_iff, or_false] at hi; rcases hi with rfl
                    · refine HeldBut.step (i := 9) rfl (fun K hK => ?_)
                      refine step_store_blk (by rfl) _ (.tmp 9) (.tmp 32) (by rfl) (by rfl) (by rfl) (by rfl) g9 told_info (by rfl) (one_told _ _ _ _ _ _ _ _ _ _ _ _ _ _) ?_
                      intro U9 f9 e8
                      replace g10 := g10.ext e8 (by simp; omega)
                      replace hO3 := hO3.other g9 (by decide) (by decide) e8
                      replace hI3 := hI3.keep e8 (own_ne hI3.2.2.2.2 g9 (by decide))
                      replace hI6 := hI6.keep e8 (own_ne hI6.2.2.2.2 g9 (by decide))
                      have y6n : Ext [b9, b10] w6 _ := (y6.mono (fun k _ h => by simp at h ⊢)).trans (e8.mono (fun k _ h => by simp at h ⊢; omega)); clear y6; have y6 := y6n; clear y6n
                      clear g9; have g9 := f9; clear f9
                      have hS1 := hS0.trans' e8 (fun i hi => .inr (by simp at hi; omega))
                      refine hK.out _ _ (fun _ => hS1) ?_; clear hK K
                      try simp only [Act.put, List.getElem_toArray, List.getElem_cons_zero, List.getElem_cons_succ, List.setIfInBounds_toArray, List.set_cons_zero, List.set_cons_succ]
                      clear hS0 e8
                      have hS0 := hS1; clear hS1
                      refine HeldBut.each [10] (by kernel_rfl) rfl ?_
                      intro i hi; simp only [List.mem_cons, List.mem_nil_iff, or_false] at hi; rcases hi with rfl
                      · refine HeldBut.step (i := 10) rfl (fun K hK => ?_)
                        refine step_store_blk (by rfl) _ (.tmp 10) (.tmp 36) (by rfl) (by rfl) (by rfl) (by rfl) g10 told_info (by rfl) (one_told _ _ _ _ _ _ _ _ _ _ _ _ _ _) ?_
                        intro U10 f10 e8
                        replace g9 := g9.ext e8 (by simp; omega)
                        replace hO3 := hO3.other g10 (by decide) (by decide) e8
                        replace hI3 := hI3.keep e8 (own_ne hI3.2.2.2.2 g10 (by decide))
                        replace hI6 := hI6.keep e8 (own_ne hI6.2.2.2.2 g10 (by decide))
                        have y6n : Ext [b9, b10] w6 _ := (y6.mono (fun k _ h => by simp at h ⊢; exact h)).trans (e8.mono (fun k _ h => by simp at h ⊢; omega)); clear y6; have y6 := y6n; clear y6n
                        clear g10; have g10 := f10; clear f10
                        have hS1 := hS0.trans' e8 (fun i hi => .inr (by simp at hi; omega))
                        refine hK.out _ _ (fun _ => hS1) ?_; clear hK K
                        try simp only [Act.put, List.getElem_toArray, List.getElem_cons_zero, List.getElem_cons_succ, List.setIfInBounds_toArray, List.set_cons_zero, List.set_cons_succ]
                        clear hS0 e8
                        have hS0 := hS1; clear hS1
                        refine HeldBut.done (by kernel_rfl) ?_ _
                        go_wp2_with (fail)
                        go_meet
                        exact ⟨b9, b10, _, _, rs3, _, _, rfl, rfl, hS0, l9, l10, g9, g10, ⟨_, _, _, rfl⟩, ⟨_, _, _, rfl⟩, ⟨_, _, _, rfl⟩, ⟨_, _, _, rfl⟩, hO3.mono lA, hI3.mono lA, hA3, hQ6.out [b9, b10] _ (fun k hk => by simp at hk; rcases hk with rfl | rfl; exact q9; exact q10) y6, hI6.pis (by simp)⟩
              · refine HeldBut.step (i := 8) rfl (fun K hK => ?_)
                try simp only [List.getElem_toArray, List.getElem_cons_zero, List.getElem_cons_succ]
                go_simp
                have e6 := (Ext.refl [] w5).alloc (.cells #[.int .u64 0, .slice none 0 0, .int .u64 0, .int .u64 0, .int .i64 0, .int .i64 0, .slice none 0 0, .bool false, .int .i64 0, .int .i64 0] 36)
                replace hO3 := hO3.ext e6
                replace hI3 := hI3.keep e6 (fun _ _ => by simp)
                replace hP5 := hP5.ext e6
                have g10 := Blk.new w5 [.int .u64 0, .slice none 0 0, .int .u64 0, .int .u64 0, .int .i64 0, .int .i64 0, .slice none 0 0, .bool false, .int .i64 0, .int .i64 0] 36
                have l10 := hS0.size
                have hS1 := hS0.trans e6
                refine hK.out _ _ (fun _ => hS1) ?_; clear hK K
                try simp only [Act.put, List.getElem_toArray, List.getElem_cons_zero, List.getElem_cons_succ, List.setIfInBounds_toArray, List.set_cons_zero, List.set_cons_succ]
                clear hS0 e6
                have hS0 := hS1; clear hS1
                generalize w5.alloc (.cells #[.int .u64 0, .slice none 0 0, .int .u64 0, .int .u64 0, .int .i64 0, .int .i64 0, .slice none 0 0, .bool false, .int .i64 0, .int .i64 0] 36) = U8 at *
                generalize w5.heap.size = b10 at *
                refine HeldBut.each [6, 7] (by kernel_rfl) rfl ?_
                intro i hi; simp only [List.mem_cons, List.mem_nil_iff, or_false] at hi; rcases hi with rfl | rfl
                · refine HeldBut.step (i := 6) rfl (fun K hK => ?_)
                  try simp only [List.getElem_toArray, List.getElem_cons_zero, List.getElem_cons_succ]
                  go_simp
                  go_at_call 12
                  (with_reducible refine (wn _ hS0 _ hP5).mono ?_)
                  rintro e w6 ⟨v6, r6, ⟨a6, n6, c6, rfl⟩, rfl, hP6, hI6, x6⟩
                  obtain ⟨pa, pc, rfl⟩ := (hI6.pis (X := []) (by simp)).shape
                  dsimp only
                  have hS1 := hS0.trans x6
                  refine hK.out _ _ (fun _ => hS1) ?_; clear hK K
                  try simp only [Act.put, List.getElem_toArray, List.getElem_cons_zero, List.getElem_cons_succ, List.setIfInBounds_toArray, List.set_cons_zero, List.set_cons_succ]
                  obtain ⟨A6, hAA⟩ : ∃ A, U8.heap.size = A := ⟨_, rfl⟩
                  obtain ⟨z6, hzz, hQ6⟩ : ∃ z, w6.heap.size = z ∧ Hid (∀ X w'', (∀ k ∈ X, k < A6 ∨ z ≤ k) → Ext X w6 w'' → Ps w'' (.slice a6 n6 c6) T.n.ps) := ⟨_, rfl, hAA ▸ hP6⟩
                  rw [hAA] at hI6
                  have hs6 : z6 ≤ w6.heap.size := Nat.le_of_eq hzz.symm
                  have y6 := Ext.refl [] w6
                  have q10 : b10 < A6 ∨ z6 ≤ b10 := .inl (by have := g10.lt; omega)
                  clear hP6 hAA hzz
                  replace g10 := g10.ext x6 (by simp)
                  replace hO3 := hO3.ext x6
                  replace hI3 := hI3.keep x6 (fun _ _ => by simp)
                  replace hP5 := hP5.ext x6
                  clear hS0 x6 hP5
                  have hS0 := hS1; clear hS1
                  refine HeldBut.each [7] (by kernel_rfl) rfl ?_
                  intro i hi; simp only [List.mem_cons, List.mem_nil_iff, or_false] at hi; rcases hi with rfl
                  · refine HeldBut.step (i := 7) rfl (fun K hK => ?_)
                    try simp only [List.getElem_toArray, List.getElem_cons_zero, List.getElem_cons_succ]
                    go_simp
                    have e6 := (Ext.refl [] w6).alloc (.cells #[.int .u64 0, .slice none 0 0, .int .u64 0, .int .u64 0, .int .i64 0, .int .i64 0, .slice none 0 0, .bool false, .int .i64 0, .int .i64 0] 36)
                    have hne : b10 ≠ w6.heap.size := by have := g10.lt; omega
                    have hs6o := hs6
                    replace g10 := g10.ext e6 (by simp)
                    replace hO3 := hO3.ext e6
                    replace hI3 := hI3.keep e6 (fun _ _ => by simp)
                    have y6n := y6.trans e6; clear y6; have y6 := y6n; clear y6n
                    have hs6n := Nat.le_trans hs6 (e6).size; clear hs6; have hs6 := hs6n; clear hs6n
                    replace hI6 := hI6.keep e6 (fun _ _ => by simp)
                    have g9 := Blk.new w6 [.int .u64 0, .slice none 0 0, .int .u64 0, .int .u64 0, .int .i64 0, .int .i64 0, .slice none 0 0, .bool false, .int .i64 0, .int .i64 0] 36
                    have l9 := hS0.size
                    have q9 : w6.heap.size < A6 ∨ z6 ≤ w6.heap.size := .inr hs6o
                    have hS1 := hS0.trans e6
                    refine hK.out _ _ (fun _ => hS1) ?_; clear hK K
                    try simp only [Act.put, List.getElem_toArray, List.getElem_cons_zero, List.getElem_cons_succ, List.setIfInBounds_toArray, List.set_cons_zero, List.set_cons_succ]
                    clear hS0 e6 hs6o
                    have hS0 := hS1; clear hS1
                    generalize w6.alloc (.cells #[.int .u64 0, .slice none 0 0, .int .u64 0, .int .u64 0, .int .i64 0, .int .i64 0, .slice none 0 0, .bool false, .int .i64 0, .int .i64 0] 36) = U7 at *
                    generalize w6.heap.size = b9 at *
                    refine HeldBut.each [9] (by kernel_rfl) rfl ?_
                    intro i hi; simp only [List.mem_cons, List.mem_nil_iff, or_false] at hi; rcases hi with rfl
                    · refine HeldBut.step (i := 9) rfl (fun K hK => ?_)
                      refine step_store_blk (by rfl) _ (.tmp 9) (.tmp 32) (by rfl) (by rfl) (by rfl) (by rfl) g9 told_info (by rfl) (one_told _ _ _ _ _ _ _ _ _ _ _ _ _ _) ?_
                      intro U9 f9 e8
                      replace g10 := g10.ext e8 (by simp; omega)
                      replace hO3 := hO3.other g9 (by decide) (by decide) e8
                      replace hI3 := hI3.keep e8 (own_ne hI3.2.2.2.2 g9 (by decide))
                      replace hI6 := hI6.keep e8 (own_ne hI6.2.2.2.2 g9 (by decide))
                      have y6n : Ext [b9, b10] w6 _ := (y6.mono (fun k _ h => by simp at h ⊢)).trans (e8.mono (fun k _ h => by simp at h ⊢; omega)); clear y6; have y6 := y6n; clear y6n
                      clear g9; have g9 := f9; clear f9
                      have hS1 := hS0.trans' e8 (fun i hi => .inr (by simp at hi; omega))
                      refine hK.out _ _ (fun _ => hS1) ?_; clear hK K
                      try simp only [Act.put, List.getElem_toArray, List.getElem_cons_zero, List.getElem_cons_succ, List.setIfInBounds_toArray, List.set_cons_zero, List.set_cons_succ]
                      clear hS0 e8
                      have hS0 := hS1; clear hS1
                      refine HeldBut.each [10] (by kernel_rfl) rfl ?_
                      intro i hi; simp only [List.mem_cons, List.mem_nil_iff, or_false] at hi; rcases hi with rfl
                      · refine HeldBut.step (i := 10) rfl (fun K hK => ?_)
                        refine step_store_blk (by rfl) _ (.tmp 10) (.tmp 36) (by rfl) (by rfl) (by rfl) (by rfl) g10 told_info (by rfl) (one_told _ _ _ _ _ _ _ _ _ _ _ _ _ _) ?_
                        intro U10 f10 e8
                        replace g9 := g9.ext e8 (by simp; omega)
                        replace hO3 := hO3.other g10 (by decide) (by decide) e8
                        replace hI3 := hI3.keep e8 (own_ne hI3.2.2.2.2 g10 (by decide))
                        replace hI6 := hI6.keep e8 (own_ne hI6.2.2.2.2 g10 (by decide))
                        have y6n : Ext [b9, b10] w6 _ := (y6.mono (fun k _ h => by simp at h ⊢; exact h)).trans (e8.mono (fun k _ h => by simp at h ⊢; omega)); clear y6; have y6 := y6n; clear y6n
                        clear g10; have g10 := f10; clear f10
                        have hS1 := hS0.trans' e8 (fun i hi => .inr (by simp at hi; omega))
                        refine hK.out _ _ (fun _ => hS1) ?_; clear hK K
                        try simp only [Act.put, List.getElem_toArray, List.getElem_cons_zero, List.getElem_cons_succ, List.setIfInBounds_toArray, List.set_cons_zero, List.set_cons_succ]
                        clear hS0 e8
                        have hS0 := hS1; clear hS1
                        refine HeldBut.done (by kernel_rfl) ?_ _
                        go_wp2_with (fail)
                        go_meet
                        exact ⟨b9, b10, _, _, rs3, _, _, rfl, rfl, hS0, l9, l10, g9, g10, ⟨_, _, _, rfl⟩, ⟨_, _, _, rfl⟩, ⟨_, _, _, rfl⟩, ⟨_, _, _, rfl⟩, hO3.mono lA, hI3.mono lA, hA3, hQ6.out [b9, b10] _ (fun k hk => by simp at hk; rcases hk with rfl | rfl; exact q9; exact q10) y6, hI6.pis (by simp)⟩
                · refine HeldBut.step (i := 7) rfl (fun K hK => ?_)
                  try simp only [List.getElem_toArray, List.getElem_cons_zero, List.getElem_cons_succ]
                  go_simp
                  have e6 := (Ext.refl [] U8).alloc (.cells #[.int .u64 0, .slice none 0 0, .int .u64 0, .int .u64 0, .int .i64 0, .int .i64 0, .slice none 0 0, .bool false, .int .i64 0, .int .i64 0] 36)
                  have hne : b10 ≠ U8.heap.size := by have := g10.lt; omega
                  replace g10 := g10.ext e6 (by simp)
                  replace hO3 := hO3.ext e6
                  replace hI3 := hI3.keep e6 (fun _ _ => by simp)
                  replace hP5 := hP5.ext e6
                  have g9 := Blk.new U8 [.int .u64 0, .slice none 0 0, .int .u64 0, .int .u64 0, .int .i64 0, .int .i64 0, .slice none 0 0, .bool false, .int .i64 0, .int .i64 0] 36
                  have l9 := hS0.size
                  have hS1 := hS0.trans e6
                  refine hK.out _ _ (fun _ => hS1) ?_; clear hK K
                  try simp only [Act.put, List.getElem_toArray, List.getElem_cons_zero, List.getElem_cons_succ, List.setIfInBounds_toArray, List.set_cons_zero, List.set_cons_succ]
                  clear hS0 e6
                  have hS0 := hS1; clear hS1
                  generalize U8.alloc (.cells #[.int .u64 0, .slice none 0 0, .int .u64 0, .int .u64 0, .int .i64 0, .int .i64 0, .slice none 0 0, .bool false, .int .i64 0, .int .i64 0] 36) = U7 at *
                  generalize U8.heap.size = b9 at *
                  refine HeldBut.each [6] (by kernel_rfl) rfl ?_
                  intro i hi; simp only [List.mem_cons, List.mem_nil_iff, or_false] at hi; rcases hi with rfl
                  · refine HeldBut.step (i := 6) rfl (fun K hK => ?_)
                    try simp only [List.getElem_toArray, List.getElem_cons_zero, List.getElem_cons_succ]
                    go_simp
                    go_at_call 12
                    (with_reducible refine (wn _ hS0 _ hP5).mono ?_)
                    rintro e w6 ⟨v6, r6, ⟨a6, n6, c6, rfl⟩, rfl, hP6, hI6, x6⟩
                    obtain ⟨pa, pc, rfl⟩ := (hI6.pis (X := []) (by simp)).shape
                    dsimp only
                    have hS1 := hS0.trans x6
                    refine hK.out _ _ (fun _ => hS1) ?_; clear hK K
                    try simp only [Act.put, List.getElem_toArray, List.getElem_cons_zero, List.getElem_cons_succ, List.setIfInBounds_toArray, List.set_cons_zero, List.set_cons_succ]
                    obtain ⟨A6, hAA⟩ : ∃ A, U7.heap.size = A := ⟨_, rfl⟩
                    obtain ⟨z6, hzz, hQ6⟩ : ∃ z, w6.heap.size = z ∧ Hid (∀ X w'', (∀ k ∈ X, k < A6 ∨ z ≤ k) → Ext X w6 w'' → Ps w'' (.slice a6 n6 c6) T.n.ps) := ⟨_, rfl, hAA ▸ hP6⟩
                    rw [hAA] at hI6
                    have hs6 : z6 ≤ w6.heap.size := Nat.le_of_eq hzz.symm
                    have y6 := Ext.refl [] w6
                    have q9 : b9 < A6 ∨ z6 ≤ b9 := .inl (by have := g9.lt; omega)
                    have q10 : b10 < A6 ∨ z6 ≤ b10 := .inl (by have := g10.lt; omega)
                    clear hP6 hAA hzz
                    replace g9 := g9.ext x6 (by simp)
                    replace g10 := g10.ext x6 (by simp)
                    replace hO3 := hO3.ext x6
                    replace hI3 := hI3.keep x6 (fun _ _ => by simp)
                    replace hP5 := hP5.ext x6
                    clear hS0 x6 hP5
                    have hS0 := hS1; clear hS1
                    refine HeldBut.each [9] (by kernel_rfl) rfl ?_
                    intro i hi; simp only [List.mem_cons, List.mem_nil_iff, or_false] at hi; rcases hi with rfl
                    · refine HeldBut.step (i := 9) rfl (fun K hK => ?_)
                      refine step_store_blk (by rfl) _ (.tmp 9) (.tmp 32) (by rfl) (by rfl) (by rfl) (by rfl) g9 told_info (by rfl) (one_told _ _ _ _ _ _ _ _ _ _ _ _ _ _) ?_
                      intro U9 f9 e8
                      replace g10 := g10.ext e8 (by simp; omega)
                      replace hO3 := hO3.other g9 (by decide) (by decide) e8
                      replace hI3 := hI3.keep e8 (own_ne hI3.2.2.2.2 g9 (by decide))
                      replace hI6 := hI6.keep e8 (own_ne hI6.2.2.2.2 g9 (by decide))
                      have y6n : Ext [b9, b10] w6 _ := (y6.mono (fun k _ h => by simp at h ⊢)).trans (e8.mono (fun k _ h => by simp at h ⊢; omega)); clear y6; have y6 := y6n; clear y6n
                      clear g9; have g9 := f9; clear f9
                      have hS1 := hS0.trans' e8 (fun i hi => .inr (by simp at hi; omega))
                      refine hK.out _ _ (fun _ => hS1) ?_; clear hK K
                      try simp only [Act.put, List.getElem_toArray, List.getElem_cons_zero, List.getElem_cons_succ, List.setIfInBounds_toArray, List.set_cons_zero, List.set_cons_succ]
                      clear hS0 e8
                      have hS0 := hS1; clear hS1
                      refine HeldBut.each [10] (by kernel_rfl) rfl ?_
                      intro i hi; simp only [List.mem_cons, List.mem_nil_iff, or_false] at hi; rcases hi with rfl
                      · refine HeldBut.step (i := 10) rfl (fun K hK => ?_)
                        refine step_store_blk (by rfl) _ (.tmp 10) (.tmp 36) (by rfl) (by rfl) (by rfl) (by rfl) g10 told_info (by rfl) (one_told _ _ _ _ _ _ _ _ _ _ _ _ _ _) ?_
                        intro U10 f10 e8
                        replace g9 := g9.ext e8 (by simp; omega)
                        replace hO3 := hO3.other g10 (by decide) (by decide) e8
                        replace hI3 := hI3.keep e8 (own_ne hI3.2.2.2.2 g10 (by decide))
                        replace hI6 := hI6.keep e8 (own_ne hI6.2.2.2.2 g10 (by decide))
                        have y6n : Ext [b9, b10] w6 _ := (y6.mono (fun k _ h => by simp at h ⊢; exact h)).trans (e8.mono (fun k _ h => by simp at h ⊢; omega)); clear y6; have y6 := y6n; clear y6n
                        clear g10; have g10 := f10; clear f10
                        have hS1 := hS0.trans' e8 (fun i hi => .inr (by simp at hi; omega))
                        refine hK.out _ _ (fun _ => hS1) ?_; clear hK K
                        try simp only [Act.put, List.getElem_toArray, List.getElem_cons_zero, List.getElem_cons_succ, List.setIfInBounds_toArray, List.set_cons_zero, List.set_cons_succ]
                        clear hS0 e8
                        have hS0 := hS1; clear hS1
                        refine HeldBut.done (by kernel_rfl) ?_ _
                        go_wp2_with (fail)
                        go_meet
                        exact ⟨b9, b10, _, _, rs3, _, _, rfl, rfl, hS0, l9, l10, g9, g10, ⟨_, _, _, rfl⟩, ⟨_, _, _, rfl⟩, ⟨_, _, _, rfl⟩, ⟨_, _, _, rfl⟩, hO3.mono lA, hI3.mono lA, hA3, hQ6.out [b9, b10] _ (fun k hk => by simp at hk; rcases hk with rfl | rfl; exact q9; exact q10) y6, hI6.pis (by simp)⟩
            · refine HeldBut.step (i := 7) rfl (fun K hK => ?_)
              try simp only [List.getElem_toArray, List.getElem_cons_zero, List.getElem_cons_succ]
              go_simp
              have e6 := (Ext.refl [] w3).alloc (.cells #[.int .u64 0, .slice none 0 0, .int .u64 0, .int .u64 0, .int .i64 0, .int .i64 0, .slice none 0 0, .bool false, .int .i64 0, .int .i64 0] 36)
              replace hO3 := hO3.ext e6
              replace hI3 := hI3.keep e6 (fun _ _ => by simp)
              have g9 := Blk.new w3 [.int .u64 0, .slice none 0 0, .int .u64 0, .int .u64 0, .int .i64 0, .int .i64 0, .slice none 0 0, .bool false, .int .i64 0, .int .i64 0] 36
              have l9 := hS0.size
              have hS1 := hS0.trans e6
              refine hK.out _ _ (fun _ => hS1) ?_; clear hK K
              try simp only [Act.put, List.getElem_toArray, List.getElem_cons_zero, List.getElem_cons_succ, List.setIfInBounds_toArray, List.set_cons_zero, List.set_cons_succ]
              clear hS0 e6
              have hS0 := hS1; clear hS1
              generalize w3.alloc (.cells #[.int .u64 0, .slice none 0 0, .int .u64 0, .int .u64 0, .int .i64 0, .int .i64 0, .slice none 0 0, .bool false, .int .i64 0, .int .i64 0] 36) = U7 at *
              generalize w3.heap.size = b9 at *
              refine HeldBut.each [5, 8] (by kernel_rfl) rfl ?_
              intro i hi; simp only [List.mem_cons, List.mem_nil_iff, or_false] at hi; rcases hi with rfl | rfl
              · refine HeldBut.step (i := 5) rfl (fun K hK => ?_)
                try simp only [List.getElem_toArray, List.getElem_cons_zero, List.getElem_cons_succ]
                go_simp
                go_at_call 10
                (with_reducible refine (sh _ hS0).mono ?_)
                rintro e w5 ⟨v5, rs5, ⟨a5, n5, c5, rfl⟩, rfl, hO5, x5⟩
                dsimp only
                have hP5 := hO5.ps
                clear hO5
                have hS1 := hS0.trans x5
                refine hK.out _ _ (fun _ => hS1) ?_; clear hK K
                try simp only [Act.put, List.getElem_toArray, List.getElem_cons_zero, List.getElem_cons_succ, List.setIfInBounds_toArray, List.set_cons_zero, List.set_cons_succ]
                replace g9 := g9.ext x5 (by simp)
                replace hO3 := hO3.ext x5
                replace hI3 := hI3.keep x5 (fun _ _ => by simp)
                clear hS0 x5
                have hS0 := hS1; clear hS1
                refine HeldBut.each [6, 8] (by kernel_rfl) rfl ?_
                intro i hi; simp only [List.mem_cons, List.mem_nil_iff, or_false] at hi; rcases hi with rfl | rfl
                · refine HeldBut.step (i := 6) rfl (fun K hK => ?_)
                  try simp only [List.getElem_toArray, List.getElem_cons_zero, List.getElem_cons_succ]
                  go_simp
                  go_at_call 12
                  (with_reducible refine (wn _ hS0 _ hP5).mono ?_)
                  rintro e w6 ⟨v6, r6, ⟨a6, n6, c6, rfl⟩, rfl, hP6, hI6, x6⟩
                  obtain ⟨pa, pc, rfl⟩ := (hI6.pis (X := []) (by simp)).shape
                  dsimp only
                  have hS1 := hS0.trans x6
                  refine hK.out _ _ (fun _ => hS1) ?_; clear hK K
                  try simp only [Act.put, List.getElem_toArray, List.getElem_cons_zero, List.getElem_cons_succ, List.setIfInBounds_toArray, List.set_cons_zero, List.set_cons_succ]
                  obtain ⟨A6, hAA⟩ : ∃ A, w5.heap.size = A := ⟨_, rfl⟩
                  obtain ⟨z6, hzz, hQ6⟩ : ∃ z, w6.heap.size = z ∧ Hid (∀ X w'', (∀ k ∈ X, k < A6 ∨ z ≤ k) → Ext X w6 w'' → Ps w'' (.slice a6 n6 c6) T.n.ps) := ⟨_, rfl, hAA ▸ hP6⟩
                  rw [hAA] at hI6
                  have hs6 : z6 ≤ w6.heap.size := Nat.le_of_eq hzz.symm
                  have y6 := Ext.refl [] w6
                  have q9 : b9 < A6 ∨ z6 ≤ b9 := .inl (by have := g9.lt; omega)
                  clear hP6 hAA hzz
                  replace g9 := g9.ext x6 (by simp)
                  replace hO3 := hO3.ext x6
                  replace hI3 := hI3.keep x6 (fun _ _ => by simp)
                  replace hP5 := hP5.ext x6
                  clear hS0 x6 hP5
                  have hS0 := hS1; clear hS1
                  refine HeldBut.each [8] (by kernel_rfl) rfl ?_
                  intro i hi; simp only [List.mem_cons, List.mem_nil_iff, or_false] at hi; rcases hi with rfl
                  · refine HeldBut.step (i := 8) rfl (fun K hK => ?_)
                    try simp only [List.getElem_toArray, List.getElem_cons_zero, List.getElem_cons_succ]
                    go_simp
                    have e6 := (Ext.refl [] w6).alloc (.cells #[.int .u64 0, .slice none 0 0, .int .u64 0, .int .u64 0, .int .i64 0, .int .i64 0, .slice none 0 0, .bool false, .int .i64 0, .int .i64 0] 36)
                    have hne : b9 ≠ w6.heap.size := by have := g9.lt; omega
                    have hs6o := hs6
                    replace g9 := g9.ext e6 (by simp)
                    replace hO3 := hO3.ext e6
                    replace hI3 := hI3.keep e6 (fun _ _ => by simp)
                    have y6n := y6.trans e6; clear y6; have y6 := y6n; clear y6n
                    have hs6n := Nat.le_trans hs6 (e6).size; clear hs6; have hs6 := hs6n; clear hs6n
                    replace hI6 := hI6.keep e6 (fun _ _ => by simp)
                    have g10 := Blk.new w6 [.int .u64 0, .slice none 0 0, .int .u64 0, .int .u64 0, .int .i64 0, .int .i64 0, .slice none 0 0, .bool false, .int .i64 0, .int .i64 0] 36
                    have l10 := hS0.size
                    have q10 : w6.heap.size < A6 ∨ z6 ≤ w6.heap.size := .inr hs6o
                    have hS1 := hS0.trans e6
                    refine hK.out _ _ (fun _ => hS1) ?_; clear hK K
                    try simp only [Act.put, List.getElem_toArray, List.getElem_cons_zero, List.getElem_cons_succ, List.setIfInBounds_toArray, List.set_cons_zero, List.set_cons_succ]
                    clear hS0 e6 hs6o
                    have hS0 := hS1; clear hS1
                    generalize w6.alloc (.cells #[.int .u64 0, .slice none 0 0, .int .u64 0, .int .u64 0, .int .i64 0, .int .i64 0, .slice none 0 0, .bool false, .int .i64 0, .int .i64 0] 36) = U8 at *
                    generalize w6.heap.size = b10 at *
                    refine HeldBut.each [9] (by kernel_rfl) rfl ?_
                    intro i hi; simp only [List.mem_cons, List.mem_nil_iff, or_false] at hi; rcases hi with rfl
                    · refine HeldBut.step (i := 9) rfl (fun K hK => ?_)
                      refine step_store_blk (by rfl) _ (.tmp 9) (.tmp 32) (by rfl) (by rfl) (by rfl) (by rfl) g9 told_info (by rfl) (one_told _ _ _ _ _ _ _ _ _ _ _ _ _ _) ?_
                      intro U9 f9 e8
                      replace g10 := g10.ext e8 (by simp; omega)
                      replace hO3 := hO3.other g9 (by decide) (by decide) e8
                      replace hI3 := hI3.keep e8 (own_ne hI3.2.2.2.2 g9 (by decide))
                      replace hI6 := hI6.keep e8 (own_ne hI6.2.2.2.2 g9 (by decide))
                      have y6n : Ext [b9, b10] w6 _ := (y6.mono (fun k _ h => by simp at h ⊢)).trans (e8.mono (fun k _ h => by simp at h ⊢; omega)); clear y6; have y6 := y6n; clear y6n
                      clear g9; have g9 := f9; clear f9
                      have hS1 := hS0.trans' e8 (fun i hi => .inr (by simp at hi; omega))
                      refine hK.out _ _ (fun _ => hS1) ?_; clear hK K
                      try simp only [Act.put, List.getElem_toArray, List.getElem_cons_zero, List.getElem_cons_succ, List.setIfInBounds_toArray, List.set_cons_zero, List.set_cons_succ]
                      clear hS0 e8
                      have hS0 := hS1; clear hS1
                      refine HeldBut.each [10] (by kernel_rfl) rfl ?_
                      intro i hi; simp only [List.mem_cons, List.mem_nil_iff, or_false] at hi; rcases hi with rfl
                      · refine HeldBut.step (i := 10) rfl (fun K hK => ?_)
                        refine step_store_blk (by rfl) _ (.tmp 10) (.tmp 36) (by rfl) (by rfl) (by rfl) (by rfl) g10 told_info (by rfl) (one_told _ _ _ _ _ _ _ _ _ _ _ _ _ _) ?_
                        intro U10 f10 e8
                        replace g9 := g9.ext e8 (by simp; omega)
                        replace hO3 := hO3.other g10 (by decide) (by decide) e8
                        replace hI3 := hI3.keep e8 (own_ne hI3.2.2.2.2 g10 (by decide))
                        replace hI6 := hI6.keep e8 (own_ne hI6.2.2.2.2 g10 (by decide))
                        have y6n : Ext [b9, b10] w6 _ := (y6.mono (fun k _ h => by simp at h ⊢; exact h)).trans (e8.mono (fun k _ h => by simp at h ⊢; omega)); clear y6; have y6 := y6n; clear y6n
                        clear g10; have g10 := f10; clear f10
                        have hS1 := hS0.trans' e8 (fun i hi => .inr (by simp at hi; omega))
                        refine hK.out _ _ (fun _ => hS1) ?_; clear hK K
                        try simp only [Act.put, List.getElem_toArray, List.getElem_cons_zero, List.getElem_cons_succ, List.setIfInBounds_toArray, List.set_cons_zero, List.set_cons_succ]
                        clear hS0 e8
                        have hS0 := hS1; clear hS1
                        refine HeldBut.done (by kernel_rfl) ?_ _
                        go_wp2_with (fail)
                        go_meet
                        exact ⟨b9, b10, _, _, rs3, _, _, rfl, rfl, hS0, l9, l10, g9, g10, ⟨_, _, _, rfl⟩, ⟨_, _, _, rfl⟩, ⟨_, _, _, rfl⟩, ⟨_, _, _, rfl⟩, hO3.mono lA, hI3.mono lA, hA3, hQ6.out [b9, b10] _ (fun k hk => by simp at hk; rcases hk with rfl | rfl; exact q9; exact q10) y6, hI6.pis (by simp)⟩
                · refine HeldBut.step (i := 8) rfl (fun K hK => ?_)
                  try simp only [List.getElem_toArray, List.getElem_cons_zero, List.getElem_cons_succ]
                  go_simp
                  have e6 := (Ext.refl [] w5).alloc (.cells #[.int .u64 0, .slice none 0 0, .int .u64 0, .int .u64 0, .int .i64 0, .int .i64 0, .slice none 0 0, .bool false, .int .i64 0, .int .i64 0] 36)
                  have hne : b9 ≠ w5.heap.size := by have := g9.lt; omega
                  replace g9 := g9.ext e6 (by simp)
                  replace hO3 := hO3.ext e6
                  replace hI3 := hI3.keep e6 (fun _ _ => by simp)
                  replace hP5 := hP5.ext e6
                  have g10 := Blk.new w5 [.int .u64 0, .slice none 0 0, .int .u64 0, .int .u64 0, .int .i64 0, .int .i64 0, .slice none 0 0, .bool false, .int .i64 0, .int .i64 0] 36
                  have l10 := hS0.size
                  have hS1 := hS0.trans e6
                  refine hK.out _ _ (fun _ => hS1) ?_; clear hK K
                  try simp only [Act.put, List.getElem_toArray, List.getElem_cons_zero, List.getElem_cons_succ, List.setIfInBounds_toArray, List.set_cons_zero, List.set_cons_succ]
                  clear hS0 e6
                  have hS0 := hS1; clear hS1
                  generalize w5.alloc (.cells #[.int .u64 0, .slice none 0 0, .int .u64 0, .int .u64 0, .int .i64 0, .int .i64 0, .slice none 0 0, .bool false, .int .i64 0, .int .i64 0] 36) = U8 at *
                  generalize w5.heap.size = b10 at *
                  refine HeldBut.each [6] (by kernel_rfl) rfl ?_
                  intro i hi; simp only [List.mem_cons, List.mem_nil_iff, or_false] at hi; rcases hi with rfl
                  · refine HeldBut.step (i := 6) rfl (fun K hK => ?_)
                    try simp only [List.getElem_toArray, List.getElem_cons_zero, List.getElem_cons_succ]
                    go_simp
                    go_at_call 12
                    (with_reducible refine (wn _ hS0 _ hP5).mono ?_)
                    rintro e w6 ⟨v6, r6, ⟨a6, n6, c6, rfl⟩, rfl, hP6, hI6, x6⟩
                    obtain ⟨pa, pc, rfl⟩ := (hI6.pis (X := []) (by simp)).shape
                    dsimp only
                    have hS1 := hS0.trans x6
                    refine hK.out _ _ (fun _ => hS1) ?_; clear hK K
                    try simp only [Act.put, List.getElem_toArray, List.getElem_cons_zero, List.getElem_cons_succ, List.setIfInBounds_toArray, List.set_cons_zero, List.set_cons_succ]
                    obtain ⟨A6, hAA⟩ : ∃ A, U8.heap.size = A := ⟨_, rfl⟩
                    obtain ⟨z6, hzz, hQ6⟩ : ∃ z, w6.heap.size = z ∧ Hid (∀ X w'', (∀ k ∈ X, k < A6 ∨ z ≤ k) → Ext X w6 w'' → Ps w'' (.slice a6 n6 c6) T.n.ps) := ⟨_, rfl, hAA ▸ hP6⟩
                    rw [hAA] at hI6
                    have hs6 : z6 ≤ w6.heap.size := Nat.le_of_eq hzz.symm
                    have y6 := Ext.refl [] w6
                    have q9 : b9 < A6 ∨ z6 ≤ b9 := .inl (by have := g9.lt; omega)
                    have q10 : b10 < A6 ∨ z6 ≤ b10 := .inl (by have := g10.lt; omega)
                    clear hP6 hAA hzz
                    replace g9 := g9.ext x6 (by simp)
                    replace g10 := g10.ext x6 (by simp)
                    replace hO3 := hO3.ext x6
                    replace hI3 := hI3.keep x6 (fun _ _ => by simp)
                    replace hP5 := hP5.ext x6
                    clear hS0 x6 hP5
                    have hS0 := hS1; clear hS1
                    refine HeldBut.each [9] (by kernel_rfl) rfl ?_
                    intro i hi; simp only [List.mem_cons, List.mem_nil_iff, or_false] at hi; rcases hi with rfl
                    · refine HeldBut.step (i := 9) rfl (fun K hK => ?_)
                      refine step_store_blk (by rfl) _ (.tmp 9) (.tmp 32) (by rfl) (by rfl) (by rfl) (by rfl) g9 told_info (by rfl) (one_told _ _ _ _ _ _ _ _ _ _ _ _ _ _) ?_
                      intro U9 f9 e8
                      replace g10 := g10.ext e8 (by simp; omega)
                      replace hO3 := hO3.other g9 (by decide) (by decide) e8
                      replace hI3 := hI3.keep e8 (own_ne hI3.2.2.2.2 g9 (by decide))
                      replace hI6 := hI6.keep e8 (own_ne hI6.2.2.2.2 g9 (by decide))
                      have y6n : Ext [b9, b10] w6 _ := (y6.mono (fun k _ h => by simp at h ⊢)).trans (e8.mono (fun k _ h => by simp at h ⊢; omega)); clear y6; have y6 := y6n; clear y6n
                      clear g9; have g9 := f9; clear f9
                      have hS1 := hS0.trans' e8 (fun i hi => .inr (by simp at hi; omega))
                      refine hK.out _ _ (fun _ => hS1) ?_; clear hK K
                      try simp only [Act.put, List.getElem_toArray, List.getElem_cons_zero, List.getElem_cons_succ, List.setIfInBounds_toArray, List.set_cons_zero, List.set_cons_succ]
                      clear hS0 e8
                      have hS0 := hS1; clear hS1
                      refine HeldBut.each [10] (by kernel_rfl) rfl ?_
                      intro i hi; simp only [List.mem_cons, List.mem_nil_iff, or_false] at hi; rcases hi with rfl
                      · refine HeldBut.step (i := 10) rfl (fun K hK => ?_)
                        refine step_store_blk (by rfl) _ (.tmp 10) (.tmp 36) (by rfl) (by rfl) (by rfl) (by rfl) g10 told_info (by rfl) (one_told _ _ _ _ _ _ _ _ _ _ _ _ _ _) ?_
                        intro U10 f10 e8
                        replace g9 := g9.ext e8 (by simp; omega)
                        replace hO3 := hO3.other g10 (by decide) (by decide) e8
                        replace hI3 := hI3.keep e8 (own_ne hI3.2.2.2.2 g10 (by decide))
                        replace hI6 := hI6.keep e8 (own_ne hI6.2.2.2.2 g10 (by decide))
                        have y6n : Ext [b9, b10] w6 _ := (y6.mono (fun k _ h => by simp at h ⊢; exact h)).trans (e8.mono (fun k _ h => by simp at h ⊢; omega)); clear y6; have y6 := y6n; clear y6n
                        clear g10; have g10 := f10; clear f10
                        have hS1 := hS0.trans' e8 (fun i hi => .inr (by simp at hi; omega))
                        refine hK.out _ _ (fun _ => hS1) ?_; clear hK K
                        try simp only [Act.put, List.getElem_toArray, List.getElem_cons_zero, List.getElem_cons_succ, List.setIfInBounds_toArray, List.set_cons_zero, List.set_cons_succ]
                        clear hS0 e8
                        have hS0 := hS1; clear hS1
                        refine HeldBut.done (by kernel_rfl) ?_ _
                        go_wp2_with (fail)
                        go_meet
                        exact ⟨b9, b10, _, _, rs3, _, _, rfl, rfl, hS0, l9, l10, g9, g10, ⟨_, _, _, rfl⟩, ⟨_, _, _, rfl⟩, ⟨_, _, _, rfl⟩, ⟨_, _, _, rfl⟩, hO3.mono lA, hI3.mono lA, hA3, hQ6.out [b9, b10] _ (fun k hk => by simp at hk; rcases hk with rfl | rfl; exact q9; exact q10) y6, hI6.pis (by simp)⟩
              · refine HeldBut.step (i := 8) rfl (fun K hK => ?_)
                try simp only [List.getElem_toArray, List.getElem_cons_zero, List.getElem_cons_succ]
                go_simp
                have e6 := (Ext.refl [] U7).alloc (.cells #[.int .u64 0, .slice none 0 0, .int .u64 0, .int .u64 0, .int .i64 0, .int .i64 0, .slice none 0 0, .bool false, .int .i64 0, .int .i64 0] 36)
                have hne : b9 ≠ U7.heap.size := by have := g9.lt; omega
                replace g9 := g9.ext e6 (by simp)
                replace hO3 := hO3.ext e6
                replace hI3 := hI3.keep e6 (fun _ _ => by simp)
                have g10 := Blk.new U7 [.int .u64 0, .slice none 0 0, .int .u64 0, .int .u64 0, .int .i64 0, .int .i64 0, .slice none 0 0, .bool false, .int .i64 0, .int .i64 0] 36
                have l10 := hS0.size
                have hS1 := hS0.trans e6
                refine hK.out _ _ (fun _ => hS1) ?_; clear hK K
                try simp only [Act.put, List.getElem_toArray, List.getElem_cons_zero, List.getElem_cons_succ, List.setIfInBounds_toArray, List.set_cons_zero, List.set_cons_succ]
                clear hS0 e6
                have hS0 := hS1; clear hS1
                generalize U7.alloc (.cells #[.int .u64 0, .slice none 0 0, .int .u64 0, .int .u64 0, .int .i64 0, .int .i64 0, .slice none 0 0, .bool false, .int .i64 0, .int .i64 0] 36) = U8 at *
                generalize U7.heap.size = b10 at *
                refine HeldBut.each [5] (by kernel_rfl) rfl ?_
                intro i hi; simp only [List.mem_cons, List.mem_nil_iff, or_false] at hi; rcases hi with rfl
                · refine HeldBut.step (i := 5) rfl (fun K hK => ?_)
                  try simp only [List.getElem_toArray, List.getElem_cons_zero, List.getElem_cons_succ]
                  go_simp
                  go_at_call 10
                  (with_reducible refine (sh _ hS0).mono ?_)
                  rintro e w5 ⟨v5, rs5, ⟨a5, n5, c5, rfl⟩, rfl, hO5, x5⟩
                  dsimp only
                  have hP5 := hO5.ps
                  clear hO5
                  have hS1 := hS0.trans x5
                  refine hK.out _ _ (fun _ => hS1) ?_; clear hK K
                  try simp only [Act.put, List.getElem_toArray, List.getElem_cons_zero, List.getElem_cons_succ, List.setIfInBounds_toArray, List.set_cons_zero, List.set_cons_succ]
                  replace g9 := g9.ext x5 (by simp)
                  replace g10 := g10.ext x5 (by simp)
                  replace hO3 := hO3.ext x5
                  replace hI3 := hI3.keep x5 (fun _ _ => by simp)
                  clear hS0 x5
                  have hS0 := hS1; clear hS1
                  refine HeldBut.each [6] (by kernel_rfl) rfl ?_
                  intro i hi; simp only [List.mem_cons, List.mem_nil_iff, or_false] at hi; rcases hi with rfl
                  · refine HeldBut.step (i := 6) rfl (fun K hK => ?_)
                    try simp only [List.getElem_toArray, List.getElem_cons_zero, List.getElem_cons_succ]
                    go_simp
                    go_at_call 12
                    (with_reducible refine (wn _ hS0 _ hP5).mono ?_)
                    rintro e w6 ⟨v6, r6, ⟨a6, n6, c6, rfl⟩, rfl, hP6, hI6, x6⟩
                    obtain ⟨pa, pc, rfl⟩ := (hI6.pis (X := []) (by simp)).shape
                    dsimp only
                    have hS1 := hS0.trans x6
                    refine hK.out _ _ (fun _ => hS1) ?_; clear hK K
                    try simp only [Act.put, List.getElem_toArray, List.getElem_cons_zero, List.getElem_cons_succ, List.setIfInBounds_toArray, List.set_cons_zero, List.set_cons_succ]
                    obtain ⟨A6, hAA⟩ : ∃ A, w5.heap.size = A := ⟨_, rfl⟩
                    obtain ⟨z6, hzz, hQ6⟩ : ∃ z, w6.heap.size = z ∧ Hid (∀ X w'', (∀ k ∈ X, k < A6 ∨ z ≤ k) → Ext X w6 w'' → Ps w'' (.slice a6 n6 c6) T.n.ps) := ⟨_, rfl, hAA ▸ hP6⟩
                    rw [hAA] at hI6
                    have hs6 : z6 ≤ w6.heap.size := Nat.le_of_eq hzz.symm
                    have y6 := Ext.refl [] w6
                    have q9 : b9 < A6 ∨ z6 ≤ b9 := .inl (by have := g9.lt; omega)
                    have q10 : b10 < A6 ∨ z6 ≤ b10 := .inl (by have := g10.lt; omega)
                    clear hP6 hAA hzz
                    replace g9 := g9.ext x6 (by simp)
                    replace g10 := g10.ext x6 (by simp)
                    replace hO3 := hO3.ext x6
                    replace hI3 := hI3.keep x6 (fun _ _ => by simp)
                    replace hP5 := hP5.ext x6
                    clear hS0 x6 hP5
                    have hS0 := hS1; clear hS1
                    refine HeldBut.each [9] (by kernel_rfl) rfl ?_
                    intro i hi; simp only [List.mem_cons, List.mem_nil_iff, or_false] at hi; rcases hi with rfl
                    · refine HeldBut.step (i := 9) rfl (fun K hK => ?_)
                      refine step_store_blk (by rfl) _ (.tmp 9) (.tmp 32) (by rfl) (by rfl) (by rfl) (by rfl) g9 told_info (by rfl) (one_told _ _ _ _ _ _ _ _ _ _ _ _ _ _) ?_
                      intro U9 f9 e8
                      replace g10 := g10.ext e8 (by simp; omega)
                      replace hO3 := hO3.other g9 (by decide) (by decide) e8
                      replace hI3 := hI3.keep e8 (own_ne hI3.2.2.2.2 g9 (by decide))
                      replace hI6 := hI6.keep e8 (own_ne hI6.2.2.2.2 g9 (by decide))
                      have y6n : Ext [b9, b10] w6 _ := (y6.mono (fun k _ h => by simp at h ⊢)).trans (e8.mono (fun k _ h => by simp at h ⊢; omega)); clear y6; have y6 := y6n; clear y6n
                      clear g9; have g9 := f9; clear f9
                      have hS1 := hS0.trans' e8 (fun i hi => .inr (by simp at hi; omega))
                      refine hK.out _ _ (fun _ => hS1) ?_; clear hK K
                      try simp only [Act.put, List.getElem_toArray, List.getElem_cons_zero, List.getElem_cons_succ, List.setIfInBounds_toArray, List.set_cons_zero, List.set_cons_succ]
                      clear hS0 e8
                      have hS0 := hS1; clear hS1
                      refine HeldBut.each [10] (by kernel_rfl) rfl ?_
                      intro i hi; simp only [List.mem_cons, List.mem_nil_iff, or_false] at hi; rcases hi with rfl
                      · refine HeldBut.step (i := 10) rfl (fun K hK => ?_)
                        refine step_store_blk (by rfl) _ (.tmp 10) (.tmp 36) (by rfl) (by rfl) (by rfl) (by rfl) g10 told_info (by rfl) (one_told _ _ _ _ _ _ _ _ _ _ _ _ _ _) ?_
                        intro U10 f10 e8
                        replace g9 := g9.ext e8 (by simp; omega)
                        replace hO3 := hO3.other g10 (by decide) (by decide) e8
                        replace hI3 := hI3.keep e8 (own_ne hI3.2.2.2.2 g10 (by decide))
                        replace hI6 := hI6.keep e8 (own_ne hI6.2.2.2.2 g10 (by decide))
                        have y6n : Ext [b9, b10] w6 _ := (y6.mono (fun k _ h => by simp at h ⊢; exact h)).trans (e8.mono (fun k _ h => by simp at h ⊢; omega)); clear y6; have y6 := y6n; clear y6n
                        clear g10; have g10 := f10; clear f10
                        have hS1 := hS0.trans' e8 (fun i hi => .inr (by simp at hi; omega))
                        refine hK.out _ _ (fun _ => hS1) ?_; clear hK K
                        try simp only [Act.put, List.getElem_toArray, List.getElem_cons_zero, List.getElem_cons_succ, List.setIfInBounds_toArray, List.set_cons_zero, List.set_cons_succ]
                        clear hS0 e8
                        have hS0 := hS1; clear hS1
                        refine HeldBut.done (by kernel_rfl) ?_ _
                        go_wp2_with (fail)
                        go_meet
                        exact ⟨b9, b10, _, _, rs3, _, _, rfl, rfl, hS0, l9, l10, g9, g10, ⟨_, _, _, rfl⟩, ⟨_, _, _, rfl⟩, ⟨_, _, _, rfl⟩, ⟨_, _, _, rfl⟩, hO3.mono lA, hI3.mono lA, hA3, hQ6.out [b9, b10] _ (fun k hk => by simp at hk; rcases hk with rfl | rfl; exact q9; exact q10) y6, hI6.pis (by simp)⟩
            · refine HeldBut.step (i := 8) rfl (fun K hK => ?_)
              try simp only [List.getElem_toArray, List.getElem_cons_zero, List.getElem_cons_succ]
              go_simp
              have e6 := (Ext.refl [] w3).alloc (.cells #[.int .u64 0, .slice none 0 0, .int .u64 0, .int .u64 0, .int .i64 0, .int .i64 0, .slice none 0 0, .bool false, .int .i64 0, .int .i64 0] 36)
              replace hO3 := hO3.ext e6
              replace hI3 := hI3.keep e6 (fun _ _ => by simp)
              have g10 := Blk.new w3 [.int .u64 0, .slice none 0 0, .int .u64 0, .int .u64 0, .int .i64 0, .int .i64 0, .slice none 0 0, .bool false, .int .i64 0, .int .i64 0] 36
              have l10 := hS0.size
              have hS1 := hS0.trans e6
              refine hK.out _ _ (fun _ => hS1) ?_; clear hK K
              try simp only [Act.put, List.getElem_toArray, List.getElem_cons_zero, List.getElem_cons_succ, List.setIfInBounds_toArray, List.set_cons_zero, List.set_cons_succ]
              clear hS0 e6
              have hS0 := hS1; clear hS1
              generalize w3.alloc (.cells #[.int .u64 0, .slice none 0 0, .int .u64 0, .int .u64 0, .int .i64 0, .int .i64 0, .slice none 0 0, .bool false, .int .i64 0, .int .i64 0] 36) = U8 at *
              generalize w3.heap.size = b10 at *
              refine HeldBut.each [5, 7] (by kernel_rfl) rfl ?_
              intro i hi; simp only [List.mem_cons, List.mem_nil_iff, or_false] at hi; rcases hi with rfl | rfl
              · refine HeldBut.step (i := 5) rfl (fun K hK => ?_)
                try simp only [List.getElem_toArray, List.getElem_cons_zero, List.getElem_cons_succ]
                go_simp
                go_at_call 10
                (with_reducible refine (sh _ hS0).mono ?_)
                rintro e w5 ⟨v5, rs5, ⟨a5, n5, c5, rfl⟩, rfl, hO5, x5⟩
                dsimp only
                have hP5 := hO5.ps
                clear hO5
                have hS1 := hS0.trans x5
                refine hK.out _ _ (fun _ => hS1) ?_; clear hK K
                try simp only [Act.put, List.getElem_toArray, List.getElem_cons_zero, List.getElem_cons_succ, List.setIfInBounds_toArray, List.set_cons_zero, List.set_cons_succ]
                replace g10 := g10.ext x5 (by simp)
                replace hO3 := hO3.ext x5
                replace hI3 := hI3.keep x5 (fun _ _ => by simp)
                clear hS0 x5
                have hS0 := hS1; clear hS1
                refine HeldBut.each [6, 7] (by kernel_rfl) rfl ?_
                intro i hi; simp only [List.mem_cons, List.mem_nil_iff, or_false] at hi; rcases hi with rfl | rfl
                · refine HeldBut.step (i := 6) rfl (fun K hK => ?_)
                  try simp only [List.getElem_toArray, List.getElem_cons_zero, List.getElem_cons_succ]
                  go_simp
                  go_at_call 12
                  (with_reducible refine (wn _ hS0 _ hP5).mono ?_)
                  rintro e w6 ⟨v6, r6, ⟨a6, n6, c6, rfl⟩, rfl, hP6, hI6, x6⟩
                  obtain ⟨pa, pc, rfl⟩ := (hI6.pis (X := []) (by simp)).shape
                  dsimp only
                  have hS1 := hS0.trans x6
                  refine hK.out _ _ (fun _ => hS1) ?_; clear hK K
                  try simp only [Act.put, List.getElem_toArray, List.getElem_cons_zero, List.getElem_cons_succ, List.setIfInBounds_toArray, List.set_cons_zero, List.set_cons_succ]
                  obtain ⟨A6, hAA⟩ : ∃ A, w5.heap.size = A := ⟨_, rfl⟩
                  obtain ⟨z6, hzz, hQ6⟩ : ∃ z, w6.heap.size = z ∧ Hid (∀ X w'', (∀ k ∈ X, k < A6 ∨ z ≤ k) → Ext X w6 w'' → Ps w'' (.slice a6 n6 c6) T.n.ps) := ⟨_, rfl, hAA ▸ hP6⟩
                  rw [hAA] at hI6
                  have hs6 : z6 ≤ w6.heap.size := Nat.le_of_eq hzz.symm
                  have y6 := Ext.refl [] w6
                  have q10 : b10 < A6 ∨ z6 ≤ b10 := .inl (by have := g10.lt; omega)
                  clear hP6 hAA hzz
                  replace g10 := g10.ext x6 (by simp)
                  replace hO3 := hO3.ext x6
                  replace hI3 := hI3.keep x6 (fun _ _ => by simp)
                  replace hP5 := hP5.ext x6
                  clear hS0 x6 hP5
                  have hS0 := hS1; clear hS1
                  refine HeldBut.each [7] (by kernel_rfl) rfl ?_
                  intro i hi; simp only [List.mem_cons, List.mem_nil_iff, or_false] at hi; rcases hi with rfl
                  · refine HeldBut.step (i := 7) rfl (fun K hK => ?_)
                    try simp only [List.getElem_toArray, List.getElem_cons_zero, List.getElem_cons_succ]
                    go_simp
                    have e6 := (Ext.refl [] w6).alloc (.cells #[.int .u64 0, .slice none 0 0, .int .u64 0, .int .u64 0, .int .i64 0, .int .i64 0, .slice none 0 0, .bool false, .int .i64 0, .int .i64 0] 36)
                    have hne : b10 ≠ w6.heap.size := by have := g10.lt; omega
                    have hs6o := hs6
                    replace g10 := g10.ext e6 (by simp)
                    replace hO3 := hO3.ext e6
                    replace hI3 := hI3.keep e6 (fun _ _ => by simp)
                    have y6n := y6.trans e6; clear y6; have y6 := y6n; clear y6n
                    have hs6n := Nat.le_trans hs6 (e6).size; clear hs6; have hs6 := hs6n; clear hs6n
                    replace hI6 := hI6.keep e6 (fun _ _ => by simp)
                    have g9 := Blk.new w6 [.int .u64 0, .slice none 0 0, .int .u64 0, .int .u64 0, .int .i64 0, .int .i64 0, .slice none 0 0, .bool false, .int .i64 0, .int .i64 0] 36
                    have l9 := hS0.size
                    have q9 : w6.heap.size < A6 ∨ z6 ≤ w6.heap.size := .inr hs6o
                    have hS1 := hS0.trans e6
                    refine hK.out _ _ (fun _ => hS1) ?_; clear hK K
                    try simp only [Act.put, List.getElem_toArray, List.getElem_cons_zero, List.getElem_cons_succ, List.setIfInBounds_toArray, List.set_cons_zero, List.set_cons_succ]
                    clear hS0 e6 hs6o
                    have hS0 := hS1; clear hS1
                    generalize w6.alloc (.cells #[.int .u64 0, .slice none 0 0, .int .u64 0, .int .u64 0, .int .i64 0, .int .i64 0, .slice none 0 0, .bool false, .int .i64 0, .int .i64 0] 36) = U7 at *
                    generalize w6.heap.size = b9 at *
                    refine HeldBut.each [9] (by kernel_rfl) rfl ?_
                    intro i hi; simp only [List.mem_cons, List.mem_nil_iff, or_false] at hi; rcases hi with rfl
                    · refine HeldBut.step (i := 9) rfl (fun K hK => ?_)
                      refine step_store_blk (by rfl) _ (.tmp 9) (.tmp 32) (by rfl) (by rfl) (by rfl) (by rfl) g9 told_info (by rfl) (one_told _ _ _ _ _ _ _ _ _ _ _ _ _ _) ?_
                      intro U9 f9 e8
                      replace g10 := g10.ext e8 (by simp; omega)
                      replace hO3 := hO3.other g9 (by decide) (by decide) e8
                      replace hI3 := hI3.keep e8 (own_ne hI3.2.2.2.2 g9 (by decide))
                      replace hI6 := hI6.keep e8 (own_ne hI6.2.2.2.2 g9 (by decide))
                      have y6n : Ext [b9, b10] w6 _ := (y6.mono (fun k _ h => by simp at h ⊢)).trans (e8.mono (fun k _ h => by simp at h ⊢; omega)); clear y6; have y6 := y6n; clear y6n
                      clear g9; have g9 := f9; clear f9
                      have hS1 := hS0.trans' e8 (fun i hi => .inr (by simp at hi; omega))
                      refine hK.out _ _ (fun _ => hS1) ?_; clear hK K
                      try simp only [Act.put, List.getElem_toArray, List.getElem_cons_zero, List.getElem_cons_succ, List.setIfInBounds_toArray, List.set_cons_zero, List.set_cons_succ]
                      clear hS0 e8
                      have hS0 := hS1; clear hS1
                      refine HeldBut.each [10] (by kernel_rfl) rfl ?_
                      intro i hi; simp only [List.mem_cons, List.mem_nil_iff, or_false] at hi; rcases hi with rfl
                      · refine HeldBut.step (i := 10) rfl (fun K hK => ?_)
                        refine step_store_blk (by rfl) _ (.tmp 10) (.tmp 36) (by rfl) (by rfl) (by rfl) (by rfl) g10 told_info (by rfl) (one_told _ _ _ _ _ _ _ _ _ _ _ _ _ _) ?_
                        intro U10 f10 e8
                        replace g9 := g9.ext e8 (by simp; omega)
                        replace hO3 := hO3.other g10 (by decide) (by decide) e8
                        replace hI3 := hI3.keep e8 (own_ne hI3.2.2.2.2 g10 (by decide))
                        replace hI6 := hI6.keep e8 (own_ne hI6.2.2.2.2 g10 (by decide))
                        have y6n : Ext [b9, b10] w6 _ := (y6.mono (fun k _ h => by simp at h ⊢; exact h)).trans (e8.mono (fun k _ h => by simp at h ⊢; omega)); clear y6; have y6 := y6n; clear y6n
                        clear g10; have g10 := f10; clear f10
                        have hS1 := hS0.trans' e8 (fun i hi => .inr (by simp at hi; omega))
                        refine hK.out _ _ (fun _ => hS1) ?_; clear hK K
                        try simp only [Act.put, List.getElem_toArray, List.getElem_cons_zero, List.getElem_cons_succ, List.setIfInBounds_toArray, List.set_cons_zero, List.set_cons_succ]
                        clear hS0 e8
                        have hS0 := hS1; clear hS1
                        refine HeldBut.done (by kernel_rfl) ?_ _
                        go_wp2_with (fail)
                        go_meet
                        exact ⟨b9, b10, _, _, rs3, _, _, rfl, rfl, hS0, l9, l10, g9, g10, ⟨_, _, _, rfl⟩, ⟨_, _, _, rfl⟩, ⟨_, _, _, rfl⟩, ⟨_, _, _, rfl⟩, hO3.mono lA, hI3.mono lA, hA3, hQ6.out [b9, b10] _ (fun k hk => by simp at hk; rcases hk with rfl | rfl; exact q9; exact q10) y6, hI6.pis (by simp)⟩
                · refine HeldBut.step (i := 7) rfl (fun K hK => ?_)
                  try simp only [List.getElem_toArray, List.getElem_cons_zero, List.getElem_cons_succ]
                  go_simp
                  have e6 := (Ext.refl [] w5).alloc (.cells #[.int .u64 0, .slice none 0 0, .int .u64 0, .int .u64 0, .int .i64 0, .int .i64 0, .slice none 0 0, .bool false, .int .i64 0, .int .i64 0] 36)
                  have hne : b10 ≠ w5.heap.size := by have := g10.lt; omega
                  replace g10 := g10.ext e6 (by simp)
                  replace hO3 := hO3.ext e6
                  replace hI3 := hI3.keep e6 (fun _ _ => by simp)
                  replace hP5 := hP5.ext e6
                  have g9 := Blk.new w5 [.int .u64 0, .slice none 0 0, .int .u64 0, .int .u64 0, .int .i64 0, .int .i64 0, .slice none 0 0, .bool false, .int .i64 0, .int .i64 0] 36
                  have l9 := hS0.size
                  have hS1 := hS0.trans e6
                  refine hK.out _ _ (fun _ => hS1) ?_; clear hK K
                  try simp only [Act.put, List.getElem_toArray, List.getElem_cons_zero, List.getElem_cons_succ, List.setIfInBounds_toArray, List.set_cons_zero, List.set_cons_succ]
                  clear hS0 e6
                  have hS0 := hS1; clear hS1
                  generalize w5.alloc (.cells #[.int .u64 0, .slice none 0 0, .int .u64 0, .int .u64 0, .int .i64 0, .int .i64 0, .slice none 0 0, .bool false, .int .i64 0, .int .i64 0] 36) = U7 at *
                  generalize w5.heap.size = b9 at *
                  refine HeldBut.each [6] (by kernel_rfl) rfl ?_
                  intro i hi; simp only [List.mem_cons, List.mem_nil_iff, or_false] at hi; rcases hi with rfl
                  · refine HeldBut.step (i := 6) rfl (fun K hK => ?_)
                    try simp only [List.getElem_toArray, List.getElem_cons_zero, List.getElem_cons_succ]
                    go_simp
                    go_at_call 12
                    (with_reducible refine (wn _ hS0 _ hP5).mono ?_)
                    rintro e w6 ⟨v6, r6, ⟨a6, n6, c6, rfl⟩, rfl, hP6, hI6, x6⟩
                    obtain ⟨pa, pc, rfl⟩ := (hI6.pis (X := []) (by simp)).shape
                    dsimp only
                    have hS1 := hS0.trans x6
                    refine hK.out _ _ (fun _ => hS1) ?_; clear hK K
                    try simp only [Act.put, List.getElem_toArray, List.getElem_cons_zero, List.getElem_cons_succ, List.setIfInBounds_toArray, List.set_cons_zero, List.set_cons_succ]
                    obtain ⟨A6, hAA⟩ : ∃ A, U7.heap.size = A := ⟨_, rfl⟩
                    obtain ⟨z6, hzz, hQ6⟩ : ∃ z, w6.heap.size = z ∧ Hid (∀ X w'', (∀ k ∈ X, k < A6 ∨ z ≤ k) → Ext X w6 w'' → Ps w'' (.slice a6 n6 c6) T.n.ps) := ⟨_, rfl, hAA ▸ hP6⟩
                    rw [hAA] at hI6
                    have hs6 : z6 ≤ w6.heap.size := Nat.le_of_eq hzz.symm
                    have y6 := Ext.refl [] w6
                    have q9 : b9 < A6 ∨ z6 ≤ b9 := .inl (by have := g9.lt; omega)
                    have q10 : b10 < A6 ∨ z6 ≤ b10 := .inl (by have := g10.lt; omega)
                    clear hP6 hAA hzz
                    replace g9 := g9.ext x6 (by simp)
                    replace g10 := g10.ext x6 (by simp)
                    replace hO3 := hO3.ext x6
                    replace hI3 := hI3.keep x6 (fun _ _ => by simp)
                    replace hP5 := hP5.ext x6
                    clear hS0 x6 hP5
                    have hS0 := hS1; clear hS1
                    refine HeldBut.each [9] (by kernel_rfl) rfl ?_
                    intro i hi; simp only [List.mem_cons, List.mem_nil_iff, or_false] at hi; rcases hi with rfl
                    · refine HeldBut.step (i := 9) rfl (fun K hK => ?_)
                      refine step_store_blk (by rfl) _ (.tmp 9) (.tmp 32) (by rfl) (by rfl) (by rfl) (by rfl) g9 told_info (by rfl) (one_told _ _ _ _ _ _ _ _ _ _ _ _ _ _) ?_
                      intro U9 f9 e8
                      replace g10 := g10.ext e8 (by simp; omega)
                      replace hO3 := hO3.other g9 (by decide) (by decide) e8
                      replace hI3 := hI3.keep e8 (own_ne hI3.2.2.2.2 g9 (by decide))
                      replace hI6 := hI6.keep e8 (own_ne hI6.2.2.2.2 g9 (by decide))
                      have y6n : Ext [b9, b10] w6 _ := (y6.mono (fun k _ h => by simp at h ⊢)).trans (e8.mono (fun k _ h => by simp at h ⊢; omega)); clear y6; have y6 := y6n; clear y6n
                      clear g9; have g9 := f9; clear f9
                      have hS1 := hS0.trans' e8 (fun i hi => .inr (by simp at hi; omega))
                      refine hK.out _ _ (fun _ => hS1) ?_; clear hK K
                      try simp only [Act.put, List.getElem_toArray, List.getElem_cons_zero, List.getElem_cons_succ, List.setIfInBounds_toArray, List.set_cons_zero, List.set_cons_succ]
                      clear hS0 e8
                      have hS0 := hS1; clear hS1
                      refine HeldBut.each [10] (by kernel_rfl) rfl ?_
                      intro i hi; simp only [List.mem_cons, List.mem_nil_iff, or_false] at hi; rcases hi with rfl
                      · refine HeldBut.step (i := 10) rfl (fun K hK => ?_)
                        refine step_store_blk (by rfl) _ (.tmp 10) (.tmp 36) (by rfl) (by rfl) (by rfl) (by rfl) g10 told_info (by rfl) (one_told _ _ _ _ _ _ _ _ _ _ _ _ _ _) ?_
                        intro U10 f10 e8
                        replace g9 := g9.ext e8 (by simp; omega)
                        replace hO3 := hO3.other g10 (by decide) (by decide) e8
                        replace hI3 := hI3.keep e8 (own_ne hI3.2.2.2.2 g10 (by decide))
                        replace hI6 := hI6.keep e8 (own_ne hI6.2.2.2.2 g10 (by decide))
                        have y6n : Ext [b9, b10] w6 _ := (y6.mono (fun k _ h => by simp at h ⊢; exact h)).trans (e8.mono (fun k _ h => by simp at h ⊢; omega)); clear y6; have y6 := y6n; clear y6n
                        clear g10; have g10 := f10; clear f10
                        have hS1 := hS0.trans' e8 (fun i hi => .inr (by simp at hi; omega))
                        refine hK.out _ _ (fun _ => hS1) ?_; clear hK K
                        try simp only [Act.put, List.getElem_toArray, List.getElem_cons_zero, List.getElem_cons_succ, List.setIfInBounds_toArray, List.set_cons_zero, List.set_cons_succ]
                        clear hS0 e8
                        have hS0 := hS1; clear hS1
                        refine HeldBut.done (by kernel_rfl) ?_ _
                        go_wp2_with (fail)
                        go_meet
                        exact ⟨b9, b10, _, _, rs3, _, _, rfl, rfl, hS0, l9, l10, g9, g10, ⟨_, _, _, rfl⟩, ⟨_, _, _, rfl⟩, ⟨_, _, _, rfl⟩, ⟨_, _, _, rfl⟩, hO3.mono lA, hI3.mono lA, hA3, hQ6.out [b9, b10] _ (fun k hk => by simp at hk; rcases hk with rfl | rfl; exact q9; exact q10) y6, hI6.pis (by simp)⟩
              · refine HeldBut.step (i := 7) rfl (fun K hK => ?_)
                try simp only [List.getElem_toArray, List.getElem_cons_zero, List.getElem_cons_succ]
                go_simp
                have e6 := (Ext.refl [] U8).alloc (.cells #[.int .u64 0, .slice none 0 0, .int .u64 0, .int .u64 0, .int .i64 0, .int .i64 0, .slice none 0 0, .bool false, .int .i64 0, .int .i64 0] 36)
                have hne : b10 ≠ U8.heap.size := by have := g10.lt; omega
                replace g10 := g10.ext e6 (by simp)
                replace hO3 := hO3.ext e6
                replace hI3 := hI3.keep e6 (fun _ _ => by simp)
                have g9 := Blk.new U8 [.int .u64 0, .slice none 0 0, .int .u64 0, .int .u64 0, .int .i64 0, .int .i64 0, .slice none 0 0, .bool false, .int .i64 0, .int .i64 0] 36
                have l9 := hS0.size
                have hS1 := hS0.trans e6
                refine hK.out _ _ (fun _ => hS1) ?_; clear hK K
                try simp only [Act.put, List.getElem_toArray, List.getElem_cons_zero, List.getElem_cons_succ, List.setIfInBounds_toArray, List.set_cons_zero, List.set_cons_succ]
                clear hS0 e6
                have hS0 := hS1; clear hS1
                generalize U8.alloc (.cells #[.int .u64 0, .slice none 0 0, .int .u64 0, .int .u64 0, .int .i64 0, .int .i64 0, .slice none 0 0, .bool false, .int .i64 0, .int .i64 0] 36) = U7 at *
                generalize U8.heap.size = b9 at *
                refine HeldBut.each [5] (by kernel_rfl) rfl ?_
                intro i hi; simp only [List.mem_cons, List.mem_nil_iff, or_false] at hi; rcases hi with rfl
                · refine HeldBut.step (i := 5) rfl (fun K hK => ?_)
                  try simp only [List.getElem_toArray, List.getElem_cons_zero, List.getElem_cons_succ]
                  go_simp
                  go_at_call 10
                  (with_reducible refine (sh _ hS0).mono ?_)
                  rintro e w5 ⟨v5, rs5, ⟨a5, n5, c5, rfl⟩, rfl, hO5, x5⟩
                  dsimp only
                  have hP5 := hO5.ps
                  clear hO5
                  have hS1 := hS0.trans x5
                  refine hK.out _ _ (fun _ => hS1) ?_; clear hK K
                  try simp only [Act.put, List.getElem_toArray, List.getElem_cons_zero, List.getElem_cons_succ, List.setIfInBounds_toArray, List.set_cons_zero, List.set_cons_succ]
                  replace g9 := g9.ext x5 (by simp)
                  replace g10 := g10.ext x5 (by simp)
                  replace hO3 := hO3.ext x5
                  replace hI3 := hI3.keep x5 (fun _ _ => by simp)
                  clear hS0 x5
                  have hS0 := hS1; clear hS1
                  refine HeldBut.each [6] (by kernel_rfl) rfl ?_
                  intro i hi; simp only [List.mem_cons, List.mem_nil_iff, or_false] at hi; rcases hi with rfl
                  · refine HeldBut.step (i := 6) rfl (fun K hK => ?_)
                    try simp only [List.getElem_toArray, List.getElem_cons_zero, List.getElem_cons_succ]
                    go_simp
                    go_at_call 12
                    (with_reducible refine (wn _ hS0 _ hP5).mono ?_)
                    rintro e w6 ⟨v6, r6, ⟨a6, n6, c6, rfl⟩, rfl, hP6, hI6, x6⟩
                    obtain ⟨pa, pc, rfl⟩ := (hI6.pis (X := []) (by simp)).shape
                    dsimp only
                    have hS1 := hS0.trans x6
                    refine hK.out _ _ (fun _ => hS1) ?_; clear hK K
                    try simp only [Act.put, List.getElem_toArray, List.getElem_cons_zero, List.getElem_cons_succ, List.setIfInBounds_toArray, List.set_cons_zero, List.set_cons_succ]
                    obtain ⟨A6, hAA⟩ : ∃ A, w5.heap.size = A := ⟨_, rfl⟩
                    obtain ⟨z6, hzz, hQ6⟩ : ∃ z, w6.heap.size = z ∧ Hid (∀ X w'', (∀ k ∈ X, k < A6 ∨ z ≤ k) → Ext X w6 w'' → Ps w'' (.slice a6 n6 c6) T.n.ps) := ⟨_, rfl, hAA ▸ hP6⟩
                    rw [hAA] at hI6
                    have hs6 : z6 ≤ w6.heap.size := Nat.le_of_eq hzz.symm
                    have y6 := Ext.refl [] w6
                    have q9 : b9 < A6 ∨ z6 ≤ b9 := .inl (by have := g9.lt; omega)
                    have q10 : b10 < A6 ∨ z6 ≤ b10 := .inl (by have := g10.lt; omega)
                    clear hP6 hAA hzz
                    replace g9 := g9.ext x6 (by simp)
                    replace g10 := g10.ext x6 (by simp)
                    replace hO3 := hO3.ext x6
                    replace hI3 := hI3.keep x6 (fun _ _ => by simp)
                    replace hP5 := hP5.ext x6
                    clear hS0 x6 hP5
                    have hS0 := hS1; clear hS1
                    refine HeldBut.each [9] (by kernel_rfl) rfl ?_
                    intro i hi; simp only [List.mem_cons, List.mem_nil_iff, or_false] at hi; rcases hi with rfl
                    · refine HeldBut.step (i := 9) rfl (fun K hK => ?_)
                      refine step_store_blk (by rfl) _ (.tmp 9) (.tmp 32) (by rfl) (by rfl) (by rfl) (by rfl) g9 told_info (by rfl) (one_told _ _ _ _ _ _ _ _ _ _ _ _ _ _) ?_
                      intro U9 f9 e8
                      replace g10 := g10.ext e8 (by simp; omega)
                      replace hO3 := hO3.other g9 (by decide) (by decide) e8
                      replace hI3 := hI3.keep e8 (own_ne hI3.2.2.2.2 g9 (by decide))
                      replace hI6 := hI6.keep e8 (own_ne hI6.2.2.2.2 g9 (by decide))
                      have y6n : Ext [b9, b10] w6 _ := (y6.mono (fun k _ h => by simp at h ⊢)).trans (e8.mono (fun k _ h => by simp at h ⊢; omega)); clear y6; have y6 := y6n; clear y6n
                      clear g9; have g9 := f9; clear f9
                      have hS1 := hS0.trans' e8 (fun i hi => .inr (by simp at hi; omega))
                      refine hK.out _ _ (fun _ => hS1) ?_; clear hK K
                      try simp only [Act.put, List.getElem_toArray, List.getElem_cons_zero, List.getElem_cons_succ, List.setIfInBounds_toArray, List.set_cons_zero, List.set_cons_succ]
                      clear hS0 e8
                      have hS0 := hS1; clear hS1
                      refine HeldBut.each [10] (by kernel_rfl) rfl ?_
                      intro i hi; simp only [List.mem_cons, List.mem_nil_iff, or_false] at hi; rcases hi with rfl
                      · refine HeldBut.step (i := 10) rfl (fun K hK => ?_)
                        refine step_store_blk (by rfl) _ (.tmp 10) (.tmp 36) (by rfl) (by rfl) (by rfl) (by rfl) g10 told_info (by rfl) (one_told _ _ _ _ _ _ _ _ _ _ _ _ _ _) ?_
                        intro U10 f10 e8
                        replace g9 := g9.ext e8 (by simp; omega)
                        replace hO3 := hO3.other g10 (by decide) (by decide) e8
                        replace hI3 := hI3.keep e8 (own_ne hI3.2.2.2.2 g10 (by decide))
                        replace hI6 := hI6.keep e8 (own_ne hI6.2.2.2.2 g10 (by decide))
                        have y6n : Ext [b9, b10] w6 _ := (y6.mono (fun k _ h => by simp at h ⊢; exact h)).trans (e8.mono (fun k _ h => by simp at h ⊢; omega)); clear y6; have y6 := y6n; clear y6n
                        clear g10; have g10 := f10; clear f10
                        have hS1 := hS0.trans' e8 (fun i hi => .inr (by simp at hi; omega))
                        refine hK.out _ _ (fun _ => hS1) ?_; clear hK K
                        try simp only [Act.put, List.getElem_toArray, List.getElem_cons_zero, List.getElem_cons_succ, List.setIfInBounds_toArray, List.set_cons_zero, List.set_cons_succ]
                        clear hS0 e8
                        have hS0 := hS1; clear hS1
                        refine HeldBut.done (by kernel_rfl) ?_ _
                        go_wp2_with (fail)
                        go_meet
                        exact ⟨b9, b10, _, _, rs3, _, _, rfl, rfl, hS0, l9, l10, g9, g10, ⟨_, _, _, rfl⟩, ⟨_, _, _, rfl⟩, ⟨_, _, _, rfl⟩, ⟨_, _, _, rfl⟩, hO3.mono lA, hI3.mono lA, hA3, hQ6.out [b9, b10] _ (fun k hk => by simp at hk; rcases hk with rfl | rfl; exact q9; exact q10) y6, hI6.pis (by simp)⟩
          · refine HeldBut.step (i := 7) rfl (fun K hK => ?_)
            try simp only [List.getElem_toArray, List.getElem_cons_zero, List.getElem_cons_succ]
            go_simp
            have e6 := (Ext.refl [] D0).alloc (.cells #[.int .u64 0, .slice none 0 0, .int .u64 0, .int .u64 0, .int .i64 0, .int .i64 0, .slice none 0 0, .bool false, .int .i64 0, .int .i64 0] 36)
            have g9 := Blk.new D0 [.int .u64 0, .slice none 0 0, .int .u64 0, .int .u64 0, .int .i64 0, .int .i64 0, .slice none 0 0, .bool false, .int .i64 0, .int .i64 0] 36
            have l9 := hS0.size
            have hS1 := hS0.trans e6
            refine hK.out _ _ (fun _ => hS1) ?_; clear hK K
            try simp only [Act.put, List.getElem_toArray, List.getElem_cons_zero, List.getElem_cons_succ, List.setIfInBounds_toArray, List.set_cons_zero, List.set_cons_succ]
            clear hS0 e6
            have hS0 := hS1; clear hS1
            generalize D0.alloc (.cells #[.int .u64 0, .slice none 0 0, .int .u64 0, .int .u64 0, .int .i64 0, .int .i64 0, .slice none 0 0, .bool false, .int .i64 0, .int .i64 0] 36) = U7 at *
            generalize D0.heap.size = b9 at *
            refine HeldBut.each [2, 8] (by kernel_rfl) rfl ?_
            intro i hi; simp only [List.mem_cons, List.mem_nil_iff, or_false] at hi; rcases hi with rfl | rfl
            · refine HeldBut.step (i := 2) rfl (fun K hK => ?_)
              try simp only [List.getElem_toArray, List.getElem_cons_zero, List.getElem_cons_succ]
              go_simp
              go_at_call 11
              (with_reducible refine (rn' _ hS0).mono ?_)
              rintro e w3 ⟨v3, rs3, r3, ⟨a3, n3, c3, rfl⟩, rfl, hO3, hI3, hA3, x3⟩
              obtain ⟨ra, rc, hrb⟩ := own_shape hI3.2.2.2.2
              obtain ⟨rn, rf, rt, rb, rsp⟩ := r3
              dsimp only at hrb
              subst hrb
              dsimp only
              have lA := hS0.size
              have hS1 := hS0.trans x3
              refine hK.out _ _ (fun _ => hS1) ?_; clear hK K
              try simp only [Act.put, List.getElem_toArray, List.getElem_cons_zero, List.getElem_cons_succ, List.setIfInBounds_toArray, List.set_cons_zero, List.set_cons_succ]
              replace g9 := g9.ext x3 (by simp)
              clear hS0 x3
              have hS0 := hS1; clear hS1
              refine HeldBut.each [5, 8] (by kernel_rfl) rfl ?_
              intro i hi; simp only [List.mem_cons, List.mem_nil_iff, or_false] at hi; rcases hi with rfl | rfl
              · refine HeldBut.step (i := 5) rfl (fun K hK => ?_)
                try simp only [List.getElem_toArray, List.getElem_cons_zero, List.getElem_cons_succ]
                go_simp
                go_at_call 10
                (with_reducible refine (sh _ hS0).mono ?_)
                rintro e w5 ⟨v5, rs5, ⟨a5, n5, c5, rfl⟩, rfl, hO5, x5⟩
                dsimp only
                have hP5 := hO5.ps
                clear hO5
                have hS1 := hS0.trans x5
                refine hK.out _ _ (fun _ => hS1) ?_; clear hK K
                try simp only [Act.put, List.getElem_toArray, List.getElem_cons_zero, List.getElem_cons_succ, List.setIfInBounds_toArray, List.set_cons_zero, List.set_cons_succ]
                replace g9 := g9.ext x5 (by simp)
                replace hO3 := hO3.ext x5
                replace hI3 := hI3.keep x5 (fun _ _ => by simp)
                clear hS0 x5
                have hS0 := hS1; clear hS1
                refine HeldBut.each [6, 8] (by kernel_rfl) rfl ?_
                intro i hi; simp only [List.mem_cons, List.mem_nil_iff, or_false] at hi; rcases hi with rfl | rfl
                · refine HeldBut.step (i := 6) rfl (fun K hK => ?_)
                  try simp only [List.getElem_toArray, List.getElem_cons_zero, List.getElem_cons_succ]
                  go_simp
                  go_at_call 12
                  (with_reducible refine (wn _ hS0 _ hP5).mono ?_)
                  rintro e w6 ⟨v6, r6, ⟨a6, n6, c6, rfl⟩, rfl, hP6, hI6, x6⟩
                  obtain ⟨pa, pc, rfl⟩ := (hI6.pis (X := []) (by simp)).shape
                  dsimp only
                  have hS1 := hS0.trans x6
                  refine hK.out _ _ (fun _ => hS1) ?_; clear hK K
                  try simp only [Act.put, List.getElem_toArray, List.getElem_cons_zero, List.getElem_cons_succ, List.setIfInBounds_toArray, List.set_cons_zero, List.set_cons_succ]
                  obtain ⟨A6, hAA⟩ : ∃ A, w5.heap.size = A := ⟨_, rfl⟩
                  obtain ⟨z6, hzz, hQ6⟩ : ∃ z, w6.heap.size = z ∧ Hid (∀ X w'', (∀ k ∈ X, k < A6 ∨ z ≤ k) → Ext X w6 w'' → Ps w'' (.slice a6 n6 c6) T.n.ps) := ⟨_, rfl, hAA ▸ hP6⟩
                  rw [hAA] at hI6
                  have hs6 : z6 ≤ w6.heap.size := Nat.le_of_eq hzz.symm
                  have y6 := Ext.refl [] w6
                  have q9 : b9 < A6 ∨ z6 ≤ b9 := .inl (by have := g9.lt; omega)
                  clear hP6 hAA hzz
                  replace g9 := g9.ext x6 (by simp)
                  replace hO3 := hO3.ext x6
                  replace hI3 := hI3.keep x6 (fun _ _ => by simp)
                  replace hP5 := hP5.ext x6
                  clear hS0 x6 hP5
                  have hS0 := hS1; clear hS1
                  refine HeldBut.each [8] (by kernel_rfl) rfl ?_
                  intro i hi; simp only [List.mem_cons, List.mem_nil_iff, or_false] at hi; rcases hi with rfl
                  · refine HeldBut.step (i := 8) rfl (fun K hK => ?_)
                    try simp only [List.getElem_toArray, List.getElem_cons_zero, List.getElem_cons_succ]
                    go_simp
                    have e6 := (Ext.refl [] w6).alloc (.cells #[.int .u64 0, .slice none 0 0, .int .u64 0, .int .u64 0, .int .i64 0, .int .i64 0, .slice none 0 0, .bool false, .int .i64 0, .int .i64 0] 36)
                    have hne : b9 ≠ w6.heap.size := by have := g9.lt; omega
                    have hs6o := hs6
                    replace g9 := g9.ext e6 (by simp)
                    replace hO3 := hO3.ext e6
                    replace hI3 := hI3.keep e6 (fun _ _ => by simp)
                    have y6n := y6.trans e6; clear y6; have y6 := y6n; clear y6n
                    have hs6n := Nat.le_trans hs6 (e6).size; clear hs6; have hs6 := hs6n; clear hs6n
                    replace hI6 := hI6.keep e6 (fun _ _ => by simp)
                    have g10 := Blk.new w6 [.int .u64 0, .slice none 0 0, .int .u64 0, .int .u64 0, .int .i64 0, .int .i64 0, .slice none 0 0, .bool false, .int .i64 0, .int .i64 0] 36
                    have l10 := hS0.size
                    have q10 : w6.heap.size < A6 ∨ z6 ≤ w6.heap.size := .inr hs6o
                    have hS1 := hS0.trans e6
                    refine hK.out _ _ (fun _ => hS1) ?_; clear hK K
                    try simp only [Act.put, List.getElem_toArray, List.getElem_cons_zero, List.getElem_cons_succ, List.setIfInBounds_toArray, List.set_cons_zero, List.set_cons_succ]
                    clear hS0 e6 hs6o
                    have hS0 := hS1; clear hS1
                    generalize w6.alloc (.cells #[.int .u64 0, .slice none 0 0, .int .u64 0, .int .u64 0, .int .i64 0, .int .i64 0, .slice none 0 0, .bool false, .int .i64 0, .int .i64 0] 36) = U8 at *
                    generalize w6.heap.size = b10 at *
                    refine HeldBut.each [9] (by kernel_rfl) rfl ?_
                    intro i hi; simp only [List.mem_cons, List.mem_nil_iff, or_false] at hi; rcases hi with rfl
                    · refine HeldBut.step (i := 9) rfl (fun K hK => ?_)
                      refine step_store_blk (by rfl) _ (.tmp 9) (.tmp 32) (by rfl) (by rfl) (by rfl) (by rfl) g9 told_info (by rfl) (one_told _ _ _ _ _ _ _ _ _ _ _ _ _ _) ?_
                      intro U9 f9 e8
                      replace g10 := g10.ext e8 (by simp; omega)
                      replace hO3 := hO3.other g9 (by decide) (by decide) e8
                      replace hI3 := hI3.keep e8 (own_ne hI3.2.2.2.2 g9 (by decide))
                      replace hI6 := hI6.keep e8 (own_ne hI6.2.2.2.2 g9 (by decide))
                      have y6n : Ext [b9, b10] w6 _ := (y6.mono (fun k _ h => by simp at h ⊢)).trans (e8.mono (fun k _ h => by simp at h ⊢; omega)); clear y6; have y6 := y6n; clear y6n
                      clear g9; have g9 := f9; clear f9
                      have hS1 := hS0.trans' e8 (fun i hi => .inr (by simp at hi; omega))
                      refine hK.out _ _ (fun _ => hS1) ?_; clear hK K
                      try simp only [Act.put, List.getElem_toArray, List.getElem_cons_zero, List.getElem_cons_succ, List.setIfInBounds_toArray, List.set_cons_zero, List.set_cons_succ]
                      clear hS0 e8
                      have hS0 := hS1; clear hS1
                      refine HeldBut.each [10] (by kernel_rfl) rfl ?_
                      intro i hi; simp only [List.mem_cons, List.mem_nil_iff, or_false] at hi; rcases hi with rfl
                      · refine HeldBut.step (i := 10) rfl (fun K hK => ?_)
                        refine step_store_blk (by rfl) _ (.tmp 10) (.tmp 36) (by rfl) (by rfl) (by rfl) (by rfl) g10 told_info (by rfl) (one_told _ _ _ _ _ _ _ _ _ _ _ _ _ _) ?_
                        intro U10 f10 e8
                        replace g9 := g9.ext e8 (by simp; omega)
                        replace hO3 := hO3.other g10 (by decide) (by decide) e8
                        replace hI3 := hI3.keep e8 (own_ne hI3.2.2.2.2 g10 (by decide))
                        replace hI6 := hI6.keep e8 (own_ne hI6.2.2.2.2 g10 (by decide))
                        have y6n : Ext [b9, b10] w6 _ := (y6.mono (fun k _ h => by simp at h ⊢; exact h)).trans (e8.mono (fun k _ h => by simp at h ⊢; omega)); clear y6; have y6 := y6n; clear y6n
                        clear g10; have g10 := f10; clear f10
                        have hS1 := hS0.trans' e8 (fun i hi => .inr (by simp at hi; omega))
                        refine hK.out _ _ (fun _ => hS1) ?_; clear hK K
                        try simp only [Act.put, List.getElem_toArray, List.getElem_cons_zero, List.getElem_cons_succ, List.setIfInBounds_toArray, List.set_cons_zero, List.set_cons_succ]
                        clear hS0 e8
                        have hS0 := hS1; clear hS1
                        refine HeldBut.done (by kernel_rfl) ?_ _
                        go_wp2_with (fail)
                        go_meet
                        exact ⟨b9, b10, _, _, rs3, _, _, rfl, rfl, hS0, l9, l10, g9, g10, ⟨_, _, _, rfl⟩, ⟨_, _, _, rfl⟩, ⟨_, _, _, rfl⟩, ⟨_, _, _, rfl⟩, hO3.mono lA, hI3.mono lA, hA3, hQ6.out [b9, b10] _ (fun k hk => by simp at hk; rcases hk with rfl | rfl; exact q9; exact q10) y6, hI6.pis (by simp)⟩
                · refine HeldBut.step (i := 8) rfl (fun K hK => ?_)
                  try simp only [List.getElem_toArray, List.getElem_cons_zero, List.getElem_cons_succ]
                  go_simp
                  have e6 := (Ext.refl [] w5).alloc (.cells #[.int .u64 0, .slice none 0 0, .int .u64 0, .int .u64 0, .int .i64 0, .int .i64 0, .slice none 0 0, .bool false, .int .i64 0, .int .i64 0] 36)
                  have hne : b9 ≠ w5.heap.size := by have := g9.lt; omega
                  replace g9 := g9.ext e6 (by simp)
                  replace hO3 := hO3.ext e6
                  replace hI3 := hI3.keep e6 (fun _ _ => by simp)
                  replace hP5 := hP5.ext e6
                  have g10 := Blk.new w5 [.int .u64 0, .slice none 0 0, .int .u64 0, .int .u64 0, .int .i64 0, .int .i64 0, .slice none 0 0, .bool false, .int .i64 0, .int .i64 0] 36
                  have l10 := hS0.size
                  have hS1 := hS0.trans e6
                  refine hK.out _ _ (fun _ => hS1) ?_; clear hK K
                  try simp only [Act.put, List.getElem_toArray, List.getElem_cons_zero, List.getElem_cons_succ, List.setIfInBounds_toArray, List.set_cons_zero, List.set_cons_succ]
                  clear hS0 e6
                  have hS0 := hS1; clear hS1
                  generalize w5.alloc (.cells #[.int .u64 0, .slice none 0 0, .int .u64 0, .int .u64 0, .int .i64 0, .int .i64 0, .slice none 0 0, .bool false, .int .i64 0, .int .i64 0] 36) = U8 at *
                  generalize w5.heap.size = b10 at *
                  refine HeldBut.each [6] (by kernel_rfl) rfl ?_
                  intro i hi; simp only [List.mem_cons, List.mem_nil_iff, or_false] at hi; rcases hi with rfl
                  · refine HeldBut.step (i := 6) rfl (fun K hK => ?_)
                    try simp only [List.getElem_toArray, List.getElem_cons_zero, List.getElem_cons_succ]
                    go_simp
                    go_at_call 12
                    (with_reducible refine (wn _ hS0 _ hP5).mono ?_)
                    rintro e w6 ⟨v6, r6, ⟨a6, n6, c6, rfl⟩, rfl, hP6, hI6, x6⟩
                    obtain ⟨pa, pc, rfl⟩ := (hI6.pis (X := []) (by simp)).shape
                    dsimp only
                    have hS1 := hS0.trans x6
                    refine hK.out _ _ (fun _ => hS1) ?_; clear hK K
                    try simp only [Act.put, List.getElem_toArray, List.getElem_cons_zero, List.getElem_cons_succ, List.setIfInBounds_toArray, List.set_cons_zero, List.set_cons_succ]
                    obtain ⟨A6, hAA⟩ : ∃ A, U8.heap.size = A := ⟨_, rfl⟩
                    obtain ⟨z6, hzz, hQ6⟩ : ∃ z, w6.heap.size = z ∧ Hid (∀ X w'', (∀ k ∈ X, k < A6 ∨ z ≤ k) → Ext X w6 w'' → Ps w'' (.slice a6 n6 c6) T.n.ps) := ⟨_, rfl, hAA ▸ hP6⟩
                    rw [hAA] at hI6
                    have hs6 : z6 ≤ w6.heap.size := Nat.le_of_eq hzz.symm
                    have y6 := Ext.refl [] w6
                    have q9 : b9 < A6 ∨ z6 ≤ b9 := .inl (by have := g9.lt; omega)
                    have q10 : b10 < A6 ∨ z6 ≤ b10 := .inl (by have := g10.lt; omega)
                    clear hP6 hAA hzz
                    replace g9 := g9.ext x6 (by simp)
                    replace g10 := g10.ext x6 (by simp)
                    replace hO3 := hO3.ext x6
                    replace hI3 := hI3.keep x6 (fun _ _ => by simp)
                    replace hP5 := hP5.ext x6
                    clear hS0 x6 hP5
                    have hS0 := hS1; clear hS1
                    refine HeldBut.each [9] (by kernel_rfl) rfl ?_
                    intro i hi; simp only [List.mem_cons, List.mem_nil_iff, or_false] at hi; rcases hi with rfl
                    · refine HeldBut.step (i := 9) rfl (fun K hK => ?_)
                      refine step_store_blk (by rfl) _ (.tmp 9) (.tmp 32) (by rfl) (by rfl) (by rfl) (by rfl) g9 told_info (by rfl) (one_told _ _ _ _ _ _ _ _ _ _ _ _ _ _) ?_
                      intro U9 f9 e8
                      replace g10 := g10.ext e8 (by simp; omega)
                      replace hO3 := hO3.other g9 (by decide) (by decide) e8
                      replace hI3 := hI3.keep e8 (own_ne hI3.2.2.2.2 g9 (by decide))
                      replace hI6 := hI6.keep e8 (own_ne hI6.2.2.2.2 g9 (by decide))
                      have y6n : Ext [b9, b10] w6 _ := (y6.mono (fun k _ h => by simp at h ⊢)).trans (e8.mono (fun k _ h => by simp at h ⊢; omega)); clear y6; have y6 := y6n; clear y6n
                      clear g9; have g9 := f9; clear f9
                      have hS1 := hS0.trans' e8 (fun i hi => .inr (by simp at hi; omega))
                      refine hK.out _ _ (fun _ => hS1) ?_; clear hK K
                      try simp only [Act.put, List.getElem_toArray, List.getElem_cons_zero, List.getElem_cons_succ, List.setIfInBounds_toArray, List.set_cons_zero, List.set_cons_succ]
                      clear hS0 e8
                      have hS0 := hS1; clear hS1
                      refine HeldBut.each [10] (by kernel_rfl) rfl ?_
                      intro i hi; simp only [List.mem_cons, List.mem_nil_iff, or_false] at hi; rcases hi with rfl
                      · refine HeldBut.step (i := 10) rfl (fun K hK => ?_)
                        refine step_store_blk (by rfl) _ (.tmp 10) (.tmp 36) (by rfl) (by rfl) (by rfl) (by rfl) g10 told_info (by rfl) (one_told _ _ _ _ _ _ _ _ _ _ _ _ _ _) ?_
                        intro U10 f10 e8
                        replace g9 := g9.ext e8 (by simp; omega)
                        replace hO3 := hO3.other g10 (by decide) (by decide) e8
                        replace hI3 := hI3.keep e8 (own_ne hI3.2.2.2.2 g10 (by decide))
                        replace hI6 := hI6.keep e8 (own_ne hI6.2.2.2.2 g10 (by decide))
                        have y6n : Ext [b9, b10] w6 _ := (y6.mono (fun k _ h => by simp at h ⊢; exact h)).trans (e8.mono (fun k _ h => by simp at h ⊢; omega)); clear y6; have y6 := y6n; clear y6n
                        clear g10; have g10 := f10; clear f10
                        have hS1 := hS0.trans' e8 (fun i hi => .inr (by simp at hi; omega))
                        refine hK.out _ _ (fun _ => hS1) ?_; clear hK K
                        try simp only [Act.put, List.getElem_toArray, List.getElem_cons_zero, List.getElem_cons_succ, List.setIfInBounds_toArray, List.set_cons_zero, List.set_cons_succ]
                        clear hS0 e8
                        have hS0 := hS1; clear hS1
                        refine HeldBut.done (by kernel_rfl) ?_ _
                        go_wp2_with (fail)
                        go_meet
                        exact ⟨b9, b10, _, _, rs3, _, _, rfl, rfl, hS0, l9, l10, g9, g10, ⟨_, _, _, rfl⟩, ⟨_, _, _, rfl⟩, ⟨_, _, _, rfl⟩, ⟨_, _, _, rfl⟩, hO3.mono lA, hI3.mono lA, hA3, hQ6.out [b9, b10] _ (fun k hk => by simp at hk; rcases hk with rfl | rfl; exact q9; exact q10) y6, hI6.pis (by simp)⟩
              · refine HeldBut.step (i := 8) rfl (fun K hK => ?_)
                try simp only [List.getElem_toArray, List.getElem_cons_zero, List.getElem_cons_succ]
                go_simp
                have e6 := (Ext.refl [] w3).alloc (.cells #[.int .u64 0, .slice none 0 0, .int .u64 0, .int .u64 0, .int .i64 0, .int .i64 0, .slice none 0 0, .bool false, .int .i64 0, .int .i64 0] 36)
                have hne : b9 ≠ w3.heap.size := by have := g9.lt; omega
                replace g9 := g9.ext e6 (by simp)
                replace hO3 := hO3.ext e6
                replace hI3 := hI3.keep e6 (fun _ _ => by simp)
                have g10 := Blk.new w3 [.int .u64 0, .slice none 0 0, .int .u64 0, .int .u64 0, .int .i64 0, .int .i64 0, .slice none 0 0, .bool false, .int .i64 0, .int .i64 0] 36
                have l10 := hS0.size
                have hS1 := hS0.trans e6
                refine hK.out _ _ (fun _ => hS1) ?_; clear hK K
                try simp only [Act.put, List.getElem_toArray, List.getElem_cons_zero, List.getElem_cons_succ, List.setIfInBounds_toArray, List.set_cons_zero, List.set_cons_succ]
                clear hS0 e6
                have hS0 := hS1; clear hS1
                generalize w3.alloc (.cells #[.int .u64 0, .slice none 0 0, .int .u64 0, .int .u64 0, .int .i64 0, .int .i64 0, .slice none 0 0, .bool false, .int .i64 0, .int .i64 0] 36) = U8 at *
                generalize w3.heap.size = b10 at *
                refine HeldBut.each [5] (by kernel_rfl) rfl ?_
                intro i hi; simp only [List.mem_cons, List.mem_nil_iff, or_false] at hi; rcases hi with rfl
                · refine HeldBut.step (i := 5) rfl (fun K hK => ?_)
                  try simp only [List.getElem_toArray, List.getElem_cons_zero, List.getElem_cons_succ]
                  go_simp
                  go_at_call 10
                  (with_reducible refine (sh _ hS0).mono ?_)
                  rintro e w5 ⟨v5, rs5, ⟨a5, n5, c5, rfl⟩, rfl, hO5, x5⟩
                  dsimp only
                  have hP5 := hO5.ps
                  clear hO5
                  have hS1 := hS0.trans x5
                  refine hK.out _ _ (fun _ => hS1) ?_; clear hK K
                  try simp only [Act.put, List.getElem_toArray, List.getElem_cons_zero, List.getElem_cons_succ, List.setIfInBounds_toArray, List.set_cons_zero, List.set_cons_succ]
                  replace g9 := g9.ext x5 (by simp)
                  replace g10 := g10.ext x5 (by simp)
                  replace hO3 := hO3.ext x5
                  replace hI3 := hI3.keep x5 (fun _ _ => by simp)
                  clear hS0 x5
                  have hS0 := hS1; clear hS1
                  refine HeldBut.each [6] (by kernel_rfl) rfl ?_
                  intro i hi; simp only [List.mem_cons, List.mem_nil_iff, or_false] at hi; rcases hi with rfl
                  · refine HeldBut.step (i := 6) rfl (fun K hK => ?_)
                    try simp only [List.getElem_toArray, List.getElem_cons_zero, List.getElem_cons_succ]
                    go_simp
                    go_at_call 12
                    (with_reducible refine (wn _ hS0 _ hP5).mono ?_)
                    rintro e w6 ⟨v6, r6, ⟨a6, n6, c6, rfl⟩, rfl, hP6, hI6, x6⟩
                    obtain ⟨pa, pc, rfl⟩ := (hI6.pis (X := []) (by simp)).shape
                    dsimp only
                    have hS1 := hS0.trans x6
                    refine hK.out _ _ (fun _ => hS1) ?_; clear hK K
                    try simp only [Act.put, List.getElem_toArray, List.getElem_cons_zero, List.getElem_cons_succ, List.setIfInBounds_toArray, List.set_cons_zero, List.set_cons_succ]
                    obtain ⟨A6, hAA⟩ : ∃ A, w5.heap.size = A := ⟨_, rfl⟩
                    obtain ⟨z6, hzz, hQ6⟩ : ∃ z, w6.heap.size = z ∧ Hid (∀ X w'', (∀ k ∈ X, k < A6 ∨ z ≤ k) → Ext X w6 w'' → Ps w'' (.slice a6 n6 c6) T.n.ps) := ⟨_, rfl, hAA ▸ hP6⟩
                    rw [hAA] at hI6
                    have hs6 : z6 ≤ w6.heap.size := Nat.le_of_eq hzz.symm
                    have y6 := Ext.refl [] w6
                    have q9 : b9 < A6 ∨ z6 ≤ b9 := .inl (by have := g9.lt; omega)
                    have q10 : b10 < A6 ∨ z6 ≤ b10 := .inl (by have := g10.lt; omega)
                    clear hP6 hAA hzz
                    replace g9 := g9.ext x6 (by simp)
                    replace g10 := g10.ext x6 (by simp)
                    replace hO3 := hO3.ext x6
                    replace hI3 := hI3.keep x6 (fun _ _ => by simp)
                    replace hP5 := hP5.ext x6
                    clear hS0 x6 hP5
                    have hS0 := hS1; clear hS1
                    refine HeldBut.each [9] (by kernel_rfl) rfl ?_
                    intro i hi; simp only [List.mem_cons, List.mem_nil_iff, or_false] at hi; rcases hi with rfl
                    · refine HeldBut.step (i := 9) rfl (fun K hK => ?_)
                      refine step_store_blk (by rfl) _ (.tmp 9) (.tmp 32) (by rfl) (by rfl) (by rfl) (by rfl) g9 told_info (by rfl) (one_told _ _ _ _ _ _ _ _ _ _ _ _ _ _) ?_
                      intro U9 f9 e8
                      replace g10 := g10.ext e8 (by simp; omega)
                      replace hO3 := hO3.other g9 (by decide) (by decide) e8
                      replace hI3 := hI3.keep e8 (own_ne hI3.2.2.2.2 g9 (by decide))
                      replace hI6 := hI6.keep e8 (own_ne hI6.2.2.2.2 g9 (by decide))
                      have y6n : Ext [b9, b10] w6 _ := (y6.mono (fun k _ h => by simp at h ⊢)).trans (e8.mono (fun k _ h => by simp at h ⊢; omega)); clear y6; have y6 := y6n; clear y6n
                      clear g9; have g9 := f9; clear f9
                      have hS1 := hS0.trans' e8 (fun i hi => .inr (by simp at hi; omega))
                      refine hK.out _ _ (fun _ => hS1) ?_; clear hK K
                      try simp only [Act.put, List.getElem_toArray, List.getElem_cons_zero, List.getElem_cons_succ, List.setIfInBounds_toArray, List.set_cons_zero, List.set_cons_succ]
                      clear hS0 e8
                      have hS0 := hS1; clear hS1
                      refine HeldBut.each [10] (by kernel_rfl) rfl ?_
                      intro i hi; simp only [List.mem_cons, List.mem_nil_iff, or_false] at hi; rcases hi with rfl
                      · refine HeldBut.step (i := 10) rfl (fun K hK => ?_)
                        refine step_store_blk (by rfl) _ (.tmp 10) (.tmp 36) (by rfl) (by rfl) (by rfl) (by rfl) g10 told_info (by rfl) (one_told _ _ _ _ _ _ _ _ _ _ _ _ _ _) ?_
                        intro U10 f10 e8
                        replace g9 := g9.ext e8 (by simp; omega)
                        replace hO3 := hO3.other g10 (by decide) (by decide) e8
                        replace hI3 := hI3.keep e8 (own_ne hI3.2.2.2.2 g10 (by decide))
                        replace hI6 := hI6.keep e8 (own_ne hI6.2.2.2.2 g10 (by decide))
                        have y6n : Ext [b9, b10] w6 _ := (y6.mono (fun k _ h => by simp at h ⊢; exact h)).trans (e8.mono (fun k _ h => by simp at h ⊢; omega)); clear y6; have y6 := y6n; clear y6n
                        clear g10; have g10 := f10; clear f10
                        have hS1 := hS0.trans' e8 (fun i hi => .inr (by simp at hi; omega))
                        refine hK.out _ _ (fun _ => hS1) ?_; clear hK K
                        try simp only [Act.put, List.getElem_toArray, List.getElem_cons_zero, List.getElem_cons_succ, List.setIfInBounds_toArray, List.set_cons_zero, List.set_cons_succ]
                        clear hS0 e8
                        have hS0 := hS1; clear hS1
                        refine HeldBut.done (by kernel_rfl) ?_ _
                        go_wp2_with (fail)
                        go_meet
                        exact ⟨b9, b10, _, _, rs3, _, _, rfl, rfl, hS0, l9, l10, g9, g10, ⟨_, _, _, rfl⟩, ⟨_, _, _, rfl⟩, ⟨_, _, _, rfl⟩, ⟨_, _, _, rfl⟩, hO3.mono lA, hI3.mono lA, hA3, hQ6.out [b9, b10] _ (fun k hk => by simp at hk; rcases hk with rfl | rfl; exact q9; exact q10) y6, hI6.pis (by simp)⟩
            · refine HeldBut.step (i := 8) rfl (fun K hK => ?_)
              try simp only [List.getElem_toArray, List.getElem_cons_zero, List.getElem_cons_succ]
              go_simp
              have e6 := (Ext.refl [] U7).alloc (.cells #[.int .u64 0, .slice none 0 0, .int .u64 0, .int .u64 0, .int .i64 0, .int .i64 0, .slice none 0 0, .bool false, .int .i64 0, .int .i64 0] 36)
              have hne : b9 ≠ U7.heap.size := by have := g9.lt; omega
              replace g9 := g9.ext e6 (by simp)
              have g10 := Blk.new U7 [.int .u64 0, .slice none 0 0, .int .u64 0, .int .u64 0, .int .i64 0, .int .i64 0, .slice none 0 0, .bool false, .int .i64 0, .int .i64 0] 36
              have l10 := hS0.size
              have hS1 := hS0.trans e6
              refine hK.out _ _ (fun _ => hS1) ?_; clear hK K
              try simp only [Act.put, List.getElem_toArray, List.getElem_cons_zero, List.getElem_cons_succ, List.setIfInBounds_toArray, List.set_cons_zero, List.set_cons_succ]
              clear hS0 e6
              have hS0 := hS1; clear hS1
              generalize U7.alloc (.cells #[.int .u64 0, .slice none 0 0, .int .u64 0, .int .u64 0, .int .i64 0, .int .i64 0, .slice none 0 0, .bool false, .int .i64 0, .int .i64 0] 36) = U8 at *
              generalize U7.heap.size = b10 at *
              refine HeldBut.each [2] (by kernel_rfl) rfl ?_
              intro i hi; simp only [List.mem_cons, List.mem_nil_iff, or_false] at hi; rcases hi with rfl
              · refine HeldBut.step (i := 2) rfl (fun K hK => ?_)
                try simp only [List.getElem_toArray, List.getElem_cons_zero, List.getElem_cons_succ]
                go_simp
                go_at_call 11
                (with_reducible refine (rn' _ hS0).mono ?_)
                rintro e w3 ⟨v3, rs3, r3, ⟨a3, n3, c3, rfl⟩, rfl, hO3, hI3, hA3, x3⟩
                obtain ⟨ra, rc, hrb⟩ := own_shape hI3.2.2.2.2
                obtain ⟨rn, rf, rt, rb, rsp⟩ := r3
                dsimp only at hrb
                subst hrb
                dsimp only
                have lA := hS0.size
                have hS1 := hS0.trans x3
                refine hK.out _ _ (fun _ => hS1) ?_; clear hK K
                try simp only [Act.put, List.getElem_toArray, List.getElem_cons_zero, List.getElem_cons_succ, List.setIfInBounds_toArray, List.set_cons_zero, List.set_cons_succ]
                replace g9 := g9.ext x3 (by simp)
                replace g10 := g10.ext x3 (by simp)
                clear hS0 x3
                have hS0 := hS1; clear hS1
                refine HeldBut.each [5] (by kernel_rfl) rfl ?_
                intro i hi; simp only [List.mem_cons, List.mem_nil_iff, or_false] at hi; rcases hi with rfl
                · refine HeldBut.step (i := 5) rfl (fun K hK => ?_)
                  try simp only [List.getElem_toArray, List.getElem_cons_zero, List.getElem_cons_succ]
                  go_simp
                  go_at_call 10
                  (with_reducible refine (sh _ hS0).mono ?_)
                  rintro e w5 ⟨v5, rs5, ⟨a5, n5, c5, rfl⟩, rfl, hO5, x5⟩
                  dsimp only
                  have hP5 := hO5.ps
                  clear hO5
                  have hS1 := hS0.trans x5
                  refine hK.out _ _ (fun _ => hS1) ?_; clear hK K
                  try simp only [Act.put, List.getElem_toArray, List.getElem_cons_zero, List.getElem_cons_succ, List.setIfInBounds_toArray, List.set_cons_zero, List.set_cons_succ]
                  replace g9 := g9.ext x5 (by simp)
                  replace g10 := g10.ext x5 (by simp)
                  replace hO3 := hO3.ext x5
                  replace hI3 := hI3.keep x5 (fun _ _ => by simp)
                  clear hS0 x5
                  have hS0 := hS1; clear hS1
                  refine HeldBut.each [6] (by kernel_rfl) rfl ?_
                  intro i hi; simp only [List.mem_cons, List.mem_nil_iff, or_false] at hi; rcases hi with rfl
                  · refine HeldBut.step (i := 6) rfl (fun K hK => ?_)
                    try simp only [List.getElem_toArray, List.getElem_cons_zero, List.getElem_cons_succ]
                    go_simp
                    go_at_call 12
                    (with_reducible refine (wn _ hS0 _ hP5).mono ?_)
                    rintro e w6 ⟨v6, r6, ⟨a6, n6, c6, rfl⟩, rfl, hP6, hI6, x6⟩
                    obtain ⟨pa, pc, rfl⟩ := (hI6.pis (X := []) (by simp)).shape
                    dsimp only
                    have hS1 := hS0.trans x6
                    refine hK.out _ _ (fun _ => hS1) ?_; clear hK K
                    try simp only [Act.put, List.getElem_toArray, List.getElem_cons_zero, List.getElem_cons_succ, List.setIfInBounds_toArray, List.set_cons_zero, List.set_cons_succ]
                    obtain ⟨A6, hAA⟩ : ∃ A, w5.heap.size = A := ⟨_, rfl⟩
                    obtain ⟨z6, hzz, hQ6⟩ : ∃ z, w6.heap.size = z ∧ Hid (∀ X w'', (∀ k ∈ X, k < A6 ∨ z ≤ k) → Ext X w6 w'' → Ps w'' (.slice a6 n6 c6) T.n.ps) := ⟨_, rfl, hAA ▸ hP6⟩
                    rw [hAA] at hI6
                    have hs6 : z6 ≤ w6.heap.size := Nat.le_of_eq hzz.symm
                    have y6 := Ext.refl [] w6
                    have q9 : b9 < A6 ∨ z6 ≤ b9 := .inl (by have := g9.lt; omega)
                    have q10 : b10 < A6 ∨ z6 ≤ b10 := .inl (by have := g10.lt; omega)
                    clear hP6 hAA hzz
                    replace g9 := g9.ext x6 (by simp)
                    replace g10 := g10.ext x6 (by simp)
                    replace hO3 := hO3.ext x6
                    replace hI3 := hI3.keep x6 (fun _ _ => by simp)
                    replace hP5 := hP5.ext x6
                    clear hS0 x6 hP5
                    have hS0 := hS1; clear hS1
                    refine HeldBut.each [9] (by kernel_rfl) rfl ?_
                    intro i hi; simp only [List.mem_cons, List.mem_nil_iff, or_false] at hi; rcases hi with rfl
                    · refine HeldBut.step (i := 9) rfl (fun K hK => ?_)
                      refine step_store_blk (by rfl) _ (.tmp 9) (.tmp 32) (by rfl) (by rfl) (by rfl) (by rfl) g9 told_info (by rfl) (one_told _ _ _ _ _ _ _ _ _ _ _ _ _ _) ?_
                      intro U9 f9 e8
                      replace g10 := g10.ext e8 (by simp; omega)
                      replace hO3 := hO3.other g9 (by decide) (by decide) e8
                      replace hI3 := hI3.keep e8 (own_ne hI3.2.2.2.2 g9 (by decide))
                      replace hI6 := hI6.keep e8 (own_ne hI6.2.2.2.2 g9 (by decide))
                      have y6n : Ext [b9, b10] w6 _ := (y6.mono (fun k _ h => by simp at h ⊢)).trans (e8.mono (fun k _ h => by simp at h ⊢; omega)); clear y6; have y6 := y6n; clear y6n
                      clear g9; have g9 := f9; clear f9
                      have hS1 := hS0.trans' e8 (fun i hi => .inr (by simp at hi; omega))
                      refine hK.out _ _ (fun _ => hS1) ?_; clear hK K
                      try simp only [Act.put, List.getElem_toArray, List.getElem_cons_zero, List.getElem_cons_succ, List.setIfInBounds_toArray, List.set_cons_zero, List.set_cons_succ]
                      clear hS0 e8
                      have hS0 := hS1; clear hS1
                      refine HeldBut.each [10] (by kernel_rfl) rfl ?_
                      intro i hi; simp only [List.mem_cons, List.mem_nil_iff, or_false] at hi; rcases hi with rfl
                      · refine HeldBut.step (i := 10) rfl (fun K hK => ?_)
                        refine step_store_blk (by rfl) _ (.tmp 10) (.tmp 36) (by rfl) (by rfl) (by rfl) (by rfl) g10 told_info (by rfl) (one_told _ _ _ _ _ _ _ _ _ _ _ _ _ _) ?_
                        intro U10 f10 e8
                        replace g9 := g9.ext e8 (by simp; omega)
                        replace hO3 := hO3.other g10 (by decide) (by decide) e8
                        replace hI3 := hI3.keep e8 (own_ne hI3.2.2.2.2 g10 (by decide))
                        replace hI6 := hI6.keep e8 (own_ne hI6.2.2.2.2 g10 (by decide))
                        have y6n : Ext [b9, b10] w6 _ := (y6.mono (fun k _ h => by simp at h ⊢; exact h)).trans (e8.mono (fun k _ h => by simp at h ⊢; omega)); clear y6; have y6 := y6n; clear y6n
                        clear g10; have g10 := f10; clear f10
                        have hS1 := hS0.trans' e8 (fun i hi => .inr (by simp at hi; omega))
                        refine hK.out _ _ (fun _ => hS1) ?_; clear hK K
                        try simp only [Act.put, List.getElem_toArray, List.getElem_cons_zero, List.getElem_cons_succ, List.setIfInBounds_toArray, List.set_cons_zero, List.set_cons_succ]
                        clear hS0 e8
                        have hS0 := hS1; clear hS1
                        refine HeldBut.done (by kernel_rfl) ?_ _
                        go_wp2_with (fail)
                        go_meet
                        exact ⟨b9, b10, _, _, rs3, _, _, rfl, rfl, hS0, l9, l10, g9, g10, ⟨_, _, _, rfl⟩, ⟨_, _, _, rfl⟩, ⟨_, _, _, rfl⟩, ⟨_, _, _, rfl⟩, hO3.mono lA, hI3.mono lA, hA3, hQ6.out [b9, b10] _ (fun k hk => by simp at hk; rcases hk with rfl | rfl; exact q9; exact q10) y6, hI6.pis (by simp)⟩
          · refine HeldBut.step (i := 8) rfl (fun K hK => ?_)
            try simp only [List.getElem_toArray, List.getElem_cons_zero, List.getElem_cons_succ]
            go_simp
            have e6 := (Ext.refl [] D0).alloc (.cells #[.int .u64 0, .slice none 0 0, .int .u64 0, .int .u64 0, .int .i64 0, .int .i64 0, .slice none 0 0, .bool false, .int .i64 0, .int .i64 0] 36)
            have g10 := Blk.new D0 [.int .u64 0, .slice none 0 0, .int .u64 0, .int .u64 0, .int .i64 0, .int .i64 0, .slice none 0 0, .bool false, .int .i64 0, .int .i64 0] 36
            have l10 := hS0.size
            have hS1 := hS0.trans e6
            refine hK.out _ _ (fun _ => hS1) ?_; clear hK K
            try simp only [Act.put, List.getElem_toArray, List.getElem_cons_zero, List.getElem_cons_succ, List.setIfInBounds_toArray, List.set_cons_zero, List.set_cons_succ]
            clear hS0 e6
            have hS0 := hS1; clear hS1
            generalize D0.alloc (.cells #[.int .u64 0, .slice none 0 0, .int .u64 0, .int .u64 0, .int .i64 0, .int .i64 0, .slice none 0 0, .bool false, .int .i64 0, .int .i64 0] 36) = U8 at *
            generalize D0.heap.size = b10 at *
            refine HeldBut.each [2, 7] (by kernel_rfl) rfl ?_
            intro i hi; simp only [List.mem_cons, List.mem_nil_iff, or_false] at hi; rcases hi with rfl | rfl
            · refine HeldBut.step (i := 2) rfl (fun K hK => ?_)
              try simp only [List.getElem_toArray, List.getElem_cons_zero, List.getElem_cons_succ]
              go_simp
              go_at_call 11
              (with_reducible refine (rn' _ hS0).mono ?_)
              rintro e w3 ⟨v3, rs3, r3, ⟨a3, n3, c3, rfl⟩, rfl, hO3, hI3, hA3, x3⟩
              obtain ⟨ra, rc, hrb⟩ := own_shape hI3.2.2.2.2
              obtain ⟨rn, rf, rt, rb, rsp⟩ := r3
              dsimp only at hrb
              subst hrb
              dsimp only
              have lA := hS0.size
              have hS1 := hS0.trans x3
              refine hK.out _ _ (fun _ => hS1) ?_; clear hK K
              try simp only [Act.put, List.getElem_toArray, List.getElem_cons_zero, List.getElem_cons_succ, List.setIfInBounds_toArray, List.set_cons_zero, List.set_cons_succ]
              replace g10 := g10.ext x3 (by simp)
              clear hS0 x3
              have hS0 := hS1; clear hS1
              refine HeldBut.each [5, 7] (by kernel_rfl) rfl ?_
              intro i hi; simp only [List.mem_cons, List.mem_nil_iff, or_false] at hi; rcases hi with rfl | rfl
              · refine HeldBut.step (i := 5) rfl (fun K hK => ?_)
                try simp only [List.getElem_toArray, List.getElem_cons_zero, List.getElem_cons_succ]
                go_simp
                go_at_call 10
                (with_reducible refine (sh _ hS0).mono ?_)
                rintro e w5 ⟨v5, rs5, ⟨a5, n5, c5, rfl⟩, rfl, hO5, x5⟩
                dsimp only
                have hP5 := hO5.ps
                clear hO5
                have hS1 := hS0.trans x5
                refine hK.out _ _ (fun _ => hS1) ?_; clear hK K
                try simp only [Act.put, List.getElem_toArray, List.getElem_cons_zero, List.getElem_cons_succ, List.setIfInBounds_toArray, List.set_cons_zero, List.set_cons_succ]
                replace g10 := g10.ext x5 (by simp)
                replace hO3 := hO3.ext x5
                replace hI3 := hI3.keep x5 (fun _ _ => by simp)
                clear hS0 x5
                have hS0 := hS1; clear hS1
                refine HeldBut.each [6, 7] (by kernel_rfl) rfl ?_
                intro i hi; simp only [List.mem_cons, List.mem_nil_iff, or_false] at hi; rcases hi with rfl | rfl
                · refine HeldBut.step (i := 6) rfl (fun K hK => ?_)
                  try simp only [List.getElem_toArray, List.getElem_cons_zero, List.getElem_cons_succ]
                  go_simp
                  go_at_call 12
                  (with_reducible refine (wn _ hS0 _ hP5).mono ?_)
                  rintro e w6 ⟨v6, r6, ⟨a6, n6, c6, rfl⟩, rfl, hP6, hI6, x6⟩
                  obtain ⟨pa, pc, rfl⟩ := (hI6.pis (X := []) (by simp)).shape
                  dsimp only
                  have hS1 := hS0.trans x6
                  refine hK.out _ _ (fun _ => hS1) ?_; clear hK K
                  try simp only [Act.put, List.getElem_toArray, List.getElem_cons_zero, List.getElem_cons_succ, List.setIfInBounds_toArray, List.set_cons_zero, List.set_cons_succ]
                  obtain ⟨A6, hAA⟩ : ∃ A, w5.heap.size = A := ⟨_, rfl⟩
                  obtain ⟨z6, hzz, hQ6⟩ : ∃ z, w6.heap.size = z ∧ Hid (∀ X w'', (∀ k ∈ X, k < A6 ∨ z ≤ k) → Ext X w6 w'' → Ps w'' (.slice a6 n6 c6) T.n.ps) := ⟨_, rfl, hAA ▸ hP6⟩
                  rw [hAA] at hI6
                  have hs6 : z6 ≤ w6.heap.size := Nat.le_of_eq hzz.symm
                  have y6 := Ext.refl [] w6
                  have q10 : b10 < A6 ∨ z6 ≤ b10 := .inl (by have := g10.lt; omega)
                  clear hP6 hAA hzz
                  replace g10 := g10.ext x6 (by simp)
                  replace hO3 := hO3.ext x6
                  replace hI3 := hI3.keep x6 (fun _ _ => by simp)
                  replace hP5 := hP5.ext x6
                  clear hS0 x6 hP5
                  have hS0 := hS1; clear hS1
                  refine HeldBut.each [7] (by kernel_rfl) rfl ?_
                  intro i hi; simp only [List.mem_cons, List.mem_nil_iff, or_false] at hi; rcases hi with rfl
                  · refine HeldBut.step (i := 7) rfl (fun K hK => ?_)
                    try simp only [List.getElem_toArray, List.getElem_cons_zero, List.getElem_cons_succ]
                    go_simp
                    have e6 := (Ext.refl [] w6).alloc (.cells #[.int .u64 0, .slice none 0 0, .int .u64 0, .int .u64 0, .int .i64 0, .int .i64 0, .slice none 0 0, .bool false, .int .i64 0, .int .i64 0] 36)
                    have hne : b10 ≠ w6.heap.size := by have := g10.lt; omega
                    have hs6o := hs6
                    replace g10 := g10.ext e6 (by simp)
                    replace hO3 := hO3.ext e6
                    replace hI3 := hI3.keep e6 (fun _ _ => by simp)
                    have y6n := y6.trans e6; clear y6; have y6 := y6n; clear y6n
                    have hs6n := Nat.le_trans hs6 (e6).size; clear hs6; have hs6 := hs6n; clear hs6n
                    replace hI6 := hI6.keep e6 (fun _ _ => by simp)
                    have g9 := Blk.new w6 [.int .u64 0, .slice none 0 0, .int .u64 0, .int .u64 0, .int .i64 0, .int .i64 0, .slice none 0 0, .bool false, .int .i64 0, .int .i64 0] 36
                    have l9 := hS0.size
                    have q9 : w6.heap.size < A6 ∨ z6 ≤ w6.heap.size := .inr hs6o
                    have hS1 := hS0.trans e6
                    refine hK.out _ _ (fun _ => hS1) ?_; clear hK K
                    try simp only [Act.put, List.getElem_toArray, List.getElem_cons_zero, List.getElem_cons_succ, List.setIfInBounds_toArray, List.set_cons_zero, List.set_cons_succ]
                    clear hS0 e6 hs6o
                    have hS0 := hS1; clear hS1
                    generalize w6.alloc (.cells #[.int .u64 0, .slice none 0 0, .int .u64 0, .int .u64 0, .int .i64 0, .int .i64 0, .slice none 0 0, .bool false, .int .i64 0, .int .i64 0] 36) = U7 at *
                    generalize w6.heap.size = b9 at *
                    refine HeldBut.each [9] (by kernel_rfl) rfl ?_
                    intro i hi; simp only [List.mem_cons, List.mem_nil_iff, or_false] at hi; rcases hi with rfl
                    · refine HeldBut.step (i := 9) rfl (fun K hK => ?_)
                      refine step_store_blk (by rfl) _ (.tmp 9) (.tmp 32) (by rfl) (by rfl) (by rfl) (by rfl) g9 told_info (by rfl) (one_told _ _ _ _ _ _ _ _ _ _ _ _ _ _) ?_
                      intro U9 f9 e8
                      replace g10 := g10.ext e8 (by simp; omega)
                      replace hO3 := hO3.other g9 (by decide) (by decide) e8
                      replace hI3 := hI3.keep e8 (own_ne hI3.2.2.2.2 g9 (by decide))
                      replace hI6 := hI6.keep e8 (own_ne hI6.2.2.2.2 g9 (by decide))
                      have y6n : Ext [b9, b10] w6 _ := (y6.mono (fun k _ h => by simp at h ⊢)).trans (e8.mono (fun k _ h => by simp at h ⊢; omega)); clear y6; have y6 := y6n; clear y6n
                      clear g9; have g9 := f9; clear f9
                      have hS1 := hS0.trans' e8 (fun i hi => .inr (by simp at hi; omega))
                      refine hK.out _ _ (fun _ => hS1) ?_; clear hK K
                      try simp only [Act.put, List.getElem_toArray, List.getElem_cons_zero, List.getElem_cons_succ, List.setIfInBounds_toArray, List.set_cons_zero, List.set_cons_succ]
                      clear hS0 e8
                      have hS0 := hS1; clear hS1
                      refine HeldBut.each [10] (by kernel_rfl) rfl ?_
                      intro i hi; simp only [List.mem_cons, List.mem_nil_iff, or_false] at hi; rcases hi with rfl
                      · refine HeldBut.step (i := 10) rfl (fun K hK => ?_)
                        refine step_store_blk (by rfl) _ (.tmp 10) (.tmp 36) (by rfl) (by rfl) (by rfl) (by rfl) g10 told_info (by rfl) (one_told _ _ _ _ _ _ _ _ _ _ _ _ _ _) ?_
                        intro U10 f10 e8
                        replace g9 := g9.ext e8 (by simp; omega)
                        replace hO3 := hO3.other g10 (by decide) (by decide) e8
                        replace hI3 := hI3.keep e8 (own_ne hI3.2.2.2.2 g10 (by decide))
                        replace hI6 := hI6.keep e8 (own_ne hI6.2.2.2.2 g10 (by decide))
                        have y6n : Ext [b9, b10] w6 _ := (y6.mono (fun k _ h => by simp at h ⊢; exact h)).trans (e8.mono (fun k _ h => by simp at h ⊢; omega)); clear y6; have y6 := y6n; clear y6n
                        clear g10; have g10 := f10; clear f10
                        have hS1 := hS0.trans' e8 (fun i hi => .inr (by simp at hi; omega))
                        refine hK.out _ _ (fun _ => hS1) ?_; clear hK K
                        try simp only [Act.put, List.getElem_toArray, List.getElem_cons_zero, List.getElem_cons_succ, List.setIfInBounds_toArray, List.set_cons_zero, List.set_cons_succ]
                        clear hS0 e8
                        have hS0 := hS1; clear hS1
                        refine HeldBut.done (by kernel_rfl) ?_ _
                        go_wp2_with (fail)
                        go_meet
                        exact ⟨b9, b10, _, _, rs3, _, _, rfl, rfl, hS0, l9, l10, g9, g10, ⟨_, _, _, rfl⟩, ⟨_, _, _, rfl⟩, ⟨_, _, _, rfl⟩, ⟨_, _, _, rfl⟩, hO3.mono lA, hI3.mono lA, hA3, hQ6.out [b9, b10] _ (fun k hk => by simp at hk; rcases hk with rfl | rfl; exact q9; exact q10) y6, hI6.pis (by simp)⟩
                · refine HeldBut.step (i := 7) rfl (fun K hK => ?_)
                  try simp only [List.getElem_toArray, List.getElem_cons_zero, List.getElem_cons_succ]
                  go_simp
                  have e6 := (Ext.refl [] w5).alloc (.cells #[.int .u64 0, .slice none 0 0, .int .u64 0, .int .u64 0, .int .i64 0, .int .i64 0, .slice none 0 0, .bool false, .int .i64 0, .int .i64 0] 36)
                  have hne : b10 ≠ w5.heap.size := by have := g10.lt; omega
                  replace g10 := g10.ext e6 (by simp)
                  replace hO3 := hO3.ext e6
                  replace hI3 := hI3.keep e6 (fun _ _ => by simp)
                  replace hP5 := hP5.ext e6
                  have g9 := Blk.new w5 [.int .u64 0, .slice none 0 0, .int .u64 0, .int .u64 0, .int .i64 0, .int .i64 0, .slice none 0 0, .bool false, .int .i64 0, .int .i64 0] 36
                  have l9 := hS0.size
                  have hS1 := hS0.trans e6
                  refine hK.out _ _ (fun _ => hS1) ?_; clear hK K
                  try simp only [Act.put, List.getElem_toArray, List.getElem_cons_zero, List.getElem_cons_succ, List.setIfInBounds_toArray, List.set_cons_zero, List.set_cons_succ]
                  clear hS0 e6
                  have hS0 := hS1; clear hS1
                  generalize w5.alloc (.cells #[.int .u64 0, .slice none 0 0, .int .u64 0, .int .u64 0, .int .i64 0, .int .i64 0, .slice none 0 0, .bool false, .int .i64 0, .int .i64 0] 36) = U7 at *
                  generalize w5.heap.size = b9 at *
                  refine HeldBut.each [6] (by kernel_rfl) rfl ?_
                  intro i hi; simp only [List.mem_cons, List.mem_nil_iff, or_false] at hi; rcases hi with rfl
                  · refine HeldBut.step (i := 6) rfl (fun K hK => ?_)
                    try simp only [List.getElem_toArray, List.getElem_cons_zero, List.getElem_cons_succ]
                    go_simp
                    go_at_call 12
                    (with_reducible refine (wn _ hS0 _ hP5).mono ?_)
                    rintro e w6 ⟨v6, r6, ⟨a6, n6, c6, rfl⟩, rfl, hP6, hI6, x6⟩
                    obtain ⟨pa, pc, rfl⟩ := (hI6.pis (X := []) (by simp)).shape
                    dsimp only
                    have hS1 := hS0.trans x6
                    refine hK.out _ _ (fun _ => hS1) ?_; clear hK K
                    try simp only [Act.put, List.getElem_toArray, List.getElem_cons_zero, List.getElem_cons_succ, List.setIfInBounds_toArray, List.set_cons_zero, List.set_cons_succ]
                    obtain ⟨A6, hAA⟩ : ∃ A, U7.heap.size = A := ⟨_, rfl⟩
                    obtain ⟨z6, hzz, hQ6⟩ : ∃ z, w6.heap.size = z ∧ Hid (∀ X w'', (∀ k ∈ X, k < A6 ∨ z ≤ k) → Ext X w6 w'' → Ps w'' (.slice a6 n6 c6) T.n.ps) := ⟨_, rfl, hAA ▸ hP6⟩
                    rw [hAA] at hI6
                    have hs6 : z6 ≤ w6.heap.size := Nat.le_of_eq hzz.symm
                    have y6 := Ext.refl [] w6
                    have q9 : b9 < A6 ∨ z6 ≤ b9 := .inl (by have := g9.lt; omega)
                    have q10 : b10 < A6 ∨ z6 ≤ b10 := .inl (by have := g10.lt; omega)
                    clear hP6 hAA hzz
                    replace g9 := g9.ext x6 (by simp)
                    replace g10 := g10.ext x6 (by simp)
                    replace hO3 := hO3.ext x6
                    replace hI3 := hI3.keep x6 (fun _ _ => by simp)
                    replace hP5 := hP5.ext x6
                    clear hS0 x6 hP5
                    have hS0 := hS1; clear hS1
                    refine HeldBut.each [9] (by kernel_rfl) rfl ?_
                    intro i hi; simp only [List.mem_cons, List.mem_nil_iff, or_false] at hi; rcases hi with rfl
                    · refine HeldBut.step (i := 9) rfl (fun K hK => ?_)
                      refine step_store_blk (by rfl) _ (.tmp 9) (.tmp 32) (by rfl) (by rfl) (by rfl) (by rfl) g9 told_info (by rfl) (one_told _ _ _ _ _ _ _ _ _ _ _ _ _ _) ?_
                      intro U9 f9 e8
                      replace g10 := g10.ext e8 (by simp; omega)
                      replace hO3 := hO3.other g9 (by decide) (by decide) e8
                      replace hI3 := hI3.keep e8 (own_ne hI3.2.2.2.2 g9 (by decide))
                      replace hI6 := hI6.keep e8 (own_ne hI6.2.2.2.2 g9 (by decide))
                      have y6n : Ext [b9, b10] w6 _ := (y6.mono (fun k _ h => by simp at h ⊢)).trans (e8.mono (fun k _ h => by simp at h ⊢; omega)); clear y6; have y6 := y6n; clear y6n
                      clear g9; have g9 := f9; clear f9
                      have hS1 := hS0.trans' e8 (fun i hi => .inr (by simp at hi; omega))
                      refine hK.out _ _ (fun _ => hS1) ?_; clear hK K
                      try simp only [Act.put, List.getElem_toArray, List.getElem_cons_zero, List.getElem_cons_succ, List.setIfInBounds_toArray, List.set_cons_zero, List.set_cons_succ]
                      clear hS0 e8
                      have hS0 := hS1; clear hS1
                      refine HeldBut.each [10] (by kernel_rfl) rfl ?_
                      intro i hi; simp only [List.mem_cons, List.mem_nil_iff, or_false] at hi; rcases hi with rfl
                      · refine HeldBut.step (i := 10) rfl (fun K hK => ?_)
                        refine step_store_blk (by rfl) _ (.tmp 10) (.tmp 36) (by rfl) (by rfl) (by rfl) (by rfl) g10 told_info (by rfl) (one_told _ _ _ _ _ _ _ _ _ _ _ _ _ _) ?_
                        intro U10 f10 e8
                        replace g9 := g9.ext e8 (by simp; omega)
                        replace hO3 := hO3.other g10 (by decide) (by decide) e8
                        replace hI3 := hI3.keep e8 (own_ne hI3.2.2.2.2 g10 (by decide))
                        replace hI6 := hI6.keep e8 (own_ne hI6.2.2.2.2 g10 (by decide))
                        have y6n : Ext [b9, b10] w6 _ := (y6.mono (fun k _ h => by simp at h ⊢; exact h)).trans (e8.mono (fun k _ h => by simp at h ⊢; omega)); clear y6; have y6 := y6n; clear y6n
                        clear g10; have g10 := f10; clear f10
                        have hS1 := hS0.trans' e8 (fun i hi => .inr (by simp at hi; omega))
                        refine hK.out _ _ (fun _ => hS1) ?_; clear hK K
                        try simp only [Act.put, List.getElem_toArray, List.getElem_cons_zero, List.getElem_cons_succ, List.setIfInBounds_toArray, List.set_cons_zero, List.set_cons_succ]
                        clear hS0 e8
                        have hS0 := hS1; clear hS1
                        refine HeldBut.done (by kernel_rfl) ?_ _
                        go_wp2_with (fail)
                        go_meet
                        exact ⟨b9, b10, _, _, rs3, _, _, rfl, rfl, hS0, l9, l10, g9, g10, ⟨_, _, _, rfl⟩, ⟨_, _, _, rfl⟩, ⟨_, _, _, rfl⟩, ⟨_, _, _, rfl⟩, hO3.mono lA, hI3.mono lA, hA3, hQ6.out [b9, b10] _ (fun k hk => by simp at hk; rcases hk with rfl | rfl; exact q9; exact q10) y6, hI6.pis (by simp)⟩
              · refine HeldBut.step (i := 7) rfl (fun K hK => ?_)
                try simp only [List.getElem_toArray, List.getElem_cons_zero, List.getElem_cons_succ]
                go_simp
                have e6 := (Ext.refl [] w3).alloc (.cells #[.int .u64 0, .slice none 0 0, .int .u64 0, .int .u64 0, .int .i64 0, .int .i64 0, .slice none 0 0, .bool false, .int .i64 0, .int .i64 0] 36)
                have hne : b10 ≠ w3.heap.size := by have := g10.lt; omega
                replace g10 := g10.ext e6 (by simp)
                replace hO3 := hO3.ext e6
                replace hI3 := hI3.keep e6 (fun _ _ => by simp)
                have g9 := Blk.new w3 [.int .u64 0, .slice none 0 0, .int .u64 0, .int .u64 0, .int .i64 0, .int .i64 0, .slice none 0 0, .bool false, .int .i64 0, .int .i64 0] 36
                have l9 := hS0.size
                have hS1 := hS0.trans e6
                refine hK.out _ _ (fun _ => hS1) ?_; clear hK K
                try simp only [Act.put, List.getElem_toArray, List.getElem_cons_zero, List.getElem_cons_succ, List.setIfInBounds_toArray, List.set_cons_zero, List.set_cons_succ]
                clear hS0 e6
                have hS0 := hS1; clear hS1
                generalize w3.alloc (.cells #[.int .u64 0, .slice none 0 0, .int .u64 0, .int .u64 0, .int .i64 0, .int .i64 0, .slice none 0 0, .bool false, .int .i64 0, .int .i64 0] 36) = U7 at *
                generalize w3.heap.size = b9 at *
                refine HeldBut.each [5] (by kernel_rfl) rfl ?_
                intro i hi; simp only [List.mem_cons, List.mem_nil_iff, or_false] at hi; rcases hi with rfl
                · refine HeldBut.step (i := 5) rfl (fun K hK => ?_)
                  try simp only [List.getElem_toArray, List.getElem_cons_zero, List.getElem_cons_succ]
                  go_simp
                  go_at_call 10
                  (with_reducible refine (sh _ hS0).mono ?_)
                  rintro e w5 ⟨v5, rs5, ⟨a5, n5, c5, rfl⟩, rfl, hO5, x5⟩
                  dsimp only
                  have hP5 := hO5.ps
                  clear hO5
                  have hS1 := hS0.trans x5
                  refine hK.out _ _ (fun _ => hS1) ?_; clear hK K
                  try simp only [Act.put, List.getElem_toArray, List.getElem_cons_zero, List.getElem_cons_succ, List.setIfInBounds_toArray, List.set_cons_zero, List.set_cons_succ]
                  replace g9 := g9.ext x5 (by simp)
                  replace g10 := g10.ext x5 (by simp)
                  replace hO3 := hO3.ext x5
                  replace hI3 := hI3.keep x5 (fun _ _ => by simp)
                  clear hS0 x5
                  have hS0 := hS1; clear hS1
                  refine HeldBut.each [6] (by kernel_rfl) rfl ?_
                  intro i hi; simp only [List.mem_cons, List.mem_nil_iff, or_false] at hi; rcases hi with rfl
                  · refine HeldBut.step (i := 6) rfl (fun K hK => ?_)
                    try simp only [List.getElem_toArray, List.getElem_cons_zero, List.getElem_cons_succ]
                    go_simp
                    go_at_call 12
                    (with_reducible refine (wn _ hS0 _ hP5).mono ?_)
                    rintro e w6 ⟨v6, r6, ⟨a6, n6, c6, rfl⟩, rfl, hP6, hI6, x6⟩
                    obtain ⟨pa, pc, rfl⟩ := (hI6.pis (X := []) (by simp)).shape
                    dsimp only
                    have hS1 := hS0.trans x6
                    refine hK.out _ _ (fun _ => hS1) ?_; clear hK K
                    try simp only [Act.put, List.getElem_toArray, List.getElem_cons_zero, List.getElem_cons_succ, List.setIfInBounds_toArray, List.set_cons_zero, List.set_cons_succ]
                    obtain ⟨A6, hAA⟩ : ∃ A, w5.heap.size = A := ⟨_, rfl⟩
                    obtain ⟨z6, hzz, hQ6⟩ : ∃ z, w6.heap.size = z ∧ Hid (∀ X w'', (∀ k ∈ X, k < A6 ∨ z ≤ k) → Ext X w6 w'' → Ps w'' (.slice a6 n6 c6) T.n.ps) := ⟨_, rfl, hAA ▸ hP6⟩
                    rw [hAA] at hI6
                    have hs6 : z6 ≤ w6.heap.size := Nat.le_of_eq hzz.symm
                    have y6 := Ext.refl [] w6
                    have q9 : b9 < A6 ∨ z6 ≤ b9 := .inl (by have := g9.lt; omega)
                    have q10 : b10 < A6 ∨ z6 ≤ b10 := .inl (by have := g10.lt; omega)
                    clear hP6 hAA hzz
                    replace g9 := g9.ext x6 (by simp)
                    replace g10 := g10.ext x6 (by simp)
                    replace hO3 := hO3.ext x6
                    replace hI3 := hI3.keep x6 (fun _ _ => by simp)
                    replace hP5 := hP5.ext x6
                    clear hS0 x6 hP5
                    have hS0 := hS1; clear hS1
                    refine HeldBut.each [9] (by kernel_rfl) rfl ?_
                    intro i hi; simp only [List.mem_cons, List.mem_nil_iff, or_false] at hi; rcases hi with rfl
                    · refine HeldBut.step (i := 9) rfl (fun K hK => ?_)
                      refine step_store_blk (by rfl) _ (.tmp 9) (.tmp 32) (by rfl) (by rfl) (by rfl) (by rfl) g9 told_info (by rfl) (one_told _ _ _ _ _ _ _ _ _ _ _ _ _ _) ?_
                      intro U9 f9 e8
                      replace g10 := g10.ext e8 (by simp; omega)
                      replace hO3 := hO3.other g9 (by decide) (by decide) e8
                      replace hI3 := hI3.keep e8 (own_ne hI3.2.2.2.2 g9 (by decide))
                      replace hI6 := hI6.keep e8 (own_ne hI6.2.2.2.2 g9 (by decide))
                      have y6n : Ext [b9, b10] w6 _ := (y6.mono (fun k _ h => by simp at h ⊢)).trans (e8.mono (fun k _ h => by simp at h ⊢; omega)); clear y6; have y6 := y6n; clear y6n
                      clear g9; have g9 := f9; clear f9
                      have hS1 := hS0.trans' e8 (fun i hi => .inr (by simp at hi; omega))
                      refine hK.out _ _ (fun _ => hS1) ?_; clear hK K
                      try simp only [Act.put, List.getElem_toArray, List.getElem_cons_zero, List.getElem_cons_succ, List.setIfInBounds_toArray, List.set_cons_zero, List.set_cons_succ]
                      clear hS0 e8
                      have hS0 := hS1; clear hS1
                      refine HeldBut.each [10] (by kernel_rfl) rfl ?_
                      intro i hi; simp only [List.mem_cons, List.mem_nil_iff, or_false] at hi; rcases hi with rfl
                      · refine HeldBut.step (i := 10) rfl (fun K hK => ?_)
                        refine step_store_blk (by rfl) _ (.tmp 10) (.tmp 36) (by rfl) (by rfl) (by rfl) (by rfl) g10 told_info (by rfl) (one_told _ _ _ _ _ _ _ _ _ _ _ _ _ _) ?_
                        intro U10 f10 e8
                        replace g9 := g9.ext e8 (by simp; omega)
                        replace hO3 := hO3.other g10 (by decide) (by decide) e8
                        replace hI3 := hI3.keep e8 (own_ne hI3.2.2.2.2 g10 (by decide))
                        replace hI6 := hI6.keep e8 (own_ne hI6.2.2.2.2 g10 (by decide))
                        have y6n : Ext [b9, b10] w6 _ := (y6.mono (fun k _ h => by simp at h ⊢; exact h)).trans (e8.mono (fun k _ h => by simp at h ⊢; omega)); clear y6; have y6 := y6n; clear y6n
                        clear g10; have g10 := f10; clear f10
                        have hS1 := hS0.trans' e8 (fun i hi => .inr (by simp at hi; omega))
                        refine hK.out _ _ (fun _ => hS1) ?_; clear hK K
                        try simp only [Act.put, List.getElem_toArray, List.getElem_cons_zero, List.getElem_cons_succ, List.setIfInBounds_toArray, List.set_cons_zero, List.set_cons_succ]
                        clear hS0 e8
                        have hS0 := hS1; clear hS1
                        refine HeldBut.done (by kernel_rfl) ?_ _
                        go_wp2_with (fail)
                        go_meet
                        exact ⟨b9, b10, _, _, rs3, _, _, rfl, rfl, hS0, l9, l10, g9, g10, ⟨_, _, _, rfl⟩, ⟨_, _, _, rfl⟩, ⟨_, _, _, rfl⟩, ⟨_, _, _, rfl⟩, hO3.mono lA, hI3.mono lA, hA3, hQ6.out [b9, b10] _ (fun k hk => by simp at hk; rcases hk with rfl | rfl; exact q9; exact q10) y6, hI6.pis (by simp)⟩
            · refine HeldBut.step (i := 7) rfl (fun K hK => ?_)
              try simp only [List.getElem_toArray, List.getElem_cons_zero, List.getElem_cons_succ]
              go_simp
              have e6 := (Ext.refl [] U8).alloc (.cells #[.int .u64 0, .slice none 0 0, .int .u64 0, .int .u64 0, .int .i64 0, .int .i64 0, .slice none 0 0, .bool false, .int .i64 0, .int .i64 0] 36)
              have hne : b10 ≠ U8.heap.size := by have := g10.lt; omega
              replace g10 := g10.ext e6 (by simp)
              have g9 := Blk.new U8 [.int .u64 0, .slice none 0 0, .int .u64 0, .int .u64 0, .int .i64 0, .int .i64 0, .slice none 0 0, .bool false, .int .i64 0, .int .i64 0] 36
              have l9 := hS0.size
              have hS1 := hS0.trans e6
              refine hK.out _ _ (fun _ => hS1) ?_; clear hK K
              try simp only [Act.put, List.getElem_toArray, List.getElem_cons_zero, List.getElem_cons_succ, List.setIfInBounds_toArray, List.set_cons_zero, List.set_cons_succ]
              clear hS0 e6
              have hS0 := hS1; clear hS1
              generalize U8.alloc (.cells #[.int .u64 0, .slice none 0 0, .int .u64 0, .int .u64 0, .int .i64 0, .int .i64 0, .slice none 0 0, .bool false, .int .i64 0, .int .i64 0] 36) = U7 at *
              generalize U8.heap.size = b9 at *
              refine HeldBut.each [2] (by kernel_rfl) rfl ?_
              intro i hi; simp only [List.mem_cons, List.mem_nil_iff, or_false] at hi; rcases hi with rfl
              · refine HeldBut.step (i := 2) rfl (fun K hK => ?_)
                try simp only [List.getElem_toArray, List.getElem_cons_zero, List.getElem_cons_succ]
                go_simp
                go_at_call 11
                (with_reducible refine (rn' _ hS0).mono ?_)
                rintro e w3 ⟨v3, rs3, r3, ⟨a3, n3, c3, rfl⟩, rfl, hO3, hI3, hA3, x3⟩
                obtain ⟨ra, rc, hrb⟩ := own_shape hI3.2.2.2.2
                obtain ⟨rn, rf, rt, rb, rsp⟩ := r3
                dsimp only at hrb
                subst hrb
                dsimp only
                have lA := hS0.size
                have hS1 := hS0.trans x3
                refine hK.out _ _ (fun _ => hS1) ?_; clear hK K
                try simp only [Act.put, List.getElem_toArray, List.getElem_cons_zero, List.getElem_cons_succ, List.setIfInBounds_toArray, List.set_cons_zero, List.set_cons_succ]
                replace g9 := g9.ext x3 (by simp)
                replace g10 := g10.ext x3 (by simp)
                clear hS0 x3
                have hS0 := hS1; clear hS1
                refine HeldBut.each [5] (by kernel_rfl) rfl ?_
                intro i hi; simp only [List.mem_cons, List.mem_nil_iff, or_false] at hi; rcases hi with rfl
                · refine HeldBut.step (i := 5) rfl (fun K hK => ?_)
                  try simp only [List.getElem_toArray, List.getElem_cons_zero, List.getElem_cons_succ]
                  go_simp
                  go_at_call 10
                  (with_reducible refine (sh _ hS0).mono ?_)
                  rintro e w5 ⟨v5, rs5, ⟨a5, n5, c5, rfl⟩, rfl, hO5, x5⟩
                  dsimp only
                  have hP5 := hO5.ps
                  clear hO5
                  have hS1 := hS0.trans x5
                  refine hK.out _ _ (fun _ => hS1) ?_; clear hK K
                  try simp only [Act.put, List.getElem_toArray, List.getElem_cons_zero, List.getElem_cons_succ, List.setIfInBounds_toArray, List.set_cons_zero, List.set_cons_succ]
                  replace g9 := g9.ext x5 (by simp)
                  replace g10 := g10.ext x5 (by simp)
                  replace hO3 := hO3.ext x5
                  replace hI3 := hI3.keep x5 (fun _ _ => by simp)
                  clear hS0 x5
                  have hS0 := hS1; clear hS1
                  refine HeldBut.each [6] (by kernel_rfl) rfl ?_
                  intro i hi; simp only [List.mem_cons, List.mem_nil_iff, or_false] at hi; rcases hi with rfl
                  · refine HeldBut.step (i := 6) rfl (fun K hK => ?_)
                    try simp only [List.getElem_toArray, List.getElem_cons_zero, List.getElem_cons_succ]
                    go_simp
                    go_at_call 12
                    (with_reducible refine (wn _ hS0 _ hP5).mono ?_)
                    rintro e w6 ⟨v6, r6, ⟨a6, n6, c6, rfl⟩, rfl, hP6, hI6, x6⟩
                    obtain ⟨pa, pc, rfl⟩ := (hI6.pis (X := []) (by simp)).shape
                    dsimp only
                    have hS1 := hS0.trans x6
                    refine hK.out _ _ (fun _ => hS1) ?_; clear hK K
                    try simp only [Act.put, List.getElem_toArray, List.getElem_cons_zero, List.getElem_cons_succ, List.setIfInBounds_toArray, List.set_cons_zero, List.set_cons_succ]
                    obtain ⟨A6, hAA⟩ : ∃ A, w5.heap.size = A := ⟨_, rfl⟩
                    obtain ⟨z6, hzz, hQ6⟩ : ∃ z, w6.heap.size = z ∧ Hid (∀ X w'', (∀ k ∈ X, k < A6 ∨ z ≤ k) → Ext X w6 w'' → Ps w'' (.slice a6 n6 c6) T.n.ps) := ⟨_, rfl, hAA ▸ hP6⟩
                    rw [hAA] at hI6
                    have hs6 : z6 ≤ w6.heap.size := Nat.le_of_eq hzz.symm
                    have y6 := Ext.refl [] w6
                    have q9 : b9 < A6 ∨ z6 ≤ b9 := .inl (by have := g9.lt; omega)
                    have q10 : b10 < A6 ∨ z6 ≤ b10 := .inl (by have := g10.lt; omega)
                    clear hP6 hAA hzz
                    replace g9 := g9.ext x6 (by simp)
                    replace g10 := g10.ext x6 (by simp)
                    replace hO3 := hO3.ext x6
                    replace hI3 := hI3.keep x6 (fun _ _ => by simp)
                    replace hP5 := hP5.ext x6
                    clear hS0 x6 hP5
                    have hS0 := hS1; clear hS1
                    refine HeldBut.each [9] (by kernel_rfl) rfl ?_
                    intro i hi; simp only [List.mem_cons, List.mem_nil_iff, or_false] at hi; rcases hi with rfl
                    · refine HeldBut.step (i := 9) rfl (fun K hK => ?_)
                      refine step_store_blk (by rfl) _ (.tmp 9) (.tmp 32) (by rfl) (by rfl) (by rfl) (by rfl) g9 told_info (by rfl) (one_told _ _ _ _ _ _ _ _ _ _ _ _ _ _) ?_
                      intro U9 f9 e8
                      replace g10 := g10.ext e8 (by simp; omega)
                      replace hO3 := hO3.other g9 (by decide) (by decide) e8
                      replace hI3 := hI3.keep e8 (own_ne hI3.2.2.2.2 g9 (by decide))
                      replace hI6 := hI6.keep e8 (own_ne hI6.2.2.2.2 g9 (by decide))
                      have y6n : Ext [b9, b10] w6 _ := (y6.mono (fun k _ h => by simp at h ⊢)).trans (e8.mono (fun k _ h => by simp at h ⊢; omega)); clear y6; have y6 := y6n; clear y6n
                      clear g9; have g9 := f9; clear f9
                      have hS1 := hS0.trans' e8 (fun i hi => .inr (by simp at hi; omega))
                      refine hK.out _ _ (fun _ => hS1) ?_; clear hK K
                      try simp only [Act.put, List.getElem_toArray, List.getElem_cons_zero, List.getElem_cons_succ, List.setIfInBounds_toArray, List.set_cons_zero, List.set_cons_succ]
                      clear hS0 e8
                      have hS0 := hS1; clear hS1
                      refine HeldBut.each [10] (by kernel_rfl) rfl ?_
                      intro i hi; simp only [List.mem_cons, List.mem_nil_iff, or_false] at hi; rcases hi with rfl
                      · refine HeldBut.step (i := 10) rfl (fun K hK => ?_)
                        refine step_store_blk (by rfl) _ (.tmp 10) (.tmp 36) (by rfl) (by rfl) (by rfl) (by rfl) g10 told_info (by rfl) (one_told _ _ _ _ _ _ _ _ _ _ _ _ _ _) ?_
                        intro U10 f10 e8
                        replace g9 := g9.ext e8 (by simp; omega)
                        replace hO3 := hO3.other g10 (by decide) (by decide) e8
                        replace hI3 := hI3.keep e8 (own_ne hI3.2.2.2.2 g10 (by decide))
                        replace hI6 := hI6.keep e8 (own_ne hI6.2.2.2.2 g10 (by decide))
                        have y6n : Ext [b9, b10] w6 _ := (y6.mono (fun k _ h => by simp at h ⊢; exact h)).trans (e8.mono (fun k _ h => by simp at h ⊢; omega)); clear y6; have y6 := y6n; clear y6n
                        clear g10; have g10 := f10; clear f10
                        have hS1 := hS0.trans' e8 (fun i hi => .inr (by simp at hi; omega))
                        refine hK.out _ _ (fun _ => hS1) ?_; clear hK K
                        try simp only [Act.put, List.getElem_toArray, List.getElem_cons_zero, List.getElem_cons_succ, List.setIfInBounds_toArray, List.set_cons_zero, List.set_cons_succ]
                        clear hS0 e8
                        have hS0 := hS1; clear hS1
                        refine HeldBut.done (by kernel_rfl) ?_ _
                        go_wp2_with (fail)
                        go_meet
                        exact ⟨b9, b10, _, _, rs3, _, _, rfl, rfl, hS0, l9, l10, g9, g10, ⟨_, _, _, rfl⟩, ⟨_, _, _, rfl⟩, ⟨_, _, _, rfl⟩, ⟨_, _, _, rfl⟩, hO3.mono lA, hI3.mono lA, hA3, hQ6.out [b9, b10] _ (fun k hk => by simp at hk; rcases hk with rfl | rfl; exact q9; exact q10) y6, hI6.pis (by simp)⟩
        case rest =>
          clear rn' sh wn k0 k1 k2 k3 k4 k5 k6 k7 d0 d1 e0 e1 b7
          obtain ⟨b9, b10, v3, v4, rs3, r3, r4, rfl, rfl, x9, l9, l10, g9, g10, ⟨a3, n3, c3, rfl⟩, ⟨a4, n4, c4, rfl⟩, hr3, hr4, hO3, hI3, hA3, hP4, hI4⟩ := hcut
          obtain ⟨ra, rc, rfl⟩ := (hI3.pis (X := []) (by simp)).shape
          obtain ⟨pa, pc, rfl⟩ := hI4.shape
          obtain ⟨a3', c3', e3⟩ := hO3.shape
          simp only [Value.slice.injEq] at e3
          obtain ⟨rfl, rfl, rfl⟩ := e3
          obtain ⟨a4', c4', e4⟩ := hP4.shape
          simp only [Value.slice.injEq] at e4
          obtain ⟨rfl, rfl, rfl⟩ := e4
          obtain ⟨⟨ts, tl⟩, tn, ⟨pn, pf, pt', pbs, psp⟩, tg, te⟩ := T
          dsimp only at g9 g10 hO3 hI3 hA3 hP4 hI4 hTl hTl2 hTw
          have hP2o := hP2
          have hPwo := hPw
          have b3o := b3
          have b8o := b8
          have xWW := x9
          have hnbW := b3.lt
          replace hP2 := hP2.ext x9
          replace hPw := hPw.ext x9
          replace b3 := b3.ext x9 (by simp)
          replace b8 := b8.ext x9 (by simp)
          have hAW := x9.size
          obtain ⟨ob3, hb3, hb3o⟩ := Sl.of_own hI3.2.2.2.2
          dsimp only at hb3
          obtain ⟨ob4, -, hb4⟩ := hI4.2.2.2.2
          dsimp only at hb4
          have hlt10 := hTl2.out
          have hpl := sl_len hb3
          unfold maxLen at hpl
          clear hr3 hr4 x9 hB hin hI4
          obtain ⟨g0, g1, g2, g3, g4, g5, g6, g7, g8, g9'⟩ := g9.c10
          obtain ⟨q0, q1, q2, q3, q4, q5, q6, q7, q8, q9⟩ := g10.c10
          obtain ⟨d0, d1⟩ := b3.c2
          obtain ⟨e0, e1⟩ := b8.c2
          generalize wc = W9 at *
          have sp := RefSameParcel_any W9 ⟨pn, pf, pt', pbs, psp⟩ ⟨pn, pf, pt', pbs, psp⟩ ra pa rc pc ob3 ob4 hb3 hb4
          rw [same_self] at sp
          have sa := fun w' (x : Ext [] W9 w') => RefSame_any w' ts ts _ _ tl tl (hO3.ps.ext x) (hP4.ext x)
          rw [sameNt_self] at sa
          have sb := fun w' (x : Ext [] W9 w') => RefSame_any w' s' s' _ _ ln ln (hP2.ext x) (hPw.ext x)
          rw [sameNt_self] at sb
          have cpy := fun w' (x : Ext [] W9 w') => Copy_any w' ts _ tl (hP4.ext x) (by omega) (fun p hp => by have := hTw.out p hp; omega)
          clear hP4 hb4 hb3 hb3o
          go_upto_region 12 with (first
            | (go_at_call 13; (with_reducible refine sp.mono ?_); rintro e w10 ⟨rfl, y1⟩; replace g0 := cells_ext y1 g0; replace g1 := cells_ext y1 g1; replace q0 := cells_ext y1 q0; replace q1 := cells_ext y1 q1; replace d0 := cells_ext y1 d0; replace d1 := cells_ext y1 d1; replace e0 := cells_ext y1 e0; replace e1 := cells_ext y1 e1)
            | (go_at_call 14; (with_reducible refine (sa _ y1).mono ?_); rintro e w11 ⟨rfl, y2⟩; replace d0 := cells_ext y2 d0; replace d1 := cells_ext y2 d1; replace e0 := cells_ext y2 e0; replace e1 := cells_ext y2 e1; replace q0 := cells_ext y2 q0; replace q1 := cells_ext y2 q1; replace y2 := y1.trans y2)
            | (go_at_call 14; (with_reducible refine (sb _ y2).mono ?_); rintro e w12 ⟨rfl, y3⟩; replace q0 := cells_ext y3 q0; replace q1 := cells_ext y3 q1; replace y3 := y2.trans y3))
          go_upto_region 13 with (go_at_call 15; (with_reducible refine (cpy _ y3).mono ?_); rintro e w13 ⟨v7, rs7, ⟨a7, n7, c7, rfl⟩, rfl, hO7, y4⟩)
          obtain ⟨a7', c7', e7⟩ := hO7.shape
          simp only [Value.slice.injEq] at e7
          obtain ⟨rfl, rfl, rfl⟩ := e7
          have y5 := (Ext.refl [] w13).alloc (.cells #[.int .u64 (ts : Int), .slice a7 tl.length c7] 25)
          have b11 := Blk.new w13 [.int .u64 (ts : Int), .slice a7 tl.length c7] 25
          have yy := (y3.trans y4).trans y5
          replace hO7 := hO7.ext y5
          have hA7 : W9.heap.size ≤ w12.heap.size := y3.size
          have hb11 : w12.heap.size ≤ w13.heap.size := y4.size
          have hO3o := hO3
          replace hO3 := hO3.ext yy
          have hI3o := hI3.2.2.2.2
          have hX13o : Hid (∀ c ∈ blocksOf rs3, c < w12.heap.size) := fun c hc => Nat.lt_of_lt_of_le (hO3o.blocks c hc).2.1 hA7
          replace hI3 := hI3.keep yy (fun _ _ => by simp)
          replace g9 := g9.ext yy (by simp)
          have xW3 := xWW.trans yy
          clear hP2 hPw b3 b8 xWW sp sa sb cpy g0 g1 g2 g3 g4 g5 g6 g7 g8 g9' q0 q1 q2 q3 q4 q5 q6 q7 q8 q9 d0 d1 e0 e1 y1 y2 y3 y4 y5 g10 yy
          generalize w13.alloc (.cells #[.int .u64 (ts : Int), .slice a7 tl.length c7] 25) = W13 at *
          generalize w13.heap.size = nb11 at *
          generalize w12.heap.size = A13 at *
          obtain ⟨g0, g1, g2, g3, g4, g5, g6, g7, g8, g9'⟩ := g9.c10
          go_wp2_with (fail)
          have hob4 : W13.ownsRow W.heap.size 5 1 (.slice ra pbs.length rc) pbs.length (pbs.map BV) := hI3.2.2.2.2
          have hbk : ∀ g, (Value.slice ra pbs.length rc).ownBlock = some g → W.heap.size ≤ g ∧ g < A13 := fun g hg => by
            have := own_block hI3o hg
            exact ⟨this.1, by omega⟩
          clear g0 g1 g2 g3 g4 g5 g6 g7 g8 g9' hI3
          go_loopw [85] (fun i wr => ∃ (j : Nat) (B : List UInt8), j ≤ pbs.length ∧ i = .int .i64 (j : Int) ∧ B.length = pbs.length ∧ wr.ownsRow W.heap.size 5 1 (.slice ra pbs.length rc) pbs.length (B.map BV) ∧ Ext (Value.slice ra pbs.length rc).ownBlock.toList W13 wr) (fun i _ => pbs.length - (intOf i).toNat)
          case atStart => exact ⟨0, pbs, by omega, rfl, rfl, hob4, Ext.refl _ _⟩
          case round =>
            obtain ⟨j, B, hj, rfl, hBl, hob5, xr⟩ := hrel
            replace g9 := g9.ext xr (fun m => own_ne hob4 g9 (by decide) b9 (by simpa using m) (by simp))
            by_cases hjl : j < pbs.length
            · obtain ⟨z, hz⟩ : ∃ z, B[j]? = some z := ⟨_, List.getElem?_eq_getElem (by omega)⟩
              obtain ⟨gb, rfl⟩ : ∃ gb, ra = some ⟨gb, 0, none⟩ := by
                rcases hob5.2 with ⟨h1, h2⟩ | ⟨g, cap, cur, h1, _⟩
                · omega
                · simp only [Value.slice.injEq] at h1
                  exact ⟨g, h1.1⟩
              have hc := hob5.cells (g := gb) rfl j (BV z) (by rw [List.getElem?_map, hz]; rfl)
              have hc : wr.cell? ⟨gb, j, none⟩ = some (.int .u8 (z.toNat : Int)) := by simpa [add_off, BV] using hc
              have hfz : wr.frozen? ⟨gb, j, none⟩ = false := by
                rcases hob5.2 with ⟨h1, h2⟩ | ⟨g, cap, cur, h1, _, h3, _⟩
                · omega
                · simp only [Value.slice.injEq, Option.some.injEq, Addr.mk.injEq] at h1
                  obtain ⟨⟨rfl, _⟩, _⟩ := h1
                  exact frozen_of_heap h3 j
              have hxr : bits .xor .u8 (z.toNat : Int) 238 = ((z ^^^ 238).toNat : Int) := xor_u8b z 238
              have hob6 := own_byte (l := B) (by rw [hBl]; exact hob5) j (z ^^^ 238)
              rw [hBl] at hob6
              have xr2 := xr.setCell (p := ⟨gb, j, none⟩) (.inl (by simp [Value.ownBlock])) (BV (z ^^^ 238))
              have HH := Lib.hid (And.intro hob6 xr2)
              have hj0 : (j : Int) < (pbs.length : Int) := by omega
              clear hob6 xr2
              obtain ⟨g0, g1, g2, g3, g4, g5, g6, g7, g8, g9'⟩ := g9.c10
              go_wp2_with (fail)
              go_roundw
              case rel => exact ⟨j + 1, B.set j (z ^^^ 238), by omega, by go_num, by rw [List.length_set]; exact hBl, HH.out.1, HH.out.2⟩
              case measure => simp [intOf]; omega
            · obtain rfl : j = pbs.length := by omega
              replace hO3 := hO3.apart hA3 xr hob4
              replace hO7 := hO7.keep xr (fun g hg => .inl (hbk g (by simpa using hg)).2)
              replace b11 := b11.ext xr (fun m => own_ne hob4 b11 (by decide) nb11 (by simpa using m) (by simp))
              have xW4 := xW3.trans' xr (fun g hg => .inr (hbk g (by simpa using hg)).1)
              have sc := RefSame_any wr ts ts _ _ tl tl hO3.ps hO7.ps
              rw [sameNt_self] at sc
              obtain ⟨g0, g1, g2, g3, g4, g5, g6, g7, g8, g9'⟩ := g9.c10
              obtain ⟨r0, r1⟩ := b11.c2
              clear hob4 hob5 hbk xr hI3o hBl hj
              go_wp2_with (go_at_call 14; (with_reducible refine sc.mono ?_); rintro e w14 ⟨rfl, x14⟩; replace g1 := cells_ext x14 g1)
              replace hO3 := hO3.ext x14
              replace hO7 := hO7.ext x14
              replace b11 := b11.ext x14 (by simp)
              replace g9 := g9.ext x14 (by simp)
              have xW5 := xW4.trans x14
              clear sc g0 g1 g2 g3 g4 g5 g6 g7 g8 g9' r0 r1 x14
              have hX13 : Hid (∀ c ∈ blocksOf rs3, W.heap.size ≤ c ∧ c < A13 ∧ ∃ cs, w14.heap[c]? = some (.cells cs 5 (0, 0))) := fun c hc => ⟨(hO3.blocks c hc).1, hX13o.out c hc, (hO3.blocks c hc).2.2⟩
              have hb9X : b9 ∉ blocksOf rs3 := fun m => by
                obtain ⟨_, _, cs, h⟩ := hX13.out b9 m
                have := g9
                unfold Blk at this
                rw [this] at h
                cases h
              have hb11X : nb11 ∉ blocksOf rs3 := fun m => by
                obtain ⟨_, _, cs, h⟩ := hX13.out nb11 m
                have := b11
                unfold Blk at this
                rw [this] at h
                cases h
              have hrl := hO3.all.1
              have HX := Lib.hid (And.intro hb9X hb11X)
              clear hX13o hb9X hb11X
              go_loopw [106] (fun i wq => ∃ (m : Nat) (l' : List Par), m ≤ tl.length ∧ i = .int .i64 (m : Int) ∧ Hid (l'.length = tl.length) ∧ Hid (OPs W.heap.size wq (.slice a3 tl.length c3) l' rs3) ∧ Ext (blocksOf rs3) w14 wq) (fun i _ => tl.length - (intOf i).toNat)
              case atStart => exact ⟨0, tl, by omega, rfl, rfl, hO3, Ext.refl _ _⟩
              case round =>
                obtain ⟨m, l', hm, rfl, hl', hO', xq⟩ := hrel
                have g9w := g9
                replace g9 := g9.ext xq HX.out.1
                by_cases hml : m < tl.length
                · have hr : rs3[m]? = some (rs3[m]'(by omega)) := List.getElem?_eq_getElem (by omega)
                  have hp : l'[m]? = some (l'[m]'(by rw [hl'.out]; exact hml)) := List.getElem?_eq_getElem _
                  obtain ⟨xa, xc, hxb⟩ := own_shape (hO'.out.all.2 m _ _ hr hp).2.2.2.2
                  generalize (l'[m]'(by rw [hl'.out]; exact hml)).bs.length = pl at *
                  generalize rs3[m]'(by omega) = rr at *
                  obtain ⟨obR, hSR, -⟩ := Sl.of_own hO'.out.own
                  obtain ⟨oR, haR, hcR⟩ := Sl.flat_cells wideP hSR m _ hr
                  have hc3 : wr.cell? ⟨obR, oR + m * 5 + 3, none⟩ = some (.slice xa pl xc) := by rw [← hxb]; exact hcR 3 _ rfl
                  obtain ⟨g0, g1, g2, g3, g4, g5, g6, g7, g8, g9'⟩ := g9.c10
                  have hm0 : (m : Int) < (tl.length : Int) := by omega
                  have HR := Lib.hid (And.intro hr hxb)
                  have HA := Lib.hid haR
                  clear hr hxb hp hcR hSR
                  rw [haR] at g1
                  go_wp2_with (fail)
                  clear g0 g1 g2 g3 g4 g5 g6 g7 g8 g9' hc3
                  have hplm : pl ≤ 9223372036854775807 := by
                    have h1 := own_len (hO'.out.all.2 m _ _ HR.out.1 (List.getElem?_eq_getElem (by rw [hl'.out]; exact hml))).2.2.2.2
                    have h2 := own_shape (hO'.out.all.2 m _ _ HR.out.1 (List.getElem?_eq_getElem (by rw [hl'.out]; exact hml))).2.2.2.2
                    obtain ⟨u1, u2, h3⟩ := h2
                    rw [HR.out.2] at h3
                    simp only [Value.slice.injEq] at h3
                    unfold maxLen at h1
                    omega
                  go_loopw [117] (fun i wz => ∃ (j : Nat) (l'' : List Par), j ≤ pl ∧ i = .int .i64 (j : Int) ∧ Hid (l''.length = tl.length) ∧ Hid (OPs W.heap.size wz (.slice a3 tl.length c3) l'' rs3) ∧ Ext (blocksOf rs3) w14 wz) (fun i _ => pl - (intOf i).toNat)
                  case atStart => exact ⟨0, l', by omega, rfl, hl'.out, hO'.out, xq⟩
                  case round =>
                    clear hO' hl' xq g9
                    obtain ⟨j, l'', hj, rfl, hl'', hO'', xz⟩ := hrel
                    by_cases hjl : j < pl
                    · have g9 := g9w.ext xz HX.out.1
                      have hr := HR.out.1
                      have hp : l''[m]? = some (l''[m]'(by rw [hl''.out]; exact hml)) := List.getElem?_eq_getElem _
                      have hoi := hO''.out.all.2 m _ _ hr hp
                      generalize l''[m]'(by rw [hl''.out]; exact hml) = pp at *
                      have hob := hoi.2.2.2.2
                      obtain ⟨u1, u2, h3⟩ := own_shape hob
                      have h3' := h3
                      rw [HR.out.2] at h3'
                      simp only [Value.slice.injEq] at h3'
                      obtain ⟨rfl, hpl', rfl⟩ := h3'
                      rw [h3] at hob
                      rcases own_blk hob with ⟨h0, h00⟩ | ⟨gb, cb', rest', he, hgbS, hBb, hc1, hc2, hlenb⟩
                      · omega
                      simp only [Value.slice.injEq] at he
                      obtain ⟨rfl, -, rfl⟩ := he
                      obtain ⟨x, hx⟩ : ∃ x, pp.bs[j]? = some x := ⟨_, List.getElem?_eq_getElem (by omega)⟩
                      have qx : wr.cell? ⟨gb, j, none⟩ = some (.int .u8 (x.toNat : Int)) := by
                        rw [hBb.cell, List.getElem?_append_left (by rw [List.length_map]; omega), List.getElem?_map, hx]; rfl
                      have qf := hBb.frozen j
                      have hxr : bits .xor .u8 (x.toNat : Int) 238 = ((x ^^^ 238).toNat : Int) := xor_u8b x 238
                      have hO6 := hO''.out.byte (k := j) (z := x ^^^ 238) hr hp h3
                      have xz2 := xz.setCell (p := ⟨gb, j, none⟩) (.inl (blocksOf_mem hr (by rw [h3]; rfl))) (BV (x ^^^ 238))
                      have HH := Lib.hid (And.intro hO6 xz2)
                      obtain ⟨obR, hSR, -⟩ := Sl.of_own hO''.out.own
                      obtain ⟨oR, haR, hcR⟩ := Sl.flat_cells wideP hSR m _ hr
                      have hc3 : wr.cell? ⟨obR, oR + m * 5 + 3, none⟩ = some (.slice (some ⟨gb, 0, none⟩) pl xc) := by
                        have := hcR 3 _ rfl
                        rw [hpl', ← h3]; exact this
                      have hj0 : (j : Int) < (pl : Int) := by omega
                      obtain ⟨g0, g1, g2, g3, g4, g5, g6, g7, g8, g9'⟩ := g9.c10
                      rw [haR] at g1
                      have HL := Lib.hid hl''.out
                      clear hO6 xz2 hr hp hoi hob h3 hBb hx hlenb hcR hSR hpl' hc1 hc2 hl'' hO'' xz g9 haR
                      go_wp2_with (fail)
                      go_roundw
                      case rel => exact ⟨j + 1, _, by omega, by go_num, (by show _ = _; rw [List.length_set]; exact HL.out), HH.out.1, HH.out.2⟩
                      case measure => simp [intOf]; omega
                    · obtain rfl : j = pl := by omega
                      go_wp2_with (fail)
                      go_roundw
                      case rel => exact ⟨m + 1, l'', by omega, by go_num, hl'', hO'', xz⟩
                      case measure => simp [intOf]; omega
                · obtain rfl : m = tl.length := by omega
                  have xW6 := xW5.trans' xq (fun c hc => .inr (hX13.out c hc).1)
                  replace b11 := b11.ext xq HX.out.2
                  replace hO7 := hO7.keep xq (fun c hc => .inl (hX13.out c hc).2.1)
                  have hP2 := hP2o.ext xW6
                  have hPw := hPwo.ext xW6
                  have b3 := b3o.ext xW6 (by simp)
                  have b8 := b8o.ext xW6 (by simp)
                  have sd := RefSame_any wr s' s' _ _ ln ln hP2 hPw
                  rw [sameNt_self] at sd
                  obtain ⟨g0, g1, g2, g3, g4, g5, g6, g7, g8, g9'⟩ := g9.c10
                  obtain ⟨d0, d1⟩ := b3.c2
                  obtain ⟨e0, e1⟩ := b8.c2
                  obtain ⟨r0, r1⟩ := b11.c2
                  have hfin := hW.trans xW6
                  have nf := b3.frozen
                  clear g0 g1 g2 g3 g4 g5 g6 g7 g8 xq xW6 xW5 hO' hm
                  by_cases hte : te = 0
                  · have hte' : (te == 0) = true := by simpa using hte
                    have hlen := hTl.out hte
                    have HT := Lib.hid hte
                    clear hte
                    go_wp2_with (go_at_call 14; (with_reducible refine sd.mono ?_); rintro e w15 ⟨rfl, x15⟩; have g9' := cells_ext x15 g9'; replace r0 := cells_ext x15 r0; replace r1 := cells_ext x15 r1; replace b3 := b3.ext x15 (by simp); have nf := b3.frozen; obtain ⟨d0, d1⟩ := b3.c2)
                    have x16 := ((Ext.refl [nb] w15).setCell (p := ⟨nb, 0, none⟩) (.inl (by simp)) (.int .u64 (ts : Int))).setCell (p := ⟨nb, 1, none⟩) (.inl (by simp)) (.slice a7 tl.length c7)
                    have b16 := (b3.set 0 (.int .u64 (ts : Int))).set 1 (.slice a7 tl.length c7)
                    simp only [List.set_cons_zero, List.set_cons_succ] at b16
                    have hP16 := ((hO7.ext x15).keep x16 (fun c hc => .inl (by simp at hc; omega))).ps
                    have hE16 := (hfin.trans x15).trans' x16 (fun c hc => .inr (by have := HWB.out; simp at hc; omega))
                    have HH := Lib.hid (And.intro b16 (And.intro hP16 hE16))
                    clear b16 hP16 hE16 x16
                    go_roundw
                    case rel => exact ⟨k + 1, ts, _, tl, by omega, by go_num, HH.out.1, HH.out.2.1, hlen, hTw, HH.out.2.2⟩
                    case measure => simp [intOf]; omega
                  · have hte' : (te == 0) = false := by simpa using hte
                    have HT := Lib.hid hte
                    clear hte
                    go_wp2_with (go_at_call 14; (with_reducible refine sd.mono ?_); rintro e w15 ⟨rfl, x15⟩; have g9' := cells_ext x15 g9')
                    go_roundw
                    case rel => exact ⟨k + 1, s', _, ln, by omega, by go_num, b3.ext x15 (by simp), hP2.ext x15, hll, hlow, hfin.trans x15⟩
                    case measure => simp [intOf]; omega
    · obtain rfl : k = Lo.length := by omega
      go_wp2_with (fail)
      go_ret
      exact ⟨rfl, hX.below⟩
end Go.Proofs.Ytpdfmeaemlgniaa
