
/-
  copied of the laws.
-/
import Derived.Test.YtjmfcjidhmaibaaGreatDoorCatX
import Derived.Test.YtjmfcjidhmaibaaGreatDoorHeld
namespace Go.Proofs.YtjmfcjidhmaibaaGreatDoor
open Go.RowKit
open Go.Lib hiding intOf
set_option linter.unusedVariables false
set_option linter.unusedSimpArgs false

theorem own_ext2 {w w' : World} {base e size n b g n1 c1 n2 c2 : Nat} {xs : List Value} (h : w.ownsRow base e size (.slice (some ⟨b, 0, none⟩) n1 c1) n xs) (he : Ext (Value.slice (some ⟨g, 0, none⟩) n2 c2).ownBlock.toList w w') (hne : b ≠ g) : w'.ownsRow base e size (.slice (some ⟨b, 0, none⟩) n1 c1) n xs :=
  own_ext h he (fun k hk hm => by simp [Value.ownBlock] at hk hm; omega)
/-- append(s, x...) as one step of a region that draws, s the call's own, x whatever slice -/
theorem step_append_any {P : Program} {w : World} {ops : Array Oper} {o : Oper} {a : Act} {K : Act → World → Prop} {Q : Exit → Act → World → Prop} {E : Prop}
    {t e : TypeId} {size bytes : Nat} {z : Value} (T : SliceTy P t e size bytes z) (hgd : o.guard = none) (s x : Operand)
    (ho : o.op = .call { callee := .builtin .append, args := #[s, x], argTypes := #[t, t] })
    {base n m ob : Nat} {v vx : Value} {xs news : List Value} (hs : a.eval s = v) (hx : a.eval x = vx) (hown : w.ownsRow base e size v n xs) (hsl : Sl w vx ob size m news) (h1 : ∀ u ∈ news, u.oneCell' = true)
    (h63 : n + m ≤ maxLen) (hbytes : (n + m) * bytes ≤ 140737488355328) (hbase : base ≤ w.heap.size)
    (h : ∀ v' w', w'.ownsRow base e size v' (n + m) (xs ++ news) → Ext v.ownBlock.toList w w' → K (a.put o.dst v') w') :
    if Region.wanted o (yielded ops a.tmps) = true then Oper.wp P o a w K Q else E := by
  have hw : Region.wanted o (yielded ops a.tmps) = true := by simp [Region.wanted, hgd]
  rw [if_pos hw]
  obtain ⟨i, i1, i2, i3, i4⟩ := T.info
  obtain ⟨hl, hsl⟩ := hsl
  rcases hsl with ⟨rfl, rfl⟩ | ⟨off, sp, cap, rfl, _, _, hsp, hc⟩
  · obtain rfl : news = [] := List.eq_nil_of_length_eq_zero (by simpa using hl)
    have hrun := run_append_owned_none (P := P) (w := w) base t o.type e i size T.und i1 v n xs hown
    unfold Oper.wp
    simp [execOp, ho, resolve, invoke, builtin, hs, hx, hrun, Result.andThen]
    exact h v w (by simpa using hown) (Ext.refl _ _)
  · refine wp_append_own w s x t ho base e i z size bytes T.und i1 i2 i3 i4 T.zc T.pos v n xs hs hown ⟨ob, off, sp⟩ m cap news hx hl (fun j u hu => ?_) h1 h63 hbytes hbase fun v' w' r1 r2 _ => h v' w' r1 (Ext.ofGrown r2)
    rcases hsp with rfl | rfl
    · have : news = [] := List.eq_nil_of_length_eq_zero (by simpa using hl)
      subst this; simp at hu
    · simpa only [add_off] using hc j u hu
theorem own_far {w : World} {base e1 e2 s1 s2 n1 n2 : Nat} {v1 v2 : Value} {x1 x2 : List Value} (h1 : w.ownsRow base e1 s1 v1 n1 x1) (h2 : w.ownsRow base e2 s2 v2 n2 x2) (he : e1 ≠ e2) : ∀ k, v1.ownBlock = some k → k ∉ v2.ownBlock.toList := by
  intro k hk hm
  have hk2 : v2.ownBlock = some k := by simpa using hm
  rcases h1.2 with ⟨rfl, _⟩ | ⟨g1, c1, u1, rfl, _, b1, _⟩
  · simp [Value.ownBlock] at hk
  · rcases h2.2 with ⟨rfl, _⟩ | ⟨g2, c2, u2, rfl, _, b2, _⟩
    · simp [Value.ownBlock] at hk2
    · simp [Value.ownBlock] at hk hk2
      subst hk hk2
      rw [b1] at b2
      cases b2
      exact he rfl
/-- the two cells that are read, and all that was there, behind what leaves these alone -/
theorem keepV {V u u' : World} {bt : Nat} {x y : Value} {X : List Nat} (h : u.cell? ⟨bt, 1, none⟩ = some x ∧ u.cell? ⟨bt, 2, none⟩ = some y ∧ Ext [] V u) (e : Ext X u u') (hX : ∀ i ∈ X, V.heap.size ≤ i) (hb : bt < V.heap.size) : u'.cell? ⟨bt, 1, none⟩ = some x ∧ u'.cell? ⟨bt, 2, none⟩ = some y ∧ Ext [] V u' :=
  ⟨e.read h.1 (fun hm => by have := hX bt hm; omega), e.read h.2.1 (fun hm => by have := hX bt hm; omega), h.2.2.trans' e (fun i hi => .inr (hX i hi))⟩
theorem one3' {n : ByteArray} {a1 : Option Addr} {n1 c1 : Nat} {a2 : Option Addr} {n2 c2 : Nat} : ∀ u ∈ [Value.string n, .slice a1 n1 c1, .slice a2 n2 c2], u.oneCell' = true := by
  intro u hu
  simp at hu
  rcases hu with rfl | rfl | rfl <;> rfl
/-- append(s, x), s the call's own, x just made: and where the list lies then -/
theorem wpList_append_one {P : Program} {w : World} {ops : Array Oper} {rest : List Oper} {o : Oper} {a : Act} {Q : Exit → Act → World → Prop}
    {t e : TypeId} {size bytes : Nat} {z : Value} (T : SliceTy P t e size bytes z) (hgd : o.guard = none) (s x : Operand)
    (ho : o.op = .call { callee := .builtin .append, args := #[s, x], argTypes := #[t, t] })
    {base n b et : Nat} {v : Value} {xs news : List Value} (hs : a.eval s = v) (hown : w.ownsRow base e size v n xs) (hx : a.eval x = .slice (some ⟨b, 0, none⟩) 1 1) (hB : Blk w b et news) (hl : news.length = size) (h1 : ∀ u ∈ news, u.oneCell' = true)
    (h63 : n + 1 ≤ maxLen) (hbytes : (n + 1) * bytes ≤ 140737488355328) (hbase : base ≤ w.heap.size)
    (h : ∀ g cap w', w'.ownsRow base e size (.slice (some ⟨g, 0, none⟩) (n + 1) cap) (n + 1) (xs ++ news) → Ext v.ownBlock.toList w w' → (v.ownBlock = some g ∨ g = w.heap.size) → wpList P ops Q rest (a.put o.dst (.slice (some ⟨g, 0, none⟩) (n + 1) cap)) w') : wpList P ops Q (o :: rest) a w := by
  obtain ⟨i, i1, i2, i3, i4⟩ := T.info
  exact wpList_append_lies w hgd s x t ho base e i z size bytes T.und i1 i2 i3 i4 T.zc T.pos v n xs hs hown ⟨b, 0, none⟩ 1 1 news hx (by simpa using hl) (fun j u hu => by rw [add_off, Nat.zero_add]; exact (hB.cell j).trans hu) h1 (by decide) h63 hbytes hbase _ rfl fun g cap w' r1 r2 r3 _ => h g cap w' r1 (Ext.ofGrown r2) r3
set_option maxRecDepth 100000 in
set_option maxHeartbeats 4000000 in
theorem copied_any (X : List Nat) (w : World) (hXX : ∀ i ∈ X, i < w.heap.size) (v : Value) (l : List Tab) (hC : Ts w v l) (hl : l.length ≤ 20) (hb : ∀ t ∈ l, t.cols.length ≤ 20 ∧ t.keys.length ≤ 20) :
    Calls Tryz.prog 7 #[KV v] w fun e w' => (∃ v', e = .returned (KV v') ∧ TsX X w' v' l) ∧ Ext [] w w' := by
  obtain ⟨a, c, rfl⟩ := hC.shape
  have e1 := (Ext.refl [] w).alloc (.cells #[.slice a l.length c] 24)
  have c0 := new_cells w [.slice a l.length c] 24 0 _ rfl
  go_enter Tryz.func7, Tryz.ntmps7
  go_upto_region 1 with (fail)
  have hR := Blk.new (w.alloc (.cells #[.slice a l.length c] 24)) [.slice none 0 0] 24
  have e2 := (Ext.refl [] (w.alloc (.cells #[.slice a l.length c] 24))).alloc (.cells #[.slice none 0 0] 24)
  have c1 := cells_ext e2 c0
  have hE := e1.trans e2
  rw [World.size_alloc] at hR
  generalize (w.alloc (.cells #[.slice a l.length c] 24)).alloc (.cells #[.slice none 0 0] 24) = W at *
  generalize hrb : w.heap.size + 1 = rb at *
  have hrl := hR.lt
  have hQ := Blk.new W [.slice none 0 0] 24
  have e4 := (Ext.refl [] W).alloc (.cells #[.slice none 0 0] 24)
  have hE := hE.trans e4
  have c2 := cells_ext e4 c1
  have hR := hR.ext e4 (by simp)
  go_upto_region 2 with (fail)
  generalize W.alloc (.cells #[.slice none 0 0] 24) = W2 at *
  generalize hqq : W.heap.size = oo at *
  have hql := hQ.lt
  have hwr : w.heap.size < rb := by omega
  go_wp2_with (fail)
  go_loopw [9] (fun i wr => ∃ (k : Nat) (rk : List Raw) (vo : Value), k ≤ l.length ∧ i = .int .i64 k ∧ rk.length = k ∧ Ext [] w wr ∧ Blk wr rb 24 [.slice none 0 0] ∧ Blk wr oo 24 [vo] ∧ wr.ownsRow W2.heap.size 41 3 vo rk.length (rrows rk) ∧ W2.heap.size ≤ wr.heap.size ∧ RIn (vo.ownBlock.toList ++ oo :: rb :: X) wr rk (l.take k)) (fun i _ => l.length - (intOf i).toNat)
  case atStart => exact ⟨0, [], .slice none 0 0, by omega, rfl, rfl, hE, hR, hQ, World.ownsRow_nil _ _ _ _, Nat.le_refl _, ⟨by simp, fun k r t h => by simp at h⟩⟩
  case round =>
    obtain ⟨k, rk, vo, hk, rfl, hrk, hX, hB, hQ, hO, hW2, hI⟩ := hrel
    by_cases hlt : k < l.length
    · have hx : l[k]? = some l[k] := List.getElem?_eq_getElem hlt
      obtain ⟨ob, o, a1, m1, a2, m2, rfl, p0, p1, p2, ⟨oc, q1⟩, ok, q2⟩ := (hC.ext hX).at k _ hx
      have hbt := hb _ (List.mem_of_getElem? hx)
      generalize l[k] = t at *
      have e3 := (Ext.refl [] wr).alloc (.cells #[.string t.n, .slice a1 t.cols.length m1, .slice a2 t.keys.length m2] 41)
      have hT := Blk.new wr [.string t.n, .slice a1 t.cols.length m1, .slice a2 t.keys.length m2] 41
      have d0 := hT.cell 0
      have d1 := hT.cell 1
      have d2 := hT.cell 2
      simp only [List.getElem?_cons_zero, List.getElem?_cons_succ] at d0 d1 d2
      have z1 := hT.frozen 1
      have z2 := hT.frozen 2
      have s1 := q1.ext e3 (by simp)
      have s2 := q2.ext e3 (by simp)
      go_upto_region 5 with (fail)
      generalize wr.alloc (.cells #[.string t.n, .slice a1 t.cols.length m1, .slice a2 t.keys.length m2] 41) = V at *
      generalize hbe : wr.heap.size = bt at *
      have g1 : bt < V.heap.size := hT.lt
      go_cut [16, 20] (fun x16 x20 wx => ∃ oc' ok', oc' ∉ [bt] ∧ ok' ∉ [bt] ∧ bt < oc' ∧ bt < ok' ∧ oc' < wx.heap.size ∧ ok' < wx.heap.size ∧ Cs wx x16 oc' t.cols ∧ Is wx x20 ok' t.keys ∧ Ext [bt] V wx ∧ Blk wx bt 41 [.string t.n, x16, x20])
      case first =>
        clear hI hO hB hQ p0 p1 p2 hrk hx hX e3 d0 z1 z2 c2
        clear hC hb hXX hE hR c1 c0 e1 e2 e4 hrb hrl hql hwr hqq hbe hk hlt hl
        have hS0 : V.drew.cell? ⟨bt, 1, none⟩ = some (.slice a1 t.cols.length m1) ∧ V.drew.cell? ⟨bt, 2, none⟩ = some (.slice a2 t.keys.length m2) ∧ Ext [] V V.drew := ⟨d1, d2, (Ext.refl [] V).drew⟩
        refine region_but (fun u => u.cell? ⟨bt, 1, none⟩ = some (.slice a1 t.cols.length m1) ∧ u.cell? ⟨bt, 2, none⟩ = some (.slice a2 t.keys.length m2) ∧ Ext [] V u) [9, 10, 11] 12 rfl (by kernel_rfl) ?_
        refine HeldBut.take (i := 1) (v := ?_) rfl (by kernel_rfl) (by kernel_rfl) (by kernel_rfl) (by kernel_rfl) (fun _ _ _ h => h) (Or.inl ⟨by rfl, ?_⟩) hS0 ?_; rotate_left 1; focus (intro u hu; (try dsimp only at hu); go_simp; try with_reducible rfl)
        try simp only [Act.put, List.getElem_toArray, List.getElem_cons_zero, List.getElem_cons_succ, List.setIfInBounds_toArray, List.set_cons_zero, List.set_cons_succ]
        refine HeldBut.take (i := 2) (v := ?_) rfl (by kernel_rfl) (by kernel_rfl) (by kernel_rfl) (by kernel_rfl) (fun _ _ _ h => h) (Or.inl ⟨by rfl, ?_⟩) hS0 ?_; rotate_left 1; focus (intro u hu; (try dsimp only at hu); go_simp; try with_reducible rfl)
        try simp only [Act.put, List.getElem_toArray, List.getElem_cons_zero, List.getElem_cons_succ, List.setIfInBounds_toArray, List.set_cons_zero, List.set_cons_succ]
        refine HeldBut.take (i := 5) (v := ?_) rfl (by kernel_rfl) (by kernel_rfl) (by kernel_rfl) (by kernel_rfl) (fun _ _ _ h => h) (Or.inl ⟨by rfl, ?_⟩) hS0 ?_; rotate_left 1; focus (intro u hu; (try dsimp only at hu); go_simp; try with_reducible rfl)
        try simp only [Act.put, List.getElem_toArray, List.getElem_cons_zero, List.getElem_cons_succ, List.setIfInBounds_toArray, List.set_cons_zero, List.set_cons_succ]
        refine HeldBut.take (i := 6) (v := ?_) rfl (by kernel_rfl) (by kernel_rfl) (by kernel_rfl) (by kernel_rfl) (fun _ _ _ h => h) (Or.inl ⟨by rfl, ?_⟩) hS0 ?_; rotate_left 1; focus (intro u hu; (try dsimp only at hu); go_simp; try with_reducible rfl)
        try simp only [Act.put, List.getElem_toArray, List.getElem_cons_zero, List.getElem_cons_succ, List.setIfInBounds_toArray, List.set_cons_zero, List.set_cons_succ]
        generalize hU0 : V.drew = U0 at hS0 ⊢
        have zz0 := hS0.2.2.size
        clear hU0
        refine HeldBut.two (i := 0) (k := 4) (by kernel_rfl) ?_ ?_
        · refine HeldBut.step (i := 0) rfl (fun K hK => ?_)
          try simp only [List.getElem_toArray, List.getElem_cons_zero, List.getElem_cons_succ]
          go_simp
          have hS1 := keepV hS0 ((Ext.refl [] U0).alloc (.cells #[] 67)) (by simp) g1
          have zz : V.heap.size < (U0.alloc (.cells #[] 67)).heap.size := by rw [World.size_alloc]; have := hS0.2.2.size; omega
          have hA := own_made' U0 _ V.heap.size 67 2 rfl hS0.2.2.size
          refine hK.out _ _ (fun _ => hS1) ?_; clear hK K
          try simp only [Act.put, List.getElem_toArray, List.getElem_cons_zero, List.getElem_cons_succ, List.setIfInBounds_toArray, List.set_cons_zero, List.set_cons_succ]
          clear hS0
          have hS0 := hS1; clear hS1
          generalize hWU1 : U0.alloc (.cells #[] 67) = U1 at *
          clear hWU1
          refine HeldBut.two (i := 3) (k := 4) (by kernel_rfl) ?_ ?_
          · refine HeldBut.step (i := 3) rfl (fun K hK => ?_)
            refine step_append_any TCol (by rfl) (.tmp 13) (.tmp 15) (by rfl) (by rfl) (by rfl) hA (Cs.ext s1 hS0.2.2 (by simp)) (crows_one _) (by unfold maxLen; omega) (by omega) hS0.2.2.size ?_
            intro v16 w16 hO16 hE16
            rw [Nat.zero_add, List.nil_append] at hO16
            have hS1 := keepV hS0 hE16 (own_ge hA) g1
            obtain ⟨a16, c16, e16⟩ := sl_shape (Sl.of_own hO16).choose_spec.1
            subst e16
            refine hK.out _ _ (fun _ => hS1) ?_; clear hK K
            try simp only [Act.put, List.getElem_toArray, List.getElem_cons_zero, List.getElem_cons_succ, List.setIfInBounds_toArray, List.set_cons_zero, List.set_cons_succ]
            clear hS0
            have hS0 := hS1; clear hS1
            refine HeldBut.take (i := 8) (v := ?_) rfl (by kernel_rfl) (by kernel_rfl) (by kernel_rfl) (by kernel_rfl) (fun _ _ _ h => h) (Or.inl ⟨by rfl, ?_⟩) hS0 ?_; rotate_left 1; focus (intro u hu; (try dsimp only at hu); go_simp; try with_reducible rfl)
            try simp only [Act.put, List.getElem_toArray, List.getElem_cons_zero, List.getElem_cons_succ, List.setIfInBounds_toArray, List.set_cons_zero, List.set_cons_succ]
            refine HeldBut.one (i := 4) (by kernel_rfl) ?_
            refine HeldBut.step (i := 4) rfl (fun K hK => ?_)
            try simp only [List.getElem_toArray, List.getElem_cons_zero, List.getElem_cons_succ]
            go_simp
            have hS1 := keepV hS0 ((Ext.refl [] w16).alloc (.cells #[] 3)) (by simp) g1
            have zz : V.heap.size < (w16.alloc (.cells #[] 3)).heap.size := by rw [World.size_alloc]; have := hS0.2.2.size; omega
            have hB := own_made' w16 _ V.heap.size 3 1 rfl hS0.2.2.size
            refine hK.out _ _ (fun _ => hS1) ?_; clear hK K
            try simp only [Act.put, List.getElem_toArray, List.getElem_cons_zero, List.getElem_cons_succ, List.setIfInBounds_toArray, List.set_cons_zero, List.set_cons_succ]
            clear hS0
            have hS0 := hS1; clear hS1
            have hO16 := own_alloc hO16 (.cells #[] 3)
            generalize hWU2 : w16.alloc (.cells #[] 3) = U2 at *
            clear hWU2
            refine HeldBut.one (i := 7) (by kernel_rfl) ?_
            refine HeldBut.step (i := 7) rfl (fun K hK => ?_)
            refine step_append_any TInt (by rfl) (.tmp 17) (.tmp 19) (by rfl) (by rfl) (by rfl) hB (Is.ext s2 hS0.2.2 (by simp)) (by intro u hu; obtain ⟨x, _, rfl⟩ := List.mem_map.1 hu; rfl) (by unfold maxLen; omega) (by omega) hS0.2.2.size ?_
            intro v20 w20 hO20 hE20
            rw [Nat.zero_add, List.nil_append] at hO20
            have hS1 := keepV hS0 hE20 (own_ge hB) g1
            have hP16 := own_ext hO16 hE20 (own_far hO16 hB (by decide))
            obtain ⟨a20, c20, e20⟩ := sl_shape (Sl.of_own hO20).choose_spec.1
            subst e20
            refine hK.out _ _ (fun _ => hS1) ?_; clear hK K
            try simp only [Act.put, List.getElem_toArray, List.getElem_cons_zero, List.getElem_cons_succ, List.setIfInBounds_toArray, List.set_cons_zero, List.set_cons_succ]
            clear hS0
            have hS0 := hS1; clear hS1
            have hT20 := hT.ext hS0.2.2 (by simp)
            have k1 := hS0.1
            have k2 := hS0.2.1
            have zf1 := hT20.frozen 1
            have zf2 := hT20.frozen 2
            have z20 := hS0.2.2.size
            have hlt20 : V.heap.size < w20.heap.size := Nat.lt_of_le_of_lt (Nat.le_refl _) (by have := hE20.size; have := hE16.size; have := zz; omega)
            refine HeldBut.one (i := 9) (by kernel_rfl) ?_
            refine HeldBut.step (i := 9) rfl (fun K hK => ?_)
            try simp only [List.getElem_toArray, List.getElem_cons_zero, List.getElem_cons_succ]
            go_simp
            refine hK.out _ _ (fun h => (h (by simp)).elim) ?_; clear hK K
            try simp only [Act.put, List.getElem_toArray, List.getElem_cons_zero, List.getElem_cons_succ, List.setIfInBounds_toArray, List.set_cons_zero, List.set_cons_succ]
            have hT21 : Blk (w20.setCell ⟨bt, 1, none⟩ (.slice a16 t.cols.length c16)) bt 41 [.string t.n, .slice a16 t.cols.length c16, .slice a2 t.keys.length m2] := hT20.set 1 (.slice a16 t.cols.length c16)
            have k3 := hT21.cell 2
            have zf3 := hT21.frozen 2
            simp only [List.getElem?_cons_zero, List.getElem?_cons_succ] at k3
            have hT22 : Blk ((w20.setCell ⟨bt, 1, none⟩ (.slice a16 t.cols.length c16)).setCell ⟨bt, 2, none⟩ (.slice a20 t.keys.length c20)) bt 41 [.string t.n, .slice a16 t.cols.length c16, .slice a20 t.keys.length c20] := hT21.set 2 (.slice a20 t.keys.length c20)
            have hE22 : Ext [bt] w20 ((w20.setCell ⟨bt, 1, none⟩ (.slice a16 t.cols.length c16)).setCell ⟨bt, 2, none⟩ (.slice a20 t.keys.length c20)) := ((Ext.refl [bt] w20).setCell (p := ⟨bt, 1, none⟩) (.inl (by simp)) _).setCell (p := ⟨bt, 2, none⟩) (.inl (by simp)) _
            have hEV := hS0.2.2
            obtain ⟨o16, b16, l16, g16⟩ := own_sl hP16 hlt20
            obtain ⟨o20, b20, l20, g20⟩ := own_sl hO20 hlt20
            have hHH := Lib.hid (And.intro hT22 (And.intro hE22 hEV))
            clear hT22 hE22 hEV hT21 hT20 k1 k2 zf1 zf2 hS0
            refine HeldBut.one (i := 10) (by kernel_rfl) ?_
            refine HeldBut.step (i := 10) rfl (fun K hK => ?_)
            try simp only [List.getElem_toArray, List.getElem_cons_zero, List.getElem_cons_succ]
            go_simp
            refine hK.out _ _ (fun h => (h (by simp)).elim) ?_; clear hK K
            try simp only [Act.put, List.getElem_toArray, List.getElem_cons_zero, List.getElem_cons_succ, List.setIfInBounds_toArray, List.set_cons_zero, List.set_cons_succ]
            refine HeldBut.one (i := 11) (by kernel_rfl) ?_
            refine HeldBut.step (i := 11) rfl (fun K hK => ?_)
            try simp only [List.getElem_toArray, List.getElem_cons_zero, List.getElem_cons_succ]
            go_simp
            refine hK.out _ _ (fun h => (h (by simp)).elim) ?_; clear hK K
            try simp only [Act.put, List.getElem_toArray, List.getElem_cons_zero, List.getElem_cons_succ, List.setIfInBounds_toArray, List.set_cons_zero, List.set_cons_succ]
            refine HeldBut.done (by kernel_rfl) ?_ _
            go_wp2_with (fail)
            go_meet
            have hz22 := hHH.out.2.1.size
            exact ⟨o16, o20, by simp; omega, by simp; omega, by omega, by omega, by omega, by omega, Cs.ext g16 hHH.out.2.1 (by simp; omega), Is.ext g20 hHH.out.2.1 (by simp; omega), (hHH.out.2.2.mono (by simp)).trans hHH.out.2.1, hHH.out.1⟩
          · refine HeldBut.step (i := 4) rfl (fun K hK => ?_)
            try simp only [List.getElem_toArray, List.getElem_cons_zero, List.getElem_cons_succ]
            go_simp
            have hS1 := keepV hS0 ((Ext.refl [] U1).alloc (.cells #[] 3)) (by simp) g1
            have zz : V.heap.size < (U1.alloc (.cells #[] 3)).heap.size := by rw [World.size_alloc]; have := hS0.2.2.size; omega
            have hB := own_made' U1 _ V.heap.size 3 1 rfl hS0.2.2.size
            have hA := own_alloc hA (.cells #[] 3)
            refine hK.out _ _ (fun _ => hS1) ?_; clear hK K
            try simp only [Act.put, List.getElem_toArray, List.getElem_cons_zero, List.getElem_cons_succ, List.setIfInBounds_toArray, List.set_cons_zero, List.set_cons_succ]
            clear hS0
            have hS0 := hS1; clear hS1
            generalize hWU2 : U1.alloc (.cells #[] 3) = U2 at *
            clear hWU2
            refine HeldBut.one (i := 3) (by kernel_rfl) ?_
            refine HeldBut.step (i := 3) rfl (fun K hK => ?_)
            refine step_append_any TCol (by rfl) (.tmp 13) (.tmp 15) (by rfl) (by rfl) (by rfl) hA (Cs.ext s1 hS0.2.2 (by simp)) (crows_one _) (by unfold maxLen; omega) (by omega) hS0.2.2.size ?_
            intro v16 w16 hO16 hE16
            rw [Nat.zero_add, List.nil_append] at hO16
            have hS1 := keepV hS0 hE16 (own_ge hA) g1
            have hB := own_ext hB hE16 (own_far hB hA (by decide))
            obtain ⟨a16, c16, e16⟩ := sl_shape (Sl.of_own hO16).choose_spec.1
            subst e16
            refine hK.out _ _ (fun _ => hS1) ?_; clear hK K
            try simp only [Act.put, List.getElem_toArray, List.getElem_cons_zero, List.getElem_cons_succ, List.setIfInBounds_toArray, List.set_cons_zero, List.set_cons_succ]
            clear hS0
            have hS0 := hS1; clear hS1
            refine HeldBut.take (i := 8) (v := ?_) rfl (by kernel_rfl) (by kernel_rfl) (by kernel_rfl) (by kernel_rfl) (fun _ _ _ h => h) (Or.inl ⟨by rfl, ?_⟩) hS0 ?_; rotate_left 1; focus (intro u hu; (try dsimp only at hu); go_simp; try with_reducible rfl)
            try simp only [Act.put, List.getElem_toArray, List.getElem_cons_zero, List.getElem_cons_succ, List.setIfInBounds_toArray, List.set_cons_zero, List.set_cons_succ]
            refine HeldBut.one (i := 7) (by kernel_rfl) ?_
            refine HeldBut.step (i := 7) rfl (fun K hK => ?_)
            refine step_append_any TInt (by rfl) (.tmp 17) (.tmp 19) (by rfl) (by rfl) (by rfl) hB (Is.ext s2 hS0.2.2 (by simp)) (by intro u hu; obtain ⟨x, _, rfl⟩ := List.mem_map.1 hu; rfl) (by unfold maxLen; omega) (by omega) hS0.2.2.size ?_
            intro v20 w20 hO20 hE20
            rw [Nat.zero_add, List.nil_append] at hO20
            have hS1 := keepV hS0 hE20 (own_ge hB) g1
            have hP16 := own_ext hO16 hE20 (own_far hO16 hB (by decide))
            obtain ⟨a20, c20, e20⟩ := sl_shape (Sl.of_own hO20).choose_spec.1
            subst e20
            refine hK.out _ _ (fun _ => hS1) ?_; clear hK K
            try simp only [Act.put, List.getElem_toArray, List.getElem_cons_zero, List.getElem_cons_succ, List.setIfInBounds_toArray, List.set_cons_zero, List.set_cons_succ]
            clear hS0
            have hS0 := hS1; clear hS1
            have hT20 := hT.ext hS0.2.2 (by simp)
            have k1 := hS0.1
            have k2 := hS0.2.1
            have zf1 := hT20.frozen 1
            have zf2 := hT20.frozen 2
            have z20 := hS0.2.2.size
            have hlt20 : V.heap.size < w20.heap.size := Nat.lt_of_le_of_lt (Nat.le_refl _) (by have := hE20.size; have := hE16.size; have := zz; omega)
            refine HeldBut.one (i := 9) (by kernel_rfl) ?_
            refine HeldBut.step (i := 9) rfl (fun K hK => ?_)
            try simp only [List.getElem_toArray, List.getElem_cons_zero, List.getElem_cons_succ]
            go_simp
            refine hK.out _ _ (fun h => (h (by simp)).elim) ?_; clear hK K
            try simp only [Act.put, List.getElem_toArray, List.getElem_cons_zero, List.getElem_cons_succ, List.setIfInBounds_toArray, List.set_cons_zero, List.set_cons_succ]
            have hT21 : Blk (w20.setCell ⟨bt, 1, none⟩ (.slice a16 t.cols.length c16)) bt 41 [.string t.n, .slice a16 t.cols.length c16, .slice a2 t.keys.length m2] := hT20.set 1 (.slice a16 t.cols.length c16)
            have k3 := hT21.cell 2
            have zf3 := hT21.frozen 2
            simp only [List.getElem?_cons_zero, List.getElem?_cons_succ] at k3
            have hT22 : Blk ((w20.setCell ⟨bt, 1, none⟩ (.slice a16 t.cols.length c16)).setCell ⟨bt, 2, none⟩ (.slice a20 t.keys.length c20)) bt 41 [.string t.n, .slice a16 t.cols.length c16, .slice a20 t.keys.length c20] := hT21.set 2 (.slice a20 t.keys.length c20)
            have hE22 : Ext [bt] w20 ((w20.setCell ⟨bt, 1, none⟩ (.slice a16 t.cols.length c16)).setCell ⟨bt, 2, none⟩ (.slice a20 t.keys.length c20)) := ((Ext.refl [bt] w20).setCell (p := ⟨bt, 1, none⟩) (.inl (by simp)) _).setCell (p := ⟨bt, 2, none⟩) (.inl (by simp)) _
            have hEV := hS0.2.2
            obtain ⟨o16, b16, l16, g16⟩ := own_sl hP16 hlt20
            obtain ⟨o20, b20, l20, g20⟩ := own_sl hO20 hlt20
            have hHH := Lib.hid (And.intro hT22 (And.intro hE22 hEV))
            clear hT22 hE22 hEV hT21 hT20 k1 k2 zf1 zf2 hS0
            refine HeldBut.one (i := 10) (by kernel_rfl) ?_
            refine HeldBut.step (i := 10) rfl (fun K hK => ?_)
            try simp only [List.getElem_toArray, List.getElem_cons_zero, List.getElem_cons_succ]
            go_simp
            refine hK.out _ _ (fun h => (h (by simp)).elim) ?_; clear hK K
            try simp only [Act.put, List.getElem_toArray, List.getElem_cons_zero, List.getElem_cons_succ, List.setIfInBounds_toArray, List.set_cons_zero, List.set_cons_succ]
            refine HeldBut.one (i := 11) (by kernel_rfl) ?_
            refine HeldBut.step (i := 11) rfl (fun K hK => ?_)
            try simp only [List.getElem_toArray, List.getElem_cons_zero, List.getElem_cons_succ]
            go_simp
            refine hK.out _ _ (fun h => (h (by simp)).elim) ?_; clear hK K
            try simp only [Act.put, List.getElem_toArray, List.getElem_cons_zero, List.getElem_cons_succ, List.setIfInBounds_toArray, List.set_cons_zero, List.set_cons_succ]
            refine HeldBut.done (by kernel_rfl) ?_ _
            go_wp2_with (fail)
            go_meet
            have hz22 := hHH.out.2.1.size
            exact ⟨o16, o20, by simp; omega, by simp; omega, by omega, by omega, by omega, by omega, Cs.ext g16 hHH.out.2.1 (by simp; omega), Is.ext g20 hHH.out.2.1 (by simp; omega), (hHH.out.2.2.mono (by simp)).trans hHH.out.2.1, hHH.out.1⟩
        · refine HeldBut.step (i := 4) rfl (fun K hK => ?_)
          try simp only [List.getElem_toArray, List.getElem_cons_zero, List.getElem_cons_succ]
          go_simp
          have hS1 := keepV hS0 ((Ext.refl [] U0).alloc (.cells #[] 3)) (by simp) g1
          have zz : V.heap.size < (U0.alloc (.cells #[] 3)).heap.size := by rw [World.size_alloc]; have := hS0.2.2.size; omega
          have hB := own_made' U0 _ V.heap.size 3 1 rfl hS0.2.2.size
          refine hK.out _ _ (fun _ => hS1) ?_; clear hK K
          try simp only [Act.put, List.getElem_toArray, List.getElem_cons_zero, List.getElem_cons_succ, List.setIfInBounds_toArray, List.set_cons_zero, List.set_cons_succ]
          clear hS0
          have hS0 := hS1; clear hS1
          generalize hWU1 : U0.alloc (.cells #[] 3) = U1 at *
          clear hWU1
          refine HeldBut.one (i := 0) (by kernel_rfl) ?_
          refine HeldBut.step (i := 0) rfl (fun K hK => ?_)
          try simp only [List.getElem_toArray, List.getElem_cons_zero, List.getElem_cons_succ]
          go_simp
          have hS1 := keepV hS0 ((Ext.refl [] U1).alloc (.cells #[] 67)) (by simp) g1
          have zz : V.heap.size < (U1.alloc (.cells #[] 67)).heap.size := by rw [World.size_alloc]; have := hS0.2.2.size; omega
          have hA := own_made' U1 _ V.heap.size 67 2 rfl hS0.2.2.size
          have hB := own_alloc hB (.cells #[] 67)
          refine hK.out _ _ (fun _ => hS1) ?_; clear hK K
          try simp only [Act.put, List.getElem_toArray, List.getElem_cons_zero, List.getElem_cons_succ, List.setIfInBounds_toArray, List.set_cons_zero, List.set_cons_succ]
          clear hS0
          have hS0 := hS1; clear hS1
          generalize hWU2 : U1.alloc (.cells #[] 67) = U2 at *
          clear hWU2
          refine HeldBut.one (i := 3) (by kernel_rfl) ?_
          refine HeldBut.step (i := 3) rfl (fun K hK => ?_)
          refine step_append_any TCol (by rfl) (.tmp 13) (.tmp 15) (by rfl) (by rfl) (by rfl) hA (Cs.ext s1 hS0.2.2 (by simp)) (crows_one _) (by unfold maxLen; omega) (by omega) hS0.2.2.size ?_
          intro v16 w16 hO16 hE16
          rw [Nat.zero_add, List.nil_append] at hO16
          have hS1 := keepV hS0 hE16 (own_ge hA) g1
          have hB := own_ext hB hE16 (own_far hB hA (by decide))
          obtain ⟨a16, c16, e16⟩ := sl_shape (Sl.of_own hO16).choose_spec.1
          subst e16
          refine hK.out _ _ (fun _ => hS1) ?_; clear hK K
          try simp only [Act.put, List.getElem_toArray, List.getElem_cons_zero, List.getElem_cons_succ, List.setIfInBounds_toArray, List.set_cons_zero, List.set_cons_succ]
          clear hS0
          have hS0 := hS1; clear hS1
          refine HeldBut.take (i := 8) (v := ?_) rfl (by kernel_rfl) (by kernel_rfl) (by kernel_rfl) (by kernel_rfl) (fun _ _ _ h => h) (Or.inl ⟨by rfl, ?_⟩) hS0 ?_; rotate_left 1; focus (intro u hu; (try dsimp only at hu); go_simp; try with_reducible rfl)
          try simp only [Act.put, List.getElem_toArray, List.getElem_cons_zero, List.getElem_cons_succ, List.setIfInBounds_toArray, List.set_cons_zero, List.set_cons_succ]
          refine HeldBut.one (i := 7) (by kernel_rfl) ?_
          refine HeldBut.step (i := 7) rfl (fun K hK => ?_)
          refine step_append_any TInt (by rfl) (.tmp 17) (.tmp 19) (by rfl) (by rfl) (by rfl) hB (Is.ext s2 hS0.2.2 (by simp)) (by intro u hu; obtain ⟨x, _, rfl⟩ := List.mem_map.1 hu; rfl) (by unfold maxLen; omega) (by omega) hS0.2.2.size ?_
          intro v20 w20 hO20 hE20
          rw [Nat.zero_add, List.nil_append] at hO20
          have hS1 := keepV hS0 hE20 (own_ge hB) g1
          have hP16 := own_ext hO16 hE20 (own_far hO16 hB (by decide))
          obtain ⟨a20, c20, e20⟩ := sl_shape (Sl.of_own hO20).choose_spec.1
          subst e20
          refine hK.out _ _ (fun _ => hS1) ?_; clear hK K
          try simp only [Act.put, List.getElem_toArray, List.getElem_cons_zero, List.getElem_cons_succ, List.setIfInBounds_toArray, List.set_cons_zero, List.set_cons_succ]
          clear hS0
          have hS0 := hS1; clear hS1
          have hT20 := hT.ext hS0.2.2 (by simp)
          have k1 := hS0.1
          have k2 := hS0.2.1
          have zf1 := hT20.frozen 1
          have zf2 := hT20.frozen 2
          have z20 := hS0.2.2.size
          have hlt20 : V.heap.size < w20.heap.size := Nat.lt_of_le_of_lt (Nat.le_refl _) (by have := hE20.size; have := hE16.size; have := zz; omega)
          refine HeldBut.one (i := 9) (by kernel_rfl) ?_
          refine HeldBut.step (i := 9) rfl (fun K hK => ?_)
          try simp only [List.getElem_toArray, List.getElem_cons_zero, List.getElem_cons_succ]
          go_simp
          refine hK.out _ _ (fun h => (h (by simp)).elim) ?_; clear hK K
          try simp only [Act.put, List.getElem_toArray, List.getElem_cons_zero, List.getElem_cons_succ, List.setIfInBounds_toArray, List.set_cons_zero, List.set_cons_succ]
          have hT21 : Blk (w20.setCell ⟨bt, 1, none⟩ (.slice a16 t.cols.length c16)) bt 41 [.string t.n, .slice a16 t.cols.length c16, .slice a2 t.keys.length m2] := hT20.set 1 (.slice a16 t.cols.length c16)
          have k3 := hT21.cell 2
          have zf3 := hT21.frozen 2
          simp only [List.getElem?_cons_zero, List.getElem?_cons_succ] at k3
          have hT22 : Blk ((w20.setCell ⟨bt, 1, none⟩ (.slice a16 t.cols.length c16)).setCell ⟨bt, 2, none⟩ (.slice a20 t.keys.length c20)) bt 41 [.string t.n, .slice a16 t.cols.length c16, .slice a20 t.keys.length c20] := hT21.set 2 (.slice a20 t.keys.length c20)
          have hE22 : Ext [bt] w20 ((w20.setCell ⟨bt, 1, none⟩ (.slice a16 t.cols.length c16)).setCell ⟨bt, 2, none⟩ (.slice a20 t.keys.length c20)) := ((Ext.refl [bt] w20).setCell (p := ⟨bt, 1, none⟩) (.inl (by simp)) _).setCell (p := ⟨bt, 2, none⟩) (.inl (by simp)) _
          have hEV := hS0.2.2
          obtain ⟨o16, b16, l16, g16⟩ := own_sl hP16 hlt20
          obtain ⟨o20, b20, l20, g20⟩ := own_sl hO20 hlt20
          have hHH := Lib.hid (And.intro hT22 (And.intro hE22 hEV))
          clear hT22 hE22 hEV hT21 hT20 k1 k2 zf1 zf2 hS0
          refine HeldBut.one (i := 10) (by kernel_rfl) ?_
          refine HeldBut.step (i := 10) rfl (fun K hK => ?_)
          try simp only [List.getElem_toArray, List.getElem_cons_zero, List.getElem_cons_succ]
          go_simp
          refine hK.out _ _ (fun h => (h (by simp)).elim) ?_; clear hK K
          try simp only [Act.put, List.getElem_toArray, List.getElem_cons_zero, List.getElem_cons_succ, List.setIfInBounds_toArray, List.set_cons_zero, List.set_cons_succ]
          refine HeldBut.one (i := 11) (by kernel_rfl) ?_
          refine HeldBut.step (i := 11) rfl (fun K hK => ?_)
          try simp only [List.getElem_toArray, List.getElem_cons_zero, List.getElem_cons_succ]
          go_simp
          refine hK.out _ _ (fun h => (h (by simp)).elim) ?_; clear hK K
          try simp only [Act.put, List.getElem_toArray, List.getElem_cons_zero, List.getElem_cons_succ, List.setIfInBounds_toArray, List.set_cons_zero, List.set_cons_succ]
          refine HeldBut.done (by kernel_rfl) ?_ _
          go_wp2_with (fail)
          go_meet
          have hz22 := hHH.out.2.1.size
          exact ⟨o16, o20, by simp; omega, by simp; omega, by omega, by omega, by omega, by omega, Cs.ext g16 hHH.out.2.1 (by simp; omega), Is.ext g20 hHH.out.2.1 (by simp; omega), (hHH.out.2.2.mono (by simp)).trans hHH.out.2.1, hHH.out.1⟩
      case rest =>
        obtain ⟨oc', ok', j1, j2, j3, j4, j5, j6, hc', hk', hE5, hB5⟩ := hcut
        obtain ⟨a16, c16, rfl⟩ := hc'.shape
        obtain ⟨a20, c20, rfl⟩ := hk'.shape
        have f0 := hB5.cell 0
        have f1 := hB5.cell 1
        have f2 := hB5.cell 2
        simp only [List.getElem?_cons_zero, List.getElem?_cons_succ] at f0 f1 f2
        subst hrk
        have hol := hQ.lt
        have hbw : wr.heap.size = bt := hbe
        have hown : ∀ b' ∈ vo.ownBlock.toList, W2.heap.size ≤ b' ∧ b' < wr.heap.size := fun b' hb' => hO.lt b' (by simpa using hb')
        have hQc := (hQ.ext e3 (by simp)).ext hE5 (by simp; omega)
        have hBc := (hB.ext e3 (by simp)).ext hE5 (by simp; omega)
        have hOc := own_ext (own_ext hO e3 (by simp)) hE5 (fun k' hk' hm => by have := (hown k' (by simpa using hk')).2; simp at hm; omega)
        obtain ⟨av, mv, rfl⟩ := sl_shape (Sl.of_own hO).choose_spec.1
        have v0 := hQc.cell 0
        simp only [List.getElem?_cons_zero] at v0
        have z0 := hQc.frozen 0
        have x5 := hE5.size
        have y5 := e3.size
        have hX5 : Ext [] wr wc := e3.trans' hE5 (fun i hi => .inr (by simp at hi; omega))
        have v0' := fun ob => cells_ext ((Ext.refl [] wc).alloc ob) v0
        have hrk20 : rk.length ≤ 20 := by omega
        go_wp2_with (at_builtin; refine wpList_append_one TTab (by rfl) (.tmp 24) (.tmp 26) (by rfl) (by rfl) (own_alloc hOc (.cells #[.string t.n, .slice a16 t.cols.length c16, .slice a20 t.keys.length c20] 41)) (by rfl) (Blk.new wc [.string t.n, .slice a16 t.cols.length c16, .slice a20 t.keys.length c20] 41) rfl one3' (by unfold maxLen; omega) (by omega) (by simp; have := hown; omega) ?_; intro g cap w7 hO7 h7 hg; have hQ7 := (hQc.ext ((Ext.refl [] wc).alloc (.cells #[.string t.n, .slice a16 t.cols.length c16, .slice a20 t.keys.length c20] 41)) (by simp)).ext h7 (fun hm => by have := (hown _ hm).1; omega); have k7 := hQ7.cell 0; have z7 := hQ7.frozen 0; simp only [List.getElem?_cons_zero] at k7)
        have hlx : l.take (rk.length + 1) = l.take rk.length ++ [t] := by rw [List.take_add_one, hx]; rfl
        have hE7 : Ext (Value.slice av rk.length mv).ownBlock.toList wr w7 := ((hX5.alloc (.cells #[.string t.n, .slice a16 t.cols.length c16, .slice a20 t.keys.length c20] 41)).mono (by simp)).trans h7
        have hEc : Ext (Value.slice av rk.length mv).ownBlock.toList wc w7 := (((Ext.refl [] wc).alloc (.cells #[.string t.n, .slice a16 t.cols.length c16, .slice a20 t.keys.length c20] 41)).mono (by simp)).trans h7
        have hE8 : Ext ((Value.slice av rk.length mv).ownBlock.toList ++ [oo]) wr (w7.setCell ⟨oo, 0, none⟩ (.slice (some ⟨g, 0, none⟩) (rk.length + 1) cap)) := (hE7.mono (fun k' _ hm => List.mem_append.2 (.inl hm))).setCell (.inl (by simp)) _
        have hE8c : Ext ((Value.slice av rk.length mv).ownBlock.toList ++ [oo]) wc (w7.setCell ⟨oo, 0, none⟩ (.slice (some ⟨g, 0, none⟩) (rk.length + 1) cap)) := (hEc.mono (fun k' _ hm => List.mem_append.2 (.inl hm))).setCell (.inl (by simp)) _
        have hwW := hE.size
        have hgW : g ∈ (Value.slice av rk.length mv).ownBlock.toList ∨ wc.heap.size ≤ g := by
          rcases hg with hg | hg
          · exact .inl (by rw [hg]; simp)
          · exact .inr (by rw [hg, World.size_alloc]; omega)
        have hfar : ∀ b', bt < b' → b' < wc.heap.size → b' ∉ g :: (Value.slice av rk.length mv).ownBlock.toList ++ oo :: rb :: X := by
          intro b' l1 l2 hm
          rw [List.mem_append, List.mem_cons, List.mem_cons, List.mem_cons] at hm
          rcases hm with (rfl | hm) | rfl | rfl | hm
          · rcases hgW with h | h
            · have := (hown _ h).2; omega
            · omega
          · have := (hown _ hm).2; omega
          · omega
          · omega
          · have := hXX _ hm; have := hX.size; omega
        have hI1 := (hI.mono (Y := g :: (Value.slice av rk.length mv).ownBlock.toList ++ oo :: rb :: X) (fun i hi => by
          rw [List.mem_append, List.mem_cons] at hi
          rcases hi with (rfl | hi) | hi
          · rcases hgW with h | h
            · exact .inl (List.mem_append.2 (.inl h))
            · exact .inr (by omega)
          · exact .inl (List.mem_append.2 (.inl hi))
          · exact .inl (List.mem_append.2 (.inr hi)))).ext hE8 (fun i hi => by
            rcases List.mem_append.1 hi with hi | hi
            · exact List.mem_append.2 (.inl (List.mem_cons_of_mem _ hi))
            · obtain rfl : i = oo := by simpa using hi
              exact List.mem_append.2 (.inr (by simp)))
        have hnn : ∀ b', bt < b' → b' ∉ (Value.slice av rk.length mv).ownBlock.toList ++ [oo] := by
          intro b' l1 hm
          rcases List.mem_append.1 hm with hm | hm
          · have := (hown _ hm).2; omega
          · obtain rfl : b' = oo := by simpa using hm
            omega
        have hs8 := hE8c.size
        have hI2 := hI1.snoc (r := ⟨t.n, .slice a16 t.cols.length c16, .slice a20 t.keys.length c20⟩) (t := t) rfl ⟨oc', hfar _ j3 j5, by omega, hc'.ext hE8c (hnn _ j3)⟩ ⟨ok', hfar _ j4 j6, by omega, hk'.ext hE8c (hnn _ j4)⟩
        have hrows : rrows (rk ++ [⟨t.n, .slice a16 t.cols.length c16, .slice a20 t.keys.length c20⟩]) = rrows rk ++ [.string t.n, .slice a16 t.cols.length c16, .slice a20 t.keys.length c20] := by rw [rrows_append]; rfl
        refine ⟨⟨rk.length + 1, rk ++ [⟨t.n, .slice a16 t.cols.length c16, .slice a20 t.keys.length c20⟩], .slice (some ⟨g, 0, none⟩) (rk.length + 1) cap, by omega, by go_num, by simp, ?_, ?_, ?_, ?_, ?_, ?_⟩, by simp [intOf]; omega⟩
        · refine hX.trans' hE8 (fun i hi => .inr ?_)
          rcases List.mem_append.1 hi with hi | hi
          · have := (hown _ hi).1; omega
          · obtain rfl : i = oo := by simpa using hi
            omega
        · refine hB.ext hE8 (fun hm => ?_)
          rcases List.mem_append.1 hm with hm | hm
          · have := (hown _ hm).1; omega
          · have : rb = oo := by simpa using hm
            omega
        · exact hQ7.set 0 _
        · rw [hrows, List.length_append, List.length_singleton]
          exact own_ext hO7 ((Ext.refl [oo] w7).setCell (p := ⟨oo, 0, none⟩) (.inl (by simp)) _) (fun k' hk' hm => by have := (hO7.lt k' hk').1; simp at hm; omega)
        · have := hE8.size; omega
        · rw [hlx]
          exact hI2.mono (fun i hi => .inl (by
            rcases List.mem_append.1 hi with hi | hi
            · obtain rfl : i = g := by simpa [Value.ownBlock] using hi
              exact List.mem_append.2 (.inl (by simp))
            · exact List.mem_append.2 (.inr hi)))
    · obtain rfl : k = l.length := by omega
      rw [List.take_length] at hI
      obtain ⟨ob1, hs1, hob⟩ := Sl.of_own hO
      obtain ⟨av, mv, hv⟩ := sl_shape hs1
      rw [hrk] at hv
      subst hv
      have v0 := hQ.cell 0
      have r0 := hB.cell 0
      have zr := hB.frozen 0
      simp only [List.getElem?_cons_zero] at v0 r0
      have hB8 := hB.set 0 (.slice av l.length mv)
      have hE8 := (Ext.refl [rb] wr).setCell (p := ⟨rb, 0, none⟩) (.inl (by simp)) (.slice av l.length mv)
      have hwW := hE.size
      have hrb : rb ∉ X := fun hm => by have := hXX _ hm; omega
      have hTX : TsX X (wr.setCell ⟨rb, 0, none⟩ (.slice av l.length mv)) (.slice av l.length mv) l := by
        have hR := (hI.ris.ext (hE8.mono (by intro k' _ hm; simp at hm; subst hm; exact List.mem_append.2 (.inr (by simp))))).mono (Y := X) (fun i hi => List.mem_append.2 (.inr (by simp [hi])))
        rcases hob with h | ⟨h1, h2⟩
        · rw [h] at hs1 hR ⊢
          exact ⟨W2.heap.size, rk, fun hm => by have := hXX _ hm; omega, Sl.ext (Sl.any_none hs1 W2.heap.size) ((Ext.refl [rb] wr).setCell (p := ⟨rb, 0, none⟩) (.inl (by simp)) _) (by simp; omega), hR⟩
        · exact ⟨ob1, rk, fun hm => by have := hXX _ hm; omega, Sl.ext hs1 hE8 (by simp; omega), hR⟩
      have HH := Lib.hid (And.intro hTX (hX.trans' hE8 (fun i hi => .inr (by simp at hi; omega))))
      clear hTX hO hI hs1 hob
      go_wp2_with (fail)
      refine ret_cell Tryz.results7 rfl hB8 Tryz.underlying24 rfl cat_info rfl ⟨⟨_, rfl, HH.out.1⟩, HH.out.2⟩
end Go.Proofs.YtjmfcjidhmaibaaGreatDoor
