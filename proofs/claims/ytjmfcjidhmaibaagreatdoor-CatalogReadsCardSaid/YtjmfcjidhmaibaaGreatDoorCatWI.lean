/-
  The reference's Without and With.
-/
import Derived.Test.YtjmfcjidhmaibaaGreatDoorCatXC
import Derived.Test.YtjmfcjidhmaibaaGreatDoorCatU
namespace Go.Proofs.YtjmfcjidhmaibaaGreatDoor
open Go.RowKit
open Go.Lib hiding intOf
set_option linter.unusedVariables false
set_option linter.unusedSimpArgs false

/-- the first k but the K-th, and one more -/
theorem wo_same {l : List Tab} {k K : Nat} (hk : k < l.length) (h : k = K) : (l.take (k + 1)).eraseIdx K = (l.take k).eraseIdx K := by
  subst h
  have hl : (l.take k).length = k := by rw [List.length_take]; omega
  rw [List.take_add_one, List.getElem?_eq_getElem hk, List.eraseIdx_append_of_length_le (by omega), List.eraseIdx_of_length_le (l := l.take k) (by omega), hl, Nat.sub_self]
  simp
theorem wo_more {l : List Tab} {k K : Nat} {t : Tab} (hk : l[k]? = some t) (h : k ≠ K) : (l.take (k + 1)).eraseIdx K = (l.take k).eraseIdx K ++ [t] := by
  have hlt := (List.getElem?_eq_some_iff.1 hk).1
  have hl : (l.take k).length = k := by rw [List.length_take]; omega
  rw [List.take_add_one, hk]
  by_cases hK : K < k
  · rw [List.eraseIdx_append_of_lt_length (by omega)]; rfl
  · rw [List.eraseIdx_append_of_length_le (by omega), List.eraseIdx_of_length_le (l := l.take k) (by omega), List.eraseIdx_of_length_le (l := (some t).toList) (by rw [hl]; show 1 ≤ _; omega)]
    rfl
theorem own_ts {W w : World} {base : Nat} {v : Value} {rk : List Raw} {l : List Tab} (hO : w.ownsRow base 41 3 v rk.length (rrows rk)) (hI : RIs [] W rk l) (e : Ext [] W w) : Ts w v l := by
  obtain ⟨ob, h, _⟩ := Sl.of_own hO
  exact ⟨ob, rk, h, hI.keep e⟩
theorem keepF {u u' : World} {b0 o0 b1 o1 b2 o2 o3 o4 : Nat} {v0 v1 v2 v3 v4 : Value} {X : List Nat} (h : u.cell? ⟨b0, o0, none⟩ = some v0 ∧ u.cell? ⟨b1, o1, none⟩ = some v1 ∧ u.cell? ⟨b2, o2, none⟩ = some v2 ∧ u.cell? ⟨b2, o3, none⟩ = some v3 ∧ u.cell? ⟨b2, o4, none⟩ = some v4) (e : Ext X u u') (h0 : b0 ∉ X) (h1 : b1 ∉ X) (h2 : b2 ∉ X) : u'.cell? ⟨b0, o0, none⟩ = some v0 ∧ u'.cell? ⟨b1, o1, none⟩ = some v1 ∧ u'.cell? ⟨b2, o2, none⟩ = some v2 ∧ u'.cell? ⟨b2, o3, none⟩ = some v3 ∧ u'.cell? ⟨b2, o4, none⟩ = some v4 :=
  ⟨e.read h.1 h0, e.read h.2.1 h1, e.read h.2.2.1 h2, e.read h.2.2.2.1 h2, e.read h.2.2.2.2 h2⟩
set_option maxRecDepth 100000 in
set_option maxHeartbeats 4000000 in
theorem Without_any (V w : World) (hV : Ext [] V w) (v : Value) (l : List Tab) (at' : Int) (J : Nat) (hC : Ts V v l) (hl : l.length ≤ 20) (hat : ∀ k : Nat, k < l.length → (((k : Int) = at') ↔ k = J)) :
    Calls Tryz.prog 50 #[KV v, .int .i64 at'] w fun e w' => (∃ v' rk base, e = .returned (KV v') ∧ w.heap.size ≤ base ∧ base ≤ w'.heap.size ∧ w'.ownsRow base 41 3 v' rk.length (rrows rk) ∧ RIs [] V rk (l.eraseIdx J)) ∧ Ext [] w w' := by
  have hVs := hV.size
  obtain ⟨a, c, rfl⟩ := hC.shape
  obtain ⟨ob0, rs0, hRs0, hRI0⟩ := id hC
  have e1 := (Ext.refl [] w).alloc (.cells #[.slice a l.length c] 24)
  have c0 := new_cells w [.slice a l.length c] 24 0 _ rfl
  go_enter Tryz.func50, Tryz.ntmps50
  go_upto_region 1 with (fail)
  have hR := Blk.new (w.alloc (.cells #[.slice a l.length c] 24)) [.slice none 0 0] 24
  have e2 := (Ext.refl [] (w.alloc (.cells #[.slice a l.length c] 24))).alloc (.cells #[.slice none 0 0] 24)
  have c1 := cells_ext e2 c0
  have hE := e1.trans e2
  rw [World.size_alloc] at hR
  generalize (w.alloc (.cells #[.slice a l.length c] 24)).alloc (.cells #[.slice none 0 0] 24) = W at *
  generalize hrb : w.heap.size + 1 = rb at *
  generalize hcb : w.heap.size = cb at *
  have hrl := hR.lt
  have hQ := Blk.new W [.slice none 0 0] 24
  have e4 := (Ext.refl [] W).alloc (.cells #[.slice none 0 0] 24)
  have hE := hE.trans e4
  have c2 := cells_ext e4 c1
  have hR := hR.ext e4 (by simp)
  go_upto_region 2 with (fail)
  generalize W.alloc (.cells #[.slice none 0 0] 24) = W2 at *
  generalize hqq : W.heap.size = oo at *
  have hql := hQ.lt
  go_wp2_with (fail)
  go_loopw [6] (fun i wr => ∃ (k : Nat) (rk : List Raw) (vo : Value), k ≤ l.length ∧ i = .int .i64 k ∧ rk.length ≤ k ∧ Ext [] w wr ∧ wr.cell? ⟨cb, 0, none⟩ = some (.slice a l.length c) ∧ Blk wr rb 24 [.slice none 0 0] ∧ Blk wr oo 24 [vo] ∧ wr.ownsRow W2.heap.size 41 3 vo rk.length (rrows rk) ∧ W2.heap.size ≤ wr.heap.size ∧ RIs [] V rk ((l.take k).eraseIdx J)) (fun i _ => l.length - (intOf i).toNat)
  case atStart => exact ⟨0, [], .slice none 0 0, by omega, rfl, by simp, hE, c2, hR, hQ, World.ownsRow_nil _ _ _ _, Nat.le_refl _, ⟨by simp, fun k r t h => by simp at h⟩⟩
  case round =>
    obtain ⟨k, rk, vo, hk, rfl, hrk, hX, hcc, hB, hQ, hO, hW2, hI⟩ := hrel
    obtain ⟨av, mv, rfl⟩ := sl_shape (Sl.of_own hO).choose_spec.1
    have v0 := hQ.cell 0
    simp only [List.getElem?_cons_zero] at v0
    have z0 := hQ.frozen 0
    by_cases hlt : k < l.length
    · have hx : l[k]? = some l[k] := List.getElem?_eq_getElem hlt
      have hk0 : k < rs0.length := by rw [hRI0.1]; exact hlt
      have hr0 : rs0[k]? = some rs0[k] := List.getElem?_eq_getElem hk0
      have hT0 := hRI0.2 k _ _ hr0 hx
      obtain ⟨o, N, C, Ke, rfl, hr, p0, p1, p2⟩ := (hRs0.ext (hV.trans hX) (by simp)).at k hk0
      obtain ⟨b1, n1, b2, n2, eR⟩ := hT0.shape
      have hob0 : ob0 < V.heap.size := by
        obtain ⟨_, _, _, _, ee, _, q, _⟩ := hRs0.at k hk0
        simp only [Option.some.injEq, Addr.mk.injEq, true_and, and_true] at ee
        exact World.block_lt_of_cell? _ _ q
      rw [hr0] at hr
      have hr := Option.some.inj hr
      rw [eR] at hr
      obtain ⟨rfl, rfl, rfl⟩ : l[k].n = N ∧ Value.slice b1 l[k].cols.length n1 = C ∧ Value.slice b2 l[k].keys.length n2 = Ke := by simpa using hr
      rw [eR] at hT0
      by_cases hJ : k = J
      · have hq : (k : Int) = at' := (hat k hlt).2 hJ
        rw [← wo_same hlt hJ] at hI
        subst hq
        clear hr hr0 eR hx
        go_wp2_with (fail)
        exact ⟨⟨k + 1, rk, _, by omega, by go_num, by omega, hX, hcc, hB, hQ, hO, hW2, hI⟩, by simp [intOf]; omega⟩
      · have hq : ¬ (k : Int) = at' := fun h => hJ ((hat k hlt).1 h)
        have hq2 : ((k : Int) != at') = true := by simpa using hq
        have hI2 := hI.append (RIs.one hT0)
        rw [← wo_more hx hJ] at hI2
        generalize l[k] = t at *
        clear hr hr0 eR hx hT0 hat
        go_upto_region 6 with (fail)
        have eD := (Ext.refl [] wr).drew
        have hX := hX.drew
        have hO := own_drew hO
        have hB := hB.ext eD (by simp)
        have hQ := hQ.ext eD (by simp)
        have hS0 : wr.drew.cell? ⟨cb, 0, none⟩ = some (.slice (some ⟨ob0, o, none⟩) l.length c) ∧ wr.drew.cell? ⟨oo, 0, none⟩ = some (.slice av rk.length mv) ∧ wr.drew.cell? ⟨ob0, o + k * 3, none⟩ = some (.string t.n) ∧ wr.drew.cell? ⟨ob0, o + k * 3 + 1, none⟩ = some (.slice b1 t.cols.length n1) ∧ wr.drew.cell? ⟨ob0, o + k * 3 + 2, none⟩ = some (.slice b2 t.keys.length n2) := ⟨hcc, v0, p0, p1, p2⟩
        have hW2 : W2.heap.size ≤ wr.drew.heap.size := by have := eD.size; omega
        refine region_but (fun u => u.cell? ⟨cb, 0, none⟩ = some (.slice (some ⟨ob0, o, none⟩) l.length c) ∧ u.cell? ⟨oo, 0, none⟩ = some (.slice av rk.length mv) ∧ u.cell? ⟨ob0, o + k * 3, none⟩ = some (.string t.n) ∧ u.cell? ⟨ob0, o + k * 3 + 1, none⟩ = some (.slice b1 t.cols.length n1) ∧ u.cell? ⟨ob0, o + k * 3 + 2, none⟩ = some (.slice b2 t.keys.length n2)) [10] 11 rfl (by kernel_rfl) ?_
        clear hcc v0 p0 p1 p2 z0 eD
        generalize wr.drew = U0 at *
        refine HeldBut.take (i := 0) (v := ?_) rfl (by kernel_rfl) (by kernel_rfl) (by kernel_rfl) (by kernel_rfl) (fun _ _ _ h => h) (Or.inl ⟨by rfl, ?_⟩) hS0 ?_; rotate_left 1; focus (intro u hu; (try dsimp only at hu); go_simp; try with_reducible rfl)
        try simp only [Act.put, List.getElem_toArray, List.getElem_cons_zero, List.getElem_cons_succ, List.setIfInBounds_toArray, List.set_cons_zero, List.set_cons_succ]
        refine HeldBut.take (i := 1) (v := ?_) rfl (by kernel_rfl) (by kernel_rfl) (by kernel_rfl) (by kernel_rfl) (fun _ _ _ h => h) (Or.inl ⟨by rfl, ?_⟩) hS0 ?_; rotate_left 1; focus (intro u hu; (try dsimp only at hu); go_simp; try with_reducible rfl)
        try simp only [Act.put, List.getElem_toArray, List.getElem_cons_zero, List.getElem_cons_succ, List.setIfInBounds_toArray, List.set_cons_zero, List.set_cons_succ]
        refine HeldBut.take (i := 2) (v := ?_) rfl (by kernel_rfl) (by kernel_rfl) (by kernel_rfl) (by kernel_rfl) (fun _ _ _ h => h) (Or.inl ⟨by rfl, ?_⟩) hS0 ?_; rotate_left 1; focus (intro u hu; (try dsimp only at hu); go_simp; try with_reducible rfl)
        try simp only [Act.put, List.getElem_toArray, List.getElem_cons_zero, List.getElem_cons_succ, List.setIfInBounds_toArray, List.set_cons_zero, List.set_cons_succ]
        refine HeldBut.take (i := 3) (v := ?_) rfl (by kernel_rfl) (by kernel_rfl) (by kernel_rfl) (by kernel_rfl) (fun _ _ _ h => h) (Or.inl ⟨by rfl, ?_⟩) hS0 ?_; rotate_left 1; focus (intro u hu; (try dsimp only at hu); go_simp; try with_reducible rfl)
        try simp only [Act.put, List.getElem_toArray, List.getElem_cons_zero, List.getElem_cons_succ, List.setIfInBounds_toArray, List.set_cons_zero, List.set_cons_succ]
        refine HeldBut.take (i := 4) (v := ?_) rfl (by kernel_rfl) (by kernel_rfl) (by kernel_rfl) (by kernel_rfl) (fun _ _ _ h => h) (Or.inl ⟨by rfl, ?_⟩) hS0 ?_; rotate_left 1; focus (intro u hu; (try dsimp only at hu); go_simp; try with_reducible rfl)
        try simp only [Act.put, List.getElem_toArray, List.getElem_cons_zero, List.getElem_cons_succ, List.setIfInBounds_toArray, List.set_cons_zero, List.set_cons_succ]
        refine HeldBut.take (i := 5) (v := ?_) rfl (by kernel_rfl) (by kernel_rfl) (by kernel_rfl) (by kernel_rfl) (fun _ _ _ h => h) (Or.inl ⟨by rfl, ?_⟩) hS0 ?_; rotate_left 1; focus (intro u hu; (try dsimp only at hu); go_simp; try with_reducible rfl)
        try simp only [Act.put, List.getElem_toArray, List.getElem_cons_zero, List.getElem_cons_succ, List.setIfInBounds_toArray, List.set_cons_zero, List.set_cons_succ]
        refine HeldBut.take (i := 6) (v := ?_) rfl (by kernel_rfl) (by kernel_rfl) (by kernel_rfl) (by kernel_rfl) (fun _ _ _ h => h) (Or.inl ⟨by rfl, ?_⟩) hS0 ?_; rotate_left 1; focus (intro u hu; (try dsimp only at hu); go_simp; try with_reducible rfl)
        try simp only [Act.put, List.getElem_toArray, List.getElem_cons_zero, List.getElem_cons_succ, List.setIfInBounds_toArray, List.set_cons_zero, List.set_cons_succ]
        refine HeldBut.one (i := 7) (by kernel_rfl) ?_
        refine HeldBut.step (i := 7) rfl (fun K hK => ?_)
        try simp only [List.getElem_toArray, List.getElem_cons_zero, List.getElem_cons_succ]
        go_simp
        have e7 := (Ext.refl [] U0).alloc (.cells #[.string t.n, .slice b1 t.cols.length n1, .slice b2 t.keys.length n2] 41)
        have hS1 := keepF hS0 e7 (by simp) (by simp) (by simp)
        have s7 := Sl.lit U0 [.string t.n, .slice b1 t.cols.length n1, .slice b2 t.keys.length n2] 41 3 1 rfl (by decide)
        have hX := hX.trans e7
        have hO := own_ext hO e7 (by simp)
        have hB := hB.ext e7 (by simp)
        have hQ := hQ.ext e7 (by simp)
        have hW2 : W2.heap.size ≤ (U0.alloc (.cells #[.string t.n, .slice b1 t.cols.length n1, .slice b2 t.keys.length n2] 41)).heap.size := by have := e7.size; omega
        refine hK.out _ _ (fun _ => hS1) ?_; clear hK K
        try simp only [Act.put, List.getElem_toArray, List.getElem_cons_zero, List.getElem_cons_succ, List.setIfInBounds_toArray, List.set_cons_zero, List.set_cons_succ]
        clear hS0 e7
        have hS0 := hS1; clear hS1
        generalize U0.alloc (.cells #[.string t.n, .slice b1 t.cols.length n1, .slice b2 t.keys.length n2] 41) = U7 at *
        refine HeldBut.one (i := 8) (by kernel_rfl) ?_
        refine HeldBut.step (i := 8) rfl (fun K hK => ?_)
        refine step_append_any TTab (by rfl) (.tmp 18) (.tmp 24) (by rfl) (by rfl) (by rfl) hO s7 one3' (by unfold maxLen; omega) (by omega) hW2 ?_
        intro v8 w8 hO8 e8
        have hS1 := keepF hS0 e8 (fun hm => by have := own_ge hO _ hm; omega) (fun hm => by have := own_ge hO _ hm; omega) (fun hm => by have := own_ge hO _ hm; omega)
        obtain ⟨a8, c8, rfl⟩ := sl_shape (Sl.of_own hO8).choose_spec.1
        have hX := hX.trans' e8 (fun i hi => .inr (by have := own_ge hO _ hi; omega))
        have hB := hB.ext e8 (fun hm => by have := own_ge hO _ hm; omega)
        have hQ := hQ.ext e8 (fun hm => by have := own_ge hO _ hm; omega)
        have hW2 : W2.heap.size ≤ w8.heap.size := by have := e8.size; omega
        refine hK.out _ _ (fun _ => hS1) ?_; clear hK K
        try simp only [Act.put, List.getElem_toArray, List.getElem_cons_zero, List.getElem_cons_succ, List.setIfInBounds_toArray, List.set_cons_zero, List.set_cons_succ]
        clear hS0 e8
        have hS0 := hS1; clear hS1
        have z8 := hQ.frozen 0
        have k8 := hQ.cell 0
        simp only [List.getElem?_cons_zero] at k8
        refine HeldBut.one (i := 9) (by kernel_rfl) ?_
        refine HeldBut.step (i := 9) rfl (fun K hK => ?_)
        try simp only [List.getElem_toArray, List.getElem_cons_zero, List.getElem_cons_succ]
        go_simp
        refine hK.out _ _ (fun _ => hS0) ?_; clear hK K
        try simp only [Act.put, List.getElem_toArray, List.getElem_cons_zero, List.getElem_cons_succ, List.setIfInBounds_toArray, List.set_cons_zero, List.set_cons_succ]
        refine HeldBut.one (i := 10) (by kernel_rfl) ?_
        refine HeldBut.step (i := 10) rfl (fun K hK => ?_)
        try simp only [List.getElem_toArray, List.getElem_cons_zero, List.getElem_cons_succ]
        go_simp
        refine hK.out _ _ (fun h => (h (by simp)).elim) ?_; clear hK K
        try simp only [Act.put, List.getElem_toArray, List.getElem_cons_zero, List.getElem_cons_succ, List.setIfInBounds_toArray, List.set_cons_zero, List.set_cons_succ]
        refine HeldBut.done (by kernel_rfl) ?_ _
        have e9 := (Ext.refl [oo] w8).setCell (p := ⟨oo, 0, none⟩) (.inl (by simp)) (.slice a8 (rk.length + 1) c8)
        have HH := Lib.hid (And.intro (hX.trans' e9 (fun i hi => .inr (by simp at hi; omega))) (And.intro (e9.read hS0.1 (by simp; omega)) (And.intro (hB.ext e9 (by simp; omega)) (And.intro (hQ.set 0 (.slice a8 (rk.length + 1) c8)) (And.intro (own_ext hO8 e9 (fun k' hk' hm => by have := (hO8.lt k' hk').1; simp at hm; omega)) (And.intro (Nat.le_trans hW2 e9.size) hI2))))))
        clear hX hB hQ hO8 hI2 hS0 hO s7
        go_wp2_with (fail)
        obtain ⟨i1, i2, i3, i4, i5, i6, i7⟩ := HH.out
        refine ⟨⟨k + 1, rk ++ [⟨t.n, .slice b1 t.cols.length n1, .slice b2 t.keys.length n2⟩], .slice a8 (rk.length + 1) c8, by omega, by go_num, by simp; omega, i1, i2, i3, i4, ?_, i6, i7⟩, by simp [intOf]; omega⟩
        rw [List.length_append, List.length_singleton, rrows_append]
        exact i5
    · obtain rfl : k = l.length := by omega
      rw [List.take_length] at hI
      have r0 := hB.cell 0
      have zr := hB.frozen 0
      simp only [List.getElem?_cons_zero] at r0
      have hB8 := hB.set 0 (.slice av rk.length mv)
      have hE8 := (Ext.refl [rb] wr).setCell (p := ⟨rb, 0, none⟩) (.inl (by simp)) (.slice av rk.length mv)
      have hwW := hE.size
      have hOF := own_ext hO hE8 (fun k' hk' hm => by have := (hO.lt k' hk').1; simp at hm; omega)
      have HH := Lib.hid (And.intro (hX.trans' hE8 (fun i hi => .inr (by simp at hi; omega))) (And.intro hOF (Nat.le_trans hW2 hE8.size)))
      clear hOF hO
      go_wp2_with (fail)
      refine ret_cell Tryz.results50 rfl hB8 Tryz.underlying24 rfl cat_info rfl ⟨⟨_, rk, W2.heap.size, rfl, by omega, HH.out.2.2, HH.out.2.1, hI⟩, HH.out.1⟩
set_option maxRecDepth 100000 in
set_option maxHeartbeats 4000000 in
theorem With_any (w : World) (v : Value) (l : List Tab) (t : Tab) (a1 : Option Addr) (c1 : Nat) (a2 : Option Addr) (c2 : Nat) (oc ok : Nat) (hC : Ts w v l) (hl : l.length ≤ 20) (hcs : Cs w (.slice a1 t.cols.length c1) oc t.cols) (hks : Is w (.slice a2 t.keys.length c2) ok t.keys) :
    Calls Tryz.prog 27 #[KV v, TV t.n (.slice a1 t.cols.length c1) (.slice a2 t.keys.length c2)] w fun e w' => (∃ v', e = .returned (KV v') ∧ Ts w' v' (l ++ [t])) ∧ Ext [] w w' := by
  have hT0 : TIs [] w ⟨t.n, .slice a1 t.cols.length c1, .slice a2 t.keys.length c2⟩ t := ⟨rfl, ⟨oc, by simp, hcs⟩, ok, by simp, hks⟩
  have hwo := fun U (x : Ext [] w U) => Without_any w U x v l (-1) l.length hC hl (fun k hk => by omega)
  rw [List.eraseIdx_of_length_le (Nat.le_refl _)] at hwo
  obtain ⟨a, c, rfl⟩ := hC.shape
  have e1 := (Ext.refl [] w).alloc (.cells #[.slice a l.length c] 24)
  have c0 := new_cells w [.slice a l.length c] 24 0 _ rfl
  generalize hW1 : w.alloc (.cells #[.slice a l.length c] 24) = W1 at *
  have e2 := (Ext.refl [] W1).alloc (.cells #[.string t.n, .slice a1 t.cols.length c1, .slice a2 t.keys.length c2] 41)
  have hT := Blk.new W1 [.string t.n, .slice a1 t.cols.length c1, .slice a2 t.keys.length c2] 41
  have c0 := cells_ext e2 c0
  generalize hW2 : W1.alloc (.cells #[.string t.n, .slice a1 t.cols.length c1, .slice a2 t.keys.length c2] 41) = W2 at *
  have e3 := (Ext.refl [] W2).alloc (.cells #[.slice none 0 0] 24)
  have hR := Blk.new W2 [.slice none 0 0] 24
  have c0 := cells_ext e3 c0
  have hT := hT.ext e3 (by simp)
  have hX := (e1.trans e2).trans e3
  have hs1 := e1.size
  have hs2 := e2.size
  go_enter Tryz.func27, Tryz.ntmps27
  go_upto_region 1 with (fail)
  have hs3 := e3.size
  have hbR : W2.heap.size < (W2.alloc (.cells #[.slice none 0 0] 24)).heap.size := hR.lt
  generalize W2.alloc (.cells #[.slice none 0 0] 24) = W3 at *
  generalize hrb : W2.heap.size = rb at *
  generalize htb : W1.heap.size = tb at *
  have hbT := hT.lt
  go_upto_region 2 with (go_at_call 50; (with_reducible refine (hwo _ hX).mono ?_); rintro e w4 ⟨⟨v4, rk, base, rfl, hb1, hb2, hO4, hI4⟩, x4⟩; obtain ⟨a4, m4, rfl⟩ := sl_shape (Sl.of_own hO4).choose_spec.1)
  have e5 := (Ext.refl [] w4).alloc (.cells #[.slice a4 rk.length m4] 24)
  have hQ := Blk.new w4 [.slice a4 rk.length m4] 24
  have hO := own_ext hO4 e5 (by simp)
  have hR := (hR.ext x4 (by simp)).ext e5 (by simp)
  have hT := (hT.ext x4 (by simp)).ext e5 (by simp)
  have hX5 := (hX.trans x4).trans e5
  have hs4 := x4.size
  have hs5 := e5.size
  generalize w4.alloc (.cells #[.slice a4 rk.length m4] 24) = W5 at *
  generalize hoo : w4.heap.size = oo at *
  have hbQ := hQ.lt
  have d0 := hT.cell 0
  have d1 := hT.cell 1
  have d2 := hT.cell 2
  have v0 := hQ.cell 0
  simp only [List.getElem?_cons_zero, List.getElem?_cons_succ] at d0 d1 d2 v0
  have hrl : rk.length ≤ 20 := by rw [hI4.1]; exact hl
  have hlt : ∀ b' ∈ (Value.slice a4 rk.length m4).ownBlock.toList, base ≤ b' ∧ b' < oo := fun b' hb' => by have := hO4.lt b' (by simpa using hb'); rwa [hoo] at this
  have z0 := hQ.frozen 0
  have e6 := (Ext.refl [] W5).alloc (.cells #[.string t.n, .slice a1 t.cols.length c1, .slice a2 t.keys.length c2] 41)
  have hs6 := e6.size
  clear hO4
  go_upto_region 3 with (at_builtin; refine wpList_append_one TTab (by rfl) (.tmp 9) (.tmp 11) (by rfl) (by rfl) (own_alloc hO (.cells #[.string t.n, .slice a1 t.cols.length c1, .slice a2 t.keys.length c2] 41)) (by rfl) (Blk.new W5 [.string t.n, .slice a1 t.cols.length c1, .slice a2 t.keys.length c2] 41) rfl one3' (by unfold maxLen; omega) (by omega) (by rw [World.size_alloc]; omega) ?_; intro g cap w7 hO7 h7 hg; have hQ7 := (hQ.ext e6 (by simp)).ext h7 (fun hm => by have := (hlt _ hm).2; omega); have k7 := hQ7.cell 0; have z7 := hQ7.frozen 0; simp only [List.getElem?_cons_zero] at k7)
  have hX7 := (hX5.trans e6).trans' h7 (fun i hi => .inr (by have := (hlt _ hi).1; omega))
  have hR7 := (hR.ext e6 (by simp)).ext h7 (fun hm => by have := (hlt _ hm).1; omega)
  have e8 := (Ext.refl [oo] w7).setCell (p := ⟨oo, 0, none⟩) (.inl (by simp)) (.slice (some ⟨g, 0, none⟩) (rk.length + 1) cap)
  have hX8 := hX7.trans' e8 (fun i hi => .inr (by simp at hi; omega))
  have hgo : g ≠ oo := by
    rcases hg with h | h
    · have := (hlt g (by simp [h])).2; omega
    · rw [World.size_alloc] at h; omega
  have hO8 := own_ext hO7 e8 (fun k' hk' hm => by simp [Value.ownBlock] at hk' hm; omega)
  have hR8 := hR7.ext e8 (by simp; omega)
  have hQ8 := hQ7.set 0 (.slice (some ⟨g, 0, none⟩) (rk.length + 1) cap)
  have k8 := hQ8.cell 0
  have zr := hR8.frozen 0
  have r8 := hR8.cell 0
  simp only [List.set_cons_zero, List.getElem?_cons_zero] at k8 r8
  have hs7 := h7.size
  have hgb : base ≤ g := (hO7.lt g rfl).1
  have hs8 := e8.size
  clear hO7 hQ7 hQ hR7 hX7 hO k7 z7 z0 v0 hQ8 hR hT d0 d1 d2 h7 hg e8
  generalize w7.setCell ⟨oo, 0, none⟩ (.slice (some ⟨g, 0, none⟩) (rk.length + 1) cap) = W8 at *
  have hB9 := hR8.set 0 (.slice (some ⟨g, 0, none⟩) (rk.length + 1) cap)
  have e9 := (Ext.refl [rb] W8).setCell (p := ⟨rb, 0, none⟩) (.inl (by simp)) (.slice (some ⟨g, 0, none⟩) (rk.length + 1) cap)
  have hX9 := hX8.trans' e9 (fun i hi => .inr (by simp at hi; omega))
  have hO9 := own_ext hO8 e9 (fun k' hk' hm => by simp [Value.ownBlock] at hk' hm; omega)
  have hI9 := (hI4.append (RIs.one hT0)).keep hX9
  have hTE : Ts (W8.setCell ⟨rb, 0, none⟩ (.slice (some ⟨g, 0, none⟩) (rk.length + 1) cap)) (.slice (some ⟨g, 0, none⟩) (rk.length + 1) cap) (l ++ [t]) := by
    refine own_ts (base := base) (rk := rk ++ [⟨t.n, .slice a1 t.cols.length c1, .slice a2 t.keys.length c2⟩]) ?_ hI9 (Ext.refl _ _)
    rw [List.length_append, List.length_singleton, rrows_append]
    exact hO9
  have HH := Lib.hid (And.intro hTE hX9)
  clear hTE hO9 hO8 hI9
  go_wp2_with (fail)
  refine ret_cell Tryz.results27 rfl hB9 Tryz.underlying24 rfl cat_info rfl ⟨⟨_, rfl, HH.out.1⟩, HH.out.2⟩
end Go.Proofs.YtjmfcjidhmaibaaGreatDoor
