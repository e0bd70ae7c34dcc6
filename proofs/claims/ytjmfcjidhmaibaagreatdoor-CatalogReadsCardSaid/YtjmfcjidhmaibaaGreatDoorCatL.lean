
/-
  Add and Drop.
-/
import Derived.Test.YtjmfcjidhmaibaaGreatDoorCatK
namespace Go.Proofs.YtjmfcjidhmaibaaGreatDoor
open Go.RowKit
open Go.Lib hiding intOf
set_option linter.unusedVariables false

theorem areKeys_len {n : Int} : ∀ {l : List Int} {m : Int}, areKeys n m l = true → l = [] ∨ (l.length : Int) + m ≤ n
  | [], m, _ => .inl rfl
  | k :: r, m, h => by
    simp only [areKeys, Bool.and_eq_true, decide_eq_true_eq] at h
    obtain ⟨⟨h1, h2⟩, h3⟩ := h
    right
    rcases areKeys_len h3 with rfl | h4
    · simp; omega
    · simp only [List.length_cons, Int.natCast_add, Int.natCast_one]; omega
theorem tab_small {t : Tab} (h : isTab t = true) : t.cols.length ≤ 4 ∧ t.keys.length ≤ 4 := by
  unfold isTab at h
  simp only [Bool.and_eq_true, decide_eq_true_eq] at h
  obtain ⟨⟨_, ⟨_, h1⟩, _⟩, h2⟩ := h
  refine ⟨h1, ?_⟩
  rcases areKeys_len h2 with h3 | h3
  · rw [h3]; simp
  · omega
theorem cat_tab {l : List Tab} (h : isCat l = true) : ∀ t ∈ l, isTab t = true := by
  unfold isCat fitsL at h
  simp only [Bool.and_eq_true, decide_eq_true_eq] at h
  exact fun t ht => List.all_eq_true.1 h.2.2 t ht
theorem cat_len {l : List Tab} (h : isCat l = true) : l.length ≤ 4 := by
  unfold isCat at h
  simp only [Bool.and_eq_true, decide_eq_true_eq] at h
  exact h.1
/-- what Add says -/
def addE (l : List Tab) (t : Tab) : Int := if isCat l = false then 210 else if isTab t = false then 211 else if fnd (l.map Tab.n) t.n < l.length then 5 else if l.length = 4 then 6 else 0
def addL (l : List Tab) (t : Tab) : List Tab := if addE l t = 0 then l ++ [t] else []
/-- what Drop says -/
def dropE (l : List Tab) (name : ByteArray) : Int := if isCat l = false then 210 else if fnd (l.map Tab.n) name < l.length then 0 else 4
def dropL (l : List Tab) (name : ByteArray) : List Tab := if dropE l name = 0 then l.take (fnd (l.map Tab.n) name) ++ l.drop (fnd (l.map Tab.n) name + 1) else []
theorem rs_one (u : World) (r : Raw) (e : TypeId) (o : Obj) : Rs ((u.alloc (.cells #[.string r.n, r.c, r.k] e)).alloc o) (.slice (some ⟨u.heap.size, 0, none⟩) 1 1) u.heap.size [r] :=
  Sl.ext (Sl.lit u [.string r.n, r.c, r.k] e 3 1 rfl (by decide)) ((Ext.refl [] _).alloc _) (by simp)
theorem TsX.nil {X : List Nat} {w : World} (h : ∀ i ∈ X, i < w.heap.size) (w' : World) : TsX X w' (.slice none 0 0) [] := ⟨w.heap.size, [], fun hm => by have := h _ hm; omega, Sl.nil _ _ _, RIs.nil _ _⟩
theorem TsX.mono {X Y : List Nat} {w : World} {v : Value} {l : List Tab} (h : TsX X w v l) (hy : ∀ i ∈ Y, i ∈ X) : TsX Y w v l := by
  obtain ⟨ob, rs, h0, h1, h2⟩ := h
  exact ⟨ob, rs, fun hm => h0 (hy _ hm), h1, h2.mono hy⟩
/-- an error, and a catalog -/
abbrev CE (v : Value) (e : Int) : Value := .tuple #[KV v, .int .i64 e]
set_option maxRecDepth 100000 in
set_option maxHeartbeats 4000000 in
theorem Add_any (X : List Nat) (w : World) (hXX : ∀ i ∈ X, i < w.heap.size) (v : Value) (l : List Tab) (t : Tab) (a1 : Option Addr) (c1 : Nat) (a2 : Option Addr) (c2 : Nat) (oc ok : Nat) (hC : Ts w v l) (hcs : Cs w (.slice a1 t.cols.length c1) oc t.cols) (hks : Is w (.slice a2 t.keys.length c2) ok t.keys)
    (hb : TabsOK l) (hl : t.cols.length ≤ maxLen) (hk : t.keys.length ≤ maxLen) (hG : Glob w) (hll : l.length ≤ maxLen) :
    Calls Tryz.prog 13 #[KV v, TV t.n (.slice a1 t.cols.length c1) (.slice a2 t.keys.length c2)] w fun e w' => (∃ v', e = .returned (CE v' (addE l t)) ∧ TsX X w' v' (addL l t)) ∧ Ext [] w w' := by
  obtain ⟨a, c, rfl⟩ := hC.shape
  have e1 := (Ext.refl [] w).alloc (.cells #[.slice a l.length c] 24)
  have e2 := (Ext.refl [] (w.alloc (.cells #[.slice a l.length c] 24))).alloc (.cells #[.string t.n, .slice a1 t.cols.length c1, .slice a2 t.keys.length c2] 41)
  have e3 := (Ext.refl [] ((w.alloc (.cells #[.slice a l.length c] 24)).alloc (.cells #[.string t.n, .slice a1 t.cols.length c1, .slice a2 t.keys.length c2] 41))).alloc (.cells #[.slice none 0 0] 24)
  have hE := (e1.trans e2).trans e3
  have c0 := cells_ext (e2.trans e3) (new_cells w [.slice a l.length c] 24 0 _ rfl)
  have d0 := cells_ext e3 (new_cells (w.alloc (.cells #[.slice a l.length c] 24)) [.string t.n, .slice a1 t.cols.length c1, .slice a2 t.keys.length c2] 41 0 _ rfl)
  have d1 := cells_ext e3 (new_cells (w.alloc (.cells #[.slice a l.length c] 24)) [.string t.n, .slice a1 t.cols.length c1, .slice a2 t.keys.length c2] 41 1 _ rfl)
  have d2 := cells_ext e3 (new_cells (w.alloc (.cells #[.slice a l.length c] 24)) [.string t.n, .slice a1 t.cols.length c1, .slice a2 t.keys.length c2] 41 2 _ rfl)
  have hR := Blk.new ((w.alloc (.cells #[.slice a l.length c] 24)).alloc (.cells #[.string t.n, .slice a1 t.cols.length c1, .slice a2 t.keys.length c2] 41)) [.slice none 0 0] 24
  simp only [World.size_alloc] at d0 d1 d2 hR
  have hic := fun U (x : Ext [] (((w.alloc (.cells #[.slice a l.length c] 24)).alloc (.cells #[.string t.n, .slice a1 t.cols.length c1, .slice a2 t.keys.length c2] 41)).alloc (.cells #[.slice none 0 0] 24)) U) => isCatalog_any U _ l (hC.ext (hE.trans x)) (hG.ext (hE.trans x)) hb
  have hit := fun U (x : Ext [] (((w.alloc (.cells #[.slice a l.length c] 24)).alloc (.cells #[.string t.n, .slice a1 t.cols.length c1, .slice a2 t.keys.length c2] 41)).alloc (.cells #[.slice none 0 0] 24)) U) => isTable_any U t a1 c1 a2 c2 oc ok (hcs.ext (hE.trans x) (by simp)) (hks.ext (hE.trans x) (by simp)) hl hk (hG.ext (hE.trans x))
  have hfn := fun U (x : Ext [] (((w.alloc (.cells #[.slice a l.length c] 24)).alloc (.cells #[.string t.n, .slice a1 t.cols.length c1, .slice a2 t.keys.length c2] 41)).alloc (.cells #[.slice none 0 0] 24)) U) => Find_any U _ l t.n (hC.ext (hE.trans x)) hll
  by_cases g1 : isCat l = false
  · have he : addE l t = 210 := by unfold addE; rw [if_pos g1]
    have hL : addL l t = [] := by unfold addL; rw [he]; rfl
    rw [he, hL]
    rw [g1] at hic
    clear hit hfn he hL g1
    go_enter Tryz.func13, Tryz.ntmps13; go_upto_region 1 with (fail); generalize hWW : (((w.alloc (.cells #[.slice a l.length c] 24)).alloc (.cells #[.string t.n, .slice a1 t.cols.length c1, .slice a2 t.keys.length c2] 41)).alloc (.cells #[.slice none 0 0] 24)) = W at *; generalize hrb : w.heap.size + 1 + 1 = rb at *
    go_wp2_with (go_at_call 17; (with_reducible refine (hic _ (Ext.refl _ _)).mono ?_); rintro e u1 ⟨rfl, x1⟩; have t0 := cells_ext x1 d0; have t1 := cells_ext x1 d1; have t2 := cells_ext x1 d2; have r1 := hR.ext x1 (by simp); have z1 := r1.frozen 0; have y1 := r1.cell 0; simp only [List.getElem?_cons_zero] at y1)
    refine ret_cell_tmp Tryz.results13 rfl (Blk.set r1 0 (.slice none 0 0)) Tryz.underlying24 rfl cat_info rfl ⟨⟨_, rfl, TsX.nil hXX _⟩, (hE.trans (x1)).trans' ((Ext.refl [rb] _).setCell (p := ⟨rb, 0, none⟩) (.inl (by simp)) (.slice none 0 0)) (fun i hi => .inr (by simp at hi; omega))⟩
  · have g1' : isCat l = true := by simpa using g1
    rw [g1'] at hic
    by_cases g2 : isTab t = false
    · have he : addE l t = 211 := by unfold addE; rw [if_neg g1, if_pos g2]
      have hL : addL l t = [] := by unfold addL; rw [he]; rfl
      rw [he, hL]
      rw [g2] at hit
      clear hfn he hL g1 g1' g2
      go_enter Tryz.func13, Tryz.ntmps13; go_upto_region 1 with (fail); generalize hWW : (((w.alloc (.cells #[.slice a l.length c] 24)).alloc (.cells #[.string t.n, .slice a1 t.cols.length c1, .slice a2 t.keys.length c2] 41)).alloc (.cells #[.slice none 0 0] 24)) = W at *; generalize hrb : w.heap.size + 1 + 1 = rb at *
      go_wp2_with (first | (go_at_call 17; (with_reducible refine (hic _ (Ext.refl _ _)).mono ?_); rintro e u1 ⟨rfl, x1⟩; have t0 := cells_ext x1 d0; have t1 := cells_ext x1 d1; have t2 := cells_ext x1 d2; have r1 := hR.ext x1 (by simp); have z1 := r1.frozen 0; have y1 := r1.cell 0; simp only [List.getElem?_cons_zero] at y1) | (go_at_call 29; (with_reducible refine (hit _ x1).mono ?_); rintro e u2 ⟨rfl, x2⟩; have s0 := cells_ext x2 t0; have s1 := cells_ext x2 t1; have s2 := cells_ext x2 t2; have cc2 := cells_ext (x1.trans x2) c0; have r2 := r1.ext x2 (by simp); have z2 := r2.frozen 0; have y2 := r2.cell 0; simp only [List.getElem?_cons_zero] at y2))
      refine ret_cell_tmp Tryz.results13 rfl (Blk.set r2 0 (.slice none 0 0)) Tryz.underlying24 rfl cat_info rfl ⟨⟨_, rfl, TsX.nil hXX _⟩, (hE.trans (x1.trans x2)).trans' ((Ext.refl [rb] _).setCell (p := ⟨rb, 0, none⟩) (.inl (by simp)) (.slice none 0 0)) (fun i hi => .inr (by simp at hi; omega))⟩
    · have g2' : isTab t = true := by simpa using g2
      rw [g2'] at hit
      by_cases g3 : fnd (l.map Tab.n) t.n < l.length
      · have he : addE l t = 5 := by unfold addE; rw [if_neg g1, if_neg g2, if_pos g3]
        have hL : addL l t = [] := by unfold addL; rw [he]; rfl
        rw [he, hL]
        rw [decide_eq_true g3] at hfn
        generalize fnd0 l.length (fnd (l.map Tab.n) t.n) = m at *
        clear he hL g1 g1' g2 g2' g3
        go_enter Tryz.func13, Tryz.ntmps13; go_upto_region 1 with (fail); generalize hWW : (((w.alloc (.cells #[.slice a l.length c] 24)).alloc (.cells #[.string t.n, .slice a1 t.cols.length c1, .slice a2 t.keys.length c2] 41)).alloc (.cells #[.slice none 0 0] 24)) = W at *; generalize hrb : w.heap.size + 1 + 1 = rb at *
        go_wp2_with (first | (go_at_call 17; (with_reducible refine (hic _ (Ext.refl _ _)).mono ?_); rintro e u1 ⟨rfl, x1⟩; have t0 := cells_ext x1 d0; have t1 := cells_ext x1 d1; have t2 := cells_ext x1 d2; have r1 := hR.ext x1 (by simp); have z1 := r1.frozen 0; have y1 := r1.cell 0; simp only [List.getElem?_cons_zero] at y1) | (go_at_call 29; (with_reducible refine (hit _ x1).mono ?_); rintro e u2 ⟨rfl, x2⟩; have s0 := cells_ext x2 t0; have s1 := cells_ext x2 t1; have s2 := cells_ext x2 t2; have cc2 := cells_ext (x1.trans x2) c0; have r2 := r1.ext x2 (by simp); have z2 := r2.frozen 0; have y2 := r2.cell 0; simp only [List.getElem?_cons_zero] at y2) | (go_at_call 30; (with_reducible refine (hfn _ (x1.trans x2)).mono ?_); rintro e u3 ⟨rfl, x3⟩; have q0 := cells_ext x3 s0; have q1 := cells_ext x3 s1; have q2 := cells_ext x3 s2; have c3 := cells_ext x3 cc2; have r3 := r2.ext x3 (by simp); have z3 := r3.frozen 0; have y3 := r3.cell 0; simp only [List.getElem?_cons_zero] at y3))
        refine ret_cell_tmp Tryz.results13 rfl (Blk.set r3 0 (.slice none 0 0)) Tryz.underlying24 rfl cat_info rfl ⟨⟨_, rfl, TsX.nil hXX _⟩, (hE.trans ((x1.trans x2).trans x3)).trans' ((Ext.refl [rb] _).setCell (p := ⟨rb, 0, none⟩) (.inl (by simp)) (.slice none 0 0)) (fun i hi => .inr (by simp at hi; omega))⟩
      · rw [decide_eq_false g3] at hfn
        by_cases g4 : l.length = 4
        · have he : addE l t = 6 := by unfold addE; rw [if_neg g1, if_neg g2, if_neg g3, if_pos g4]
          have hL : addL l t = [] := by unfold addL; rw [he]; rfl
          rw [he, hL]
          generalize fnd0 l.length (fnd (l.map Tab.n) t.n) = m at *
          have q4 : ((l.length : Int) == 4) = true := by simp; omega
          clear he hL g1 g1' g2 g2' g3 g4
          go_enter Tryz.func13, Tryz.ntmps13; go_upto_region 1 with (fail); generalize hWW : (((w.alloc (.cells #[.slice a l.length c] 24)).alloc (.cells #[.string t.n, .slice a1 t.cols.length c1, .slice a2 t.keys.length c2] 41)).alloc (.cells #[.slice none 0 0] 24)) = W at *; generalize hrb : w.heap.size + 1 + 1 = rb at *
          go_wp2_with (first | (go_at_call 17; (with_reducible refine (hic _ (Ext.refl _ _)).mono ?_); rintro e u1 ⟨rfl, x1⟩; have t0 := cells_ext x1 d0; have t1 := cells_ext x1 d1; have t2 := cells_ext x1 d2; have r1 := hR.ext x1 (by simp); have z1 := r1.frozen 0; have y1 := r1.cell 0; simp only [List.getElem?_cons_zero] at y1) | (go_at_call 29; (with_reducible refine (hit _ x1).mono ?_); rintro e u2 ⟨rfl, x2⟩; have s0 := cells_ext x2 t0; have s1 := cells_ext x2 t1; have s2 := cells_ext x2 t2; have cc2 := cells_ext (x1.trans x2) c0; have r2 := r1.ext x2 (by simp); have z2 := r2.frozen 0; have y2 := r2.cell 0; simp only [List.getElem?_cons_zero] at y2) | (go_at_call 30; (with_reducible refine (hfn _ (x1.trans x2)).mono ?_); rintro e u3 ⟨rfl, x3⟩; have q0 := cells_ext x3 s0; have q1 := cells_ext x3 s1; have q2 := cells_ext x3 s2; have c3 := cells_ext x3 cc2; have r3 := r2.ext x3 (by simp); have z3 := r3.frozen 0; have y3 := r3.cell 0; simp only [List.getElem?_cons_zero] at y3))
          refine ret_cell_tmp Tryz.results13 rfl (Blk.set r3 0 (.slice none 0 0)) Tryz.underlying24 rfl cat_info rfl ⟨⟨_, rfl, TsX.nil hXX _⟩, (hE.trans ((x1.trans x2).trans x3)).trans' ((Ext.refl [rb] _).setCell (p := ⟨rb, 0, none⟩) (.inl (by simp)) (.slice none 0 0)) (fun i hi => .inr (by simp at hi; omega))⟩
        · have he : addE l t = 0 := by unfold addE; rw [if_neg g1, if_neg g2, if_neg g3, if_neg g4]
          have hL : addL l t = l ++ [t] := by unfold addL; rw [he]; rfl
          rw [he, hL]
          generalize fnd0 l.length (fnd (l.map Tab.n) t.n) = m at *
          have q4 : ((l.length : Int) == 4) = false := by simp; omega
          have hl4 := cat_len g1'
          have hts := tab_small g2'
          have hbb : ∀ u ∈ l ++ [t], u.cols.length ≤ 1000 ∧ u.keys.length ≤ 1000 := by
            intro u hu
            rw [List.mem_append] at hu
            rcases hu with hu | hu
            · have := tab_small (cat_tab g1' u hu); omega
            · obtain rfl : u = t := by simpa using hu
              omega
          obtain ⟨ob, rs, hRs, hRI⟩ := hC
          have hrl := hRI.1
          have hraw : TIs [] w ⟨t.n, .slice a1 t.cols.length c1, .slice a2 t.keys.length c2⟩ t := ⟨rfl, ⟨oc, by simp, hcs⟩, ok, by simp, hks⟩
          have hla := fun U (x : Ext [] (((w.alloc (.cells #[.slice a l.length c] 24)).alloc (.cells #[.string t.n, .slice a1 t.cols.length c1, .slice a2 t.keys.length c2] 41)).alloc (.cells #[.slice none 0 0] 24)) U) (hr : w.heap.size + 1 + 1 < U.heap.size) b v2 o2 (h2 : Rs U v2 o2 [⟨t.n, .slice a1 t.cols.length c1, .slice a2 t.keys.length c2⟩]) (k1 : U.cell? ⟨b, 0, none⟩ = some (.slice a l.length c)) (k2 : U.cell? ⟨b, 1, none⟩ = some v2) =>
            laid_any ((w.heap.size + 1 + 1) :: X) U (by intro i hi; rcases List.mem_cons.1 hi with rfl | hi; exact hr; have := hXX i hi; omega) b (.slice a l.length c) v2 ob o2 rs _ l [t] (hRs.ext (hE.trans x) (by simp)) h2 (hRI.keep (hE.trans x)) ((RIs.one hraw).keep (hE.trans x)) (by omega) (by simp) hbb k1 k2
          clear he hL g1 g1' g2 g2' g3 g4 hbb hraw hRs hRI
          generalize l ++ [t] = L at *
          go_enter Tryz.func13, Tryz.ntmps13; go_upto_region 1 with (fail); generalize hWW : (((w.alloc (.cells #[.slice a l.length c] 24)).alloc (.cells #[.string t.n, .slice a1 t.cols.length c1, .slice a2 t.keys.length c2] 41)).alloc (.cells #[.slice none 0 0] 24)) = W at *; generalize hrb : w.heap.size + 1 + 1 = rb at *
          go_wp2_with (first
            | (go_at_call 17; (with_reducible refine (hic _ (Ext.refl _ _)).mono ?_); rintro e u1 ⟨rfl, x1⟩; have t0 := cells_ext x1 d0; have t1 := cells_ext x1 d1; have t2 := cells_ext x1 d2; have r1 := hR.ext x1 (by simp); have z1 := r1.frozen 0; have y1 := r1.cell 0; simp only [List.getElem?_cons_zero] at y1)
            | (go_at_call 29; (with_reducible refine (hit _ x1).mono ?_); rintro e u2 ⟨rfl, x2⟩; have s0 := cells_ext x2 t0; have s1 := cells_ext x2 t1; have s2 := cells_ext x2 t2; have cc2 := cells_ext (x1.trans x2) c0; have r2 := r1.ext x2 (by simp); have z2 := r2.frozen 0; have y2 := r2.cell 0; simp only [List.getElem?_cons_zero] at y2)
            | (go_at_call 30; (with_reducible refine (hfn _ (x1.trans x2)).mono ?_); rintro e u3 ⟨rfl, x3⟩; have q0 := cells_ext x3 s0; have q1 := cells_ext x3 s1; have q2 := cells_ext x3 s2; have c3 := cells_ext x3 cc2; have r3 := r2.ext x3 (by simp); have z3 := r3.frozen 0; have y3 := r3.cell 0; simp only [List.getElem?_cons_zero] at y3)
            | (go_at_call 31; (with_reducible refine (hla _ (Ext.alloc (Ext.alloc ((x1.trans x2).trans x3) _) _) (by have := r3.lt; simp; omega) _ _ u3.heap.size (rs_one u3 ⟨t.n, .slice a1 t.cols.length c1, .slice a2 t.keys.length c2⟩ _ _) (by have := new_cells (u3.alloc (.cells #[.string t.n, .slice a1 t.cols.length c1, .slice a2 t.keys.length c2] 41)) [.slice a l.length c, .slice (some ⟨u3.heap.size, 0, none⟩) 1 1] 22 0 _ rfl; rwa [World.size_alloc] at this) (by have := new_cells (u3.alloc (.cells #[.string t.n, .slice a1 t.cols.length c1, .slice a2 t.keys.length c2] 41)) [.slice a l.length c, .slice (some ⟨u3.heap.size, 0, none⟩) 1 1] 22 1 _ rfl; rwa [World.size_alloc] at this)).mono ?_); rintro e u4 ⟨⟨v4, rfl, hT⟩, x4⟩; obtain ⟨a4, m4, rfl⟩ := hT.ts.shape; have x4 := (((Ext.refl [] u3).alloc _).alloc _).trans x4; have r4 := r3.ext x4 (by simp); have z4 := r4.frozen 0; have y4 := r4.cell 0; simp only [List.getElem?_cons_zero] at y4))
          refine ret_cell_tmp Tryz.results13 rfl (Blk.set r4 0 (.slice a4 L.length m4)) Tryz.underlying24 rfl cat_info rfl ⟨⟨_, rfl, ?_⟩, (hE.trans (((x1.trans x2).trans x3).trans x4)).trans' ((Ext.refl [rb] _).setCell (p := ⟨rb, 0, none⟩) (.inl (by simp)) (.slice a4 L.length m4)) (fun i hi => .inr (by simp at hi; omega))⟩
          exact (hT.ext ((Ext.refl (rb :: X) _).setCell (p := ⟨rb, 0, none⟩) (.inl (by simp)) (.slice a4 L.length m4))).mono (fun i hi => List.mem_cons_of_mem _ hi)

theorem Sl.head {w : World} {ob off cap size n : Nat} {xs : List Value} (h : Sl w (.slice (some ⟨ob, off, none⟩) n cap) ob size n xs) (k : Nat) (hk : k ≤ n) : Sl w (.slice (some ⟨ob, off, none⟩) k cap) ob size k (xs.take (k * size)) := by
  have hm := Nat.mul_le_mul_right size hk
  refine ⟨by rw [List.length_take, h.1]; omega, ?_⟩
  rcases h.2 with ⟨h1, h2⟩ | ⟨off', sp, cap', h1, h2, h3, hsp, h4⟩
  · simp at h1
  · simp only [Value.slice.injEq, Option.some.injEq, Addr.mk.injEq, true_and] at h1
    obtain ⟨⟨rfl, rfl⟩, rfl⟩ := h1
    refine .inr ⟨off, none, cap, rfl, by omega, h3, .inr rfl, fun j u hu => h4 j u ?_⟩
    rw [List.getElem?_take] at hu
    split at hu
    · exact hu
    · cases hu
theorem Sl.tail {w : World} {ob off cap size n : Nat} {xs : List Value} (h : Sl w (.slice (some ⟨ob, off, none⟩) n cap) ob size n xs) (k : Nat) (hk : k ≤ n) : ∃ a2, sliced (some ⟨ob, off, none⟩) k n cap size = .slice a2 (n - k) (cap - k) ∧ Sl w (.slice a2 (n - k) (cap - k)) ob size (n - k) (xs.drop (k * size)) := by
  refine ⟨_, rfl, by rw [List.length_drop, h.1, Nat.sub_mul], ?_⟩
  rcases h.2 with ⟨h1, h2⟩ | ⟨off', sp, cap', h1, h2, h3, hsp, h4⟩
  · simp at h1
  · simp only [Value.slice.injEq, Option.some.injEq, Addr.mk.injEq, true_and] at h1
    obtain ⟨⟨rfl, rfl⟩, rfl⟩ := h1
    by_cases hc : cap = k
    · refine .inr ⟨off, none, cap - k, by rw [if_pos hc], by omega, by omega, .inr rfl, fun j u hu => ?_⟩
      have : (xs.drop (k * size)).length = 0 := by rw [List.length_drop, h.1]; have : n = k := by omega
                                                   subst this; omega
      rw [List.eq_nil_of_length_eq_zero this] at hu
      simp at hu
    · refine .inr ⟨off + k * size, none, cap - k, by rw [if_neg hc]; simp [add_off], by omega, by omega, .inr rfl, fun j u hu => ?_⟩
      rw [List.getElem?_drop] at hu
      have := h4 _ u hu
      rwa [← Nat.add_assoc] at this
theorem rrows_take (l : List Raw) (k : Nat) : (rrows l).take (k * 3) = rrows (l.take k) := by
  by_cases hk : k ≤ l.length
  · conv => lhs; rw [← List.take_append_drop k l, rrows_append]
    rw [List.take_left' (by rw [rrows_length, List.length_take]; omega)]
  · rw [List.take_of_length_le (by rw [rrows_length]; omega), List.take_of_length_le (by omega)]
theorem rrows_drop (l : List Raw) (k : Nat) : (rrows l).drop (k * 3) = rrows (l.drop k) := by
  by_cases hk : k ≤ l.length
  · conv => lhs; rw [← List.take_append_drop k l, rrows_append]
    rw [List.drop_left' (by rw [rrows_length, List.length_take]; omega)]
  · rw [List.drop_of_length_le (by rw [rrows_length]; omega), List.drop_of_length_le (by omega)]
    rfl
theorem keepX {X : List Nat} {W w w' : World} {b0 o0 : Nat} {v0 : Value} (h : w.cell? ⟨b0, o0, none⟩ = some v0 ∧ Ext X W w) (e : Ext [] w w') : w'.cell? ⟨b0, o0, none⟩ = some v0 ∧ Ext X W w' := ⟨e.read h.1 (by simp), h.2.trans (e.mono (by simp))⟩
theorem keepS {W w : World} {b0 o0 rb : Nat} {v0 : Value} (hne : b0 ≠ rb) (h : w.cell? ⟨b0, o0, none⟩ = some v0 ∧ Ext [rb] W w) (v : Value) : (w.setCell ⟨rb, 0, none⟩ v).cell? ⟨b0, o0, none⟩ = some v0 ∧ Ext [rb] W (w.setCell ⟨rb, 0, none⟩ v) :=
  ⟨((Ext.refl [rb] w).setCell (p := ⟨rb, 0, none⟩) (.inl (by simp)) v).read h.1 (by simpa using hne), h.2.setCell (.inl (by simp)) v⟩
theorem new_cells_drew (w : World) (l : List Value) (e : TypeId) (i : Nat) (u : Value) (h : l[i]? = some u) : (w.alloc (.cells l.toArray e)).drew.cell? ⟨w.heap.size, i, none⟩ = some u := new_cells w l e i u h
end Go.Proofs.YtjmfcjidhmaibaaGreatDoor
