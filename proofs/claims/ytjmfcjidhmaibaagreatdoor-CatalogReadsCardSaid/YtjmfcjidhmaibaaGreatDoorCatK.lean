
/-
  A catalog laid anew: laid, Add, Drop, Same.
-/
import Derived.Test.YtjmfcjidhmaibaaGreatDoorCatJ
namespace Go.Proofs.YtjmfcjidhmaibaaGreatDoor
open Go.RowKit
open Go.Lib hiding intOf
set_option linter.unusedVariables false

theorem rrows_set1 : ∀ (rs : List Raw) (rest : List Value) (k : Nat) (n : ByteArray) (c c' kk : Value), rs[k]? = some ⟨n, c, kk⟩ → (rrows rs ++ rest).set (k * 3 + 1) c' = rrows (rs.set k ⟨n, c', kk⟩) ++ rest
  | [], rest, k, n, c, c', kk, h => by simp at h
  | r :: rs, rest, 0, n, c, c', kk, h => by
    obtain rfl : r = ⟨n, c, kk⟩ := by simpa using h
    simp [rrows, Raw.row]
  | r :: rs, rest, k + 1, n, c, c', kk, h => by
    have := rrows_set1 rs rest k n c c' kk (by simpa using h)
    rw [List.set_cons_succ, rrows, rrows, List.append_assoc, List.append_assoc, ← this, show (k + 1) * 3 + 1 = r.row.length + (k * 3 + 1) by simp [Raw.row]; omega, List.set_append_right _ _ (by omega), Nat.add_sub_cancel_left]
theorem rrows_set2 : ∀ (rs : List Raw) (rest : List Value) (k : Nat) (n : ByteArray) (c kk kk' : Value), rs[k]? = some ⟨n, c, kk⟩ → (rrows rs ++ rest).set (k * 3 + 2) kk' = rrows (rs.set k ⟨n, c, kk'⟩) ++ rest
  | [], rest, k, n, c, kk, kk', h => by simp at h
  | r :: rs, rest, 0, n, c, kk, kk', h => by
    obtain rfl : r = ⟨n, c, kk⟩ := by simpa using h
    simp [rrows, Raw.row]
  | r :: rs, rest, k + 1, n, c, kk, kk', h => by
    have := rrows_set2 rs rest k n c kk kk' (by simpa using h)
    rw [List.set_cons_succ, rrows, rrows, List.append_assoc, List.append_assoc, ← this, show (k + 1) * 3 + 2 = r.row.length + (k * 3 + 2) by simp [Raw.row]; omega, List.set_append_right _ _ (by omega), Nat.add_sub_cancel_left]
theorem own_blk {w : World} {base e size n : Nat} {v : Value} {xs : List Value} (h : w.ownsRow base e size v n xs) : (v = .slice none 0 0 ∧ n = 0) ∨ ∃ g cap rest, v = .slice (some ⟨g, 0, none⟩) n cap ∧ base ≤ g ∧ Blk w g e (xs ++ rest) ∧ n ≤ cap ∧ cap ≤ maxLen ∧ (xs ++ rest).length = cap * size := by
  rcases h.2 with h2 | ⟨g, cap, cur, rfl, hb, hg, hn, hc, hs, hx⟩
  · exact .inl h2
  · refine .inr ⟨g, cap, cur.toList.drop (n * size), rfl, hb, ?_, hn, hc, ?_⟩
    · unfold Blk
      have : (xs ++ cur.toList.drop (n * size)).toArray = cur := by
        rw [← hx, List.take_append_drop]
      rw [this]; exact hg
    · rw [← hx, List.take_append_drop]; simpa using hs
theorem blk_row {w : World} {b : Nat} {e : TypeId} {rs : List Raw} {rest : List Value} (h : Blk w b e (rrows rs ++ rest)) (k : Nat) (r : Raw) (hr : rs[k]? = some r) :
    w.cell? ⟨b, k * 3, none⟩ = some (.string r.n) ∧ w.cell? ⟨b, k * 3 + 1, none⟩ = some r.c ∧ w.cell? ⟨b, k * 3 + 2, none⟩ = some r.k := by
  have hlt := (List.getElem?_eq_some_iff.1 hr).1
  have hc : ∀ j, j < 3 → w.cell? ⟨b, k * 3 + j, none⟩ = r.row[j]? := fun j hj => by
    rw [h.cell, List.getElem?_append_left (by rw [rrows_length]; omega), rrows_at rs k r hr j hj]
  exact ⟨hc 0 (by decide), hc 1 (by decide), hc 2 (by decide)⟩
/-- a slice of the head of a block -/
theorem blk_rs {w : World} {b : Nat} {e : TypeId} {rs : List Raw} {rest : List Value} {cap : Nat} (h : Blk w b e (rrows rs ++ rest)) (hl : (rrows rs ++ rest).length = cap * 3) (hn : rs.length ≤ cap) (hc : cap ≤ maxLen) : Rs w (.slice (some ⟨b, 0, none⟩) rs.length cap) b rs := by
  have := Blk.sl h hl hn hc
  rwa [List.take_left' (by rw [rrows_length])] at this
theorem Sl.ext_new {X : List Nat} {w w' : World} {v : Value} {ob size n : Nat} {xs : List Value} (h : Sl w v ob size n xs) (he : Ext X w w') (hx : ∀ i ∈ X, w.heap.size ≤ i) : Sl w' v ob size n xs := by
  refine ⟨h.1, ?_⟩
  rcases h.2 with h2 | ⟨off, sp, cap, rfl, h1, h2, hsp, h3⟩
  · exact .inl h2
  · refine .inr ⟨off, sp, cap, rfl, h1, h2, hsp, fun j u hu => he.read (h3 j u hu) fun hm => ?_⟩
    have := World.block_lt_of_cell? _ _ (h3 j u hu)
    have := hx _ hm
    dsimp only at *
    omega
/-- as Ts, and it lies outside of X -/
def TsX (X : List Nat) (w : World) (v : Value) (l : List Tab) : Prop := ∃ ob rs, ob ∉ X ∧ Rs w v ob rs ∧ RIs X w rs l
theorem TsX.ext {X : List Nat} {w w' : World} {v : Value} {l : List Tab} (h : TsX X w v l) (he : Ext X w w') : TsX X w' v l := by
  obtain ⟨ob, rs, h0, h1, h2⟩ := h
  exact ⟨ob, rs, h0, h1.ext he h0, h2.ext he⟩
theorem TsX.keep {X : List Nat} {w w' : World} {v : Value} {l : List Tab} (h : TsX X w v l) (he : Ext [] w w') : TsX X w' v l := by
  obtain ⟨ob, rs, h0, h1, h2⟩ := h
  exact ⟨ob, rs, h0, h1.ext he (by simp), h2.keep he⟩
theorem TsX.ts {X : List Nat} {w : World} {v : Value} {l : List Tab} (h : TsX X w v l) : Ts w v l := by
  obtain ⟨ob, rs, h0, h1, h2⟩ := h
  exact ⟨ob, rs, h1, h2.mono (by simp)⟩
/-- the end of a function whose result is a struct in memory -/
theorem ret_cell {P : Program} {fn : Func} {R : Ending → World → Prop} {a : Act} {w : World} {p : Tmp} {ty t : TypeId} {g : Nat} {cs : List Value} {d : TypeDesc}
    (hres : fn.results = #[.cell p ty]) (hp : a.tmps.getD p undef = .pointer (some ⟨g, 0, none⟩)) (hg : Blk w g t cs) (hu : P.underlying ty = some d)
    (hd : (match d with | .struct _ | .array _ _ => true | _ => false) = true) (hi : (P.info? ty).map (·.size) = some cs.length) (hdf : a.defers = [])
    (hR : R (.returned (.agg cs.toArray)) w) : bodyPost P fn R .ret a w :=
  bodyPost_ret (results_cell_row hres _ _ g t cs.toArray (0, 0) d hp hg hu hd (by simpa using hi)) hdf hR
theorem cat_info : (Tryz.prog.info? 24).map (·.size) = some 1 := by kernel_rfl
theorem tab_info : (Tryz.prog.info? 41).map (·.size) = some 3 := by kernel_rfl
set_option maxRecDepth 100000 in
set_option maxHeartbeats 2000000 in
theorem laid_any (X : List Nat) (w : World) (hXX : ∀ i ∈ X, i < w.heap.size) (b : Nat) (v1 v2 : Value) (o1 o2 : Nat) (rs1 rs2 : List Raw) (l1 l2 : List Tab) (h1 : Rs w v1 o1 rs1) (h2 : Rs w v2 o2 rs2) (r1 : RIs [] w rs1 l1) (r2 : RIs [] w rs2 l2) (n1 : rs1.length ≤ 100) (n2 : rs2.length ≤ 100)
    (hb : ∀ t ∈ l1 ++ l2, t.cols.length ≤ 1000 ∧ t.keys.length ≤ 1000)
    (c1 : w.cell? ⟨b, 0, none⟩ = some v1) (c2 : w.cell? ⟨b, 1, none⟩ = some v2) :
    Calls Tryz.prog 31 #[.slice (some ⟨b, 0, none⟩) 2 2] w fun e w' => (∃ v', e = .returned (KV v') ∧ TsX X w' v' (l1 ++ l2)) ∧ Ext [] w w' := by
  have hE0 := (Ext.refl [] w).alloc (.cells #[.slice none 0 0] 24)
  have hR := Blk.new w [.slice none 0 0] 24
  have hc := concat_tab _ b v1 v2 o1 o2 rs1 rs2 l1 l2 (h1.ext hE0 (by simp)) (h2.ext hE0 (by simp)) (r1.keep hE0) (r2.keep hE0) n1 n2 (cells_ext hE0 c1) (cells_ext hE0 c2)
  have hr := (r1.keep hE0).append (r2.keep hE0)
  have hn : (rs1 ++ rs2).length ≤ 200 := by rw [List.length_append]; omega
  have hrl := hR.lt
  have hr0 := Nat.le_refl w.heap.size
  clear h1 h2 r1 r2 n1 n2 c1 c2
  generalize rs1 ++ rs2 = rs at *
  generalize l1 ++ l2 = l at *
  go_enter Tryz.func31, Tryz.ntmps31
  go_upto_region 1 with (fail)
  generalize w.alloc (.cells #[.slice none 0 0] 24) = w0 at *
  generalize hrb : w.heap.size = rb at hR hrl ⊢
  go_wp2_with (go_at_call 56; (with_reducible refine hc.mono ?_); rintro e w1 ⟨⟨v, rfl, hO⟩, x1⟩; clear hc hr0; rcases own_blk hO with ⟨rfl, hn0⟩ | ⟨g, cap, rest, rfl, hg, hB, hcap, hmax, hlen⟩)
  · obtain rfl : rs = [] := List.eq_nil_of_length_eq_zero hn0
    obtain rfl : l = [] := List.eq_nil_of_length_eq_zero hr.1.symm
    clear hO hr hn hn0 hb
    have hR1 := hR.ext x1 (by simp)
    go_loopw [10] (fun i wr => i = .int .i64 0 ∧ wr = w1) (fun _ _ => 0)
    case atStart => exact ⟨rfl, rfl⟩
    case round =>
      obtain ⟨rfl, rfl⟩ := hrel
      have hS := hR1.set 0 (.slice none 0 0)
      have hE1 := (Ext.refl [rb] wr).setCell (p := ⟨rb, 0, none⟩) (.inl (by simp)) (.slice none 0 0)
      have hz := hR1.frozen 0
      have hc0 := hR1.cell 0
      simp only [List.getElem?_cons_zero] at hc0
      go_wp2_with (fail)
      refine ret_cell Tryz.results31 rfl hS Tryz.underlying24 rfl cat_info rfl ⟨⟨_, rfl, w.heap.size, [], fun h => by have := hXX _ h; omega, Sl.nil _ _ _, RIs.nil _ _⟩, (hE0.trans x1).trans' hE1 (fun i hi => .inr (by simp at hi; omega))⟩
  · have hB0 := hB
    have hgw := hB.lt
    have hgX : ∀ i ∈ [g], w0.heap.size ≤ i := by
      intro i hi
      simp at hi
      omega
    clear hO
    go_loopw [10] (fun i wr => ∃ (k : Nat) (rk : List Raw), k ≤ rs.length ∧ i = .int .i64 k ∧ rk.length = rs.length ∧ Blk wr g 41 (rrows rk ++ rest) ∧ Ext [] w0 wr ∧ Hid ((∀ (j : Nat) r t, j < k → rk[j]? = some r → l[j]? = some t → TIs (g :: rb :: X) wr r t) ∧ (∀ j, k ≤ j → rk[j]? = rs[j]?))) (fun i _ => rs.length - (intOf i).toNat)
    case atStart => exact ⟨0, rs, by omega, rfl, rfl, hB, x1, ⟨fun j r t h => by omega, fun j _ => rfl⟩⟩
    case round =>
      clear x1 hB hB0
      obtain ⟨k, rk, hk, rfl, hrk, hB, hX, hI⟩ := hrel
      by_cases hlt : k < rs.length
      · have hx : rs[k]? = some rs[k] := List.getElem?_eq_getElem hlt
        have ht : l[k]? = some (l[k]'(by rw [← hr.1]; exact hlt)) := List.getElem?_eq_getElem _
        generalize l[k]'(by rw [← hr.1]; exact hlt) = t at *
        generalize rs[k] = r at *
        have hT := hr.2 k r t hx ht
        obtain ⟨a1, m1, a2, m2, rfl⟩ := hT.shape
        obtain ⟨-, ⟨oc, -, hcs⟩, ok, -, hks⟩ := hT
        have hbt := hb t (List.mem_of_getElem? ht)
        have hxk : rk[k]? = some ⟨t.n, .slice a1 t.cols.length m1, .slice a2 t.keys.length m2⟩ := by rw [hI.out.2 k (Nat.le_refl _), hx]
        obtain ⟨c0, c1, c2⟩ := blk_row hB k _ hxk
        dsimp only at c0 c1 c2 hcs hks
        have hgr := hB.lt
        have hE := (Ext.refl [] wr).alloc (.cells #[.string t.n, .slice a1 t.cols.length m1, .slice a2 t.keys.length m2] 41)
        have d1 := new_cells wr [.string t.n, .slice a1 t.cols.length m1, .slice a2 t.keys.length m2] 41 1 _ rfl
        have d2 := new_cells wr [.string t.n, .slice a1 t.cols.length m1, .slice a2 t.keys.length m2] 41 2 _ rfl
        have hBW := hB.ext hE (by simp)
        go_upto_region 5 with (fail)
        generalize wr.alloc (.cells #[.string t.n, .slice a1 t.cols.length m1, .slice a2 t.keys.length m2] 41) = W at *
        generalize hbs : wr.heap.size = bt at *
        have hbg : g ≠ bt := by omega
        have hgW := hBW.lt
        have cc := fun Wx (x : Ext [] w0 Wx) => clone_col Wx _ oc t.cols (Cs.ext hcs x (by simp)) hbt.1
        have ci := fun Wx (x : Ext [g] w0 Wx) => clone_int Wx _ ok t.keys (Sl.ext_new hks x hgX) hbt.2
        go_upto_region 6 with (go_at_call 57; (with_reducible refine (cc _ (hX.trans hE)).mono ?_); rintro e w2 ⟨⟨v2', o2', rfl, hv2, hC2⟩, x2⟩; obtain ⟨a3, m3, rfl⟩ := hC2.shape; have e2 := cells_ext x2 d2; have hB2 := hBW.ext x2 (by simp); obtain ⟨q0, q1, q2⟩ := blk_row hB2 k _ hxk; have qf := hB2.frozen)
        have hB3 := hB2.set (k * 3 + 1) (.slice a3 t.cols.length m3)
        rw [rrows_set1 rk rest k _ _ _ _ hxk] at hB3
        have hE3 := (Ext.refl [g] w2).setCell (p := ⟨g, k * 3 + 1, none⟩) (.inl (by simp)) (.slice a3 t.cols.length m3)
        have e3 := hE3.read e2 (by simpa using fun e => hbg e.symm)
        generalize w2.setCell ⟨g, k * 3 + 1, none⟩ (.slice a3 t.cols.length m3) = W3 at *
        have hlk : k < rk.length := by omega
        have hxk3 : (rk.set k ⟨t.n, .slice a3 t.cols.length m3, .slice a2 t.keys.length m2⟩)[k]? = some ⟨t.n, .slice a3 t.cols.length m3, .slice a2 t.keys.length m2⟩ := by rw [List.getElem?_set_self hlk]
        have hX3 : Ext [g] w0 W3 := ((hX.trans hE).trans x2).trans' (X := []) hE3 (fun i hi => .inr (hgX i hi)) |>.mono (by simp)
        clear q0 q1 q2 qf
        go_wp2_with (go_at_call 58; (with_reducible refine (ci _ hX3).mono ?_); rintro e w4 ⟨⟨v4', o4', rfl, hv4, hC4⟩, x4⟩; obtain ⟨a4, m4, rfl⟩ := hC4.shape; have hB4 := hB3.ext x4 (by simp); obtain ⟨q0, q1, q2⟩ := blk_row hB4 k _ hxk3; have qf := hB4.frozen)
        have hB5 := hB4.set (k * 3 + 2) (.slice a4 t.keys.length m4)
        rw [rrows_set2 _ rest k _ _ _ _ hxk3, List.set_set] at hB5
        have hE5 := (Ext.refl [g] w4).setCell (p := ⟨g, k * 3 + 2, none⟩) (.inl (by simp)) (.slice a4 t.keys.length m4)
        have hsz := hE.size
        have hT5 : TIs (g :: rb :: X) (w4.setCell ⟨g, k * 3 + 2, none⟩ (.slice a4 t.keys.length m4)) ⟨t.n, .slice a3 t.cols.length m3, .slice a4 t.keys.length m4⟩ t := by
          have ho2 : o2' ∉ [g] := by simp; omega
          have hX0 := hX.size
          have ho0 := hE0.size
          have ho2r : o2' ∉ g :: rb :: X := by simp only [List.mem_cons, not_or]; exact ⟨by omega, by omega, fun h => by have := hXX _ h; omega⟩
          have ho4 : o4' ∉ [g] := by have := hB3.lt; simp; omega
          have ho4r : o4' ∉ g :: rb :: X := by have := hB3.lt; have := hX3.size; simp only [List.mem_cons, not_or]; exact ⟨by omega, by omega, fun h => by have := hXX _ h; omega⟩
          exact ⟨rfl, ⟨o2', ho2r, Cs.ext (Cs.ext (Cs.ext hC2 hE3 ho2) x4 (by simp)) hE5 ho2⟩, o4', ho4r, Is.ext hC4 hE5 ho4⟩
        have hEw : Ext [g] wr (w4.setCell ⟨g, k * 3 + 2, none⟩ (.slice a4 t.keys.length m4)) := ((((hE.mono (Y := [g]) (by simp)).trans (x2.mono (by simp))).trans hE3).trans (x4.mono (by simp))).trans hE5
        have hI5 : Hid ((∀ (j : Nat) r t', j < k + 1 → (rk.set k ⟨t.n, .slice a3 t.cols.length m3, .slice a4 t.keys.length m4⟩)[j]? = some r → l[j]? = some t' → TIs (g :: rb :: X) (w4.setCell ⟨g, k * 3 + 2, none⟩ (.slice a4 t.keys.length m4)) r t') ∧ (∀ j, k + 1 ≤ j → (rk.set k ⟨t.n, .slice a3 t.cols.length m3, .slice a4 t.keys.length m4⟩)[j]? = rs[j]?)) := by
          refine ⟨fun j r t' hj hr' ht' => ?_, fun j hj => ?_⟩
          · by_cases e : j = k
            · subst e
              rw [List.getElem?_set_self hlk] at hr'
              rw [ht] at ht'
              obtain rfl := Option.some.inj hr'
              obtain rfl := Option.some.inj ht'
              exact hT5
            · rw [List.getElem?_set_ne (by omega)] at hr'
              exact (hI.out.1 j r t' (by omega) hr' ht').ext (hEw.mono (by simp +contextual))
          · rw [List.getElem?_set_ne (by omega)]
            exact hI.out.2 j (by omega)
        have hXw : Ext [] w0 (w4.setCell ⟨g, k * 3 + 2, none⟩ (.slice a4 t.keys.length m4)) := hX.trans' hEw (fun i hi => .inr (hgX i hi))
        have HH := Lib.hid (And.intro hB5 (And.intro hXw hI5))
        clear hB5 hXw hI5 hT5 hEw hE5 hX3 hB3 hB4 hI ht hx hxk hxk3 cc ci
        go_wp2_with (fail)
        go_roundw
        case rel => exact ⟨k + 1, _, by omega, by go_num, by rw [List.length_set]; exact hrk, HH.out.1, HH.out.2.1, HH.out.2.2⟩
        case measure => simp [intOf]; omega
      · obtain rfl : k = rs.length := by omega
        have hlen' : (rrows rk ++ rest).length = cap * 3 := by rw [List.length_append, rrows_length] at hlen ⊢; omega
        have hRs := blk_rs hB hlen' (by omega) hmax
        have hRI : RIs (g :: rb :: X) wr rk l := ⟨by rw [hrk, hr.1], fun j r t h1 h2 => hI.out.1 j r t (by rw [← hrk]; exact (List.getElem?_eq_some_iff.1 h1).1) h1 h2⟩
        have hR1 := hR.ext hX (by simp)
        have hS := hR1.set 0 (.slice (some ⟨g, 0, none⟩) rs.length cap)
        have hE1 := (Ext.refl [rb] wr).setCell (p := ⟨rb, 0, none⟩) (.inl (by simp)) (.slice (some ⟨g, 0, none⟩) rs.length cap)
        have hz := hR1.frozen 0
        have hc0 := hR1.cell 0
        simp only [List.getElem?_cons_zero] at hc0
        clear hB hI hR
        go_wp2_with (fail)
        refine ret_cell Tryz.results31 rfl hS Tryz.underlying24 rfl cat_info rfl ⟨⟨_, rfl, ?_⟩, (hE0.trans hX).trans' hE1 (fun i hi => .inr (by simp at hi; omega))⟩
        rw [← hrk] at hE1 ⊢
        have ho0 := hE0.size
        exact ⟨g, rk, fun h => by have := hXX _ h; omega, hRs.ext hE1 (by simp; omega), ((hRI.ext (hE1.mono (by simp +contextual))).mono (by simp +contextual))⟩
end Go.Proofs.YtjmfcjidhmaibaaGreatDoor
