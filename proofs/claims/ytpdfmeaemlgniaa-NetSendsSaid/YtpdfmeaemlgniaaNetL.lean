/-
  slices.Delete, of one; Come and Lose.
-/
import Derived.Test.YtpdfmeaemlgniaaNetK
namespace Go.Proofs.Ytpdfmeaemlgniaa
open Go.RowKit
set_option linter.unusedVariables false
set_option linter.unusedSimpArgs false
theorem Blk.setCells {b : Nat} {e : TypeId} : ∀ (vs : List Value) (o : Nat) (w : World) (cur : List Value), Blk w b e cur → o + vs.length ≤ cur.length → Blk (w.setCells b o vs) b e (cur.take o ++ (vs ++ cur.drop (o + vs.length))) ∧ Ext [b] w (w.setCells b o vs)
  | [], o, w, cur, h, hl => by
    refine ⟨?_, Ext.refl _ _⟩
    show Blk w b e _
    simpa using h
  | v :: r, o, w, cur, h, hl => by
    simp only [List.length_cons] at hl
    obtain ⟨h1, h2⟩ := Blk.setCells r (o + 1) (w.setCell ⟨b, o, none⟩ v) (cur.set o v) (h.set o v) (by simp; omega)
    refine ⟨?_, ((Ext.refl [b] w).setCell (p := ⟨b, o, none⟩) (.inl (by simp)) v).trans h2⟩
    show Blk ((w.setCell ⟨b, o, none⟩ v).setCells b (o + 1) r) b e _
    have e1 : (cur.set o v).take (o + 1) = cur.take o ++ [v] := by
      rw [List.take_add_one, List.getElem?_set_self (by omega), List.take_set_of_le (Nat.le_refl _)]
      rfl
    have e2 : (cur.set o v).drop (o + 1 + r.length) = cur.drop (o + (r.length + 1)) := by
      rw [List.drop_set_of_lt (by omega), show o + 1 + r.length = o + (r.length + 1) by omega]
    rw [e1, e2] at h1
    simpa using h1
theorem zeroCells_one (z : Array Value) : Builtin.zeroCells z 1 = z := by
  unfold Builtin.zeroCells
  apply Array.ext
  · simp
  · intro i h1 h2
    simp [Nat.mod_eq_of_lt h2, h2]
theorem zPV_one : ∀ u ∈ zPV.cells.toList, u.oneCell' = true := fun u hu => List.all_eq_true.1 (show zPV.cells.toList.all (·.oneCell') = true by rfl) u hu
theorem run_clear_one {P : Program} {w : World} {t e ty : TypeId} {size bytes : Nat} {z : Value} (T : SliceTy P t e size bytes z) (hzc : (Builtin.zeroCells z.cells 1).toList = z.cells.toList) (h1 : ∀ u ∈ z.cells.toList, u.oneCell' = true)
    {g off c : Nat} {cur : List Value} (hb : Blk w g e cur) (hfit : off + size ≤ cur.length) :
    (Builtin.clear_ #[t] ty #[.slice (some ⟨g, off, none⟩) 1 c]).run P w = .ok (.tuple #[]) (w.setCells g off z.cells.toList) ∧ Blk (w.setCells g off z.cells.toList) g e (cur.take off ++ (z.cells.toList ++ cur.drop (off + size))) ∧ Ext [g] w (w.setCells g off z.cells.toList) := by
  obtain ⟨i, i1, i2, i3, i4⟩ := T.info
  have hl : z.cells.toList.length = size := by simpa using T.zc
  have hst := run_storeCells_cells (P := P) g off z.cells.toList 0 w
    (fun j hj => by rw [Nat.add_zero, hb.cell, List.getElem?_eq_getElem (by omega)]; rfl) (fun j hj => by rw [Nat.add_zero]; exact hb.frozen _) h1
  rw [Nat.add_zero] at hst
  obtain ⟨b1, b2⟩ := Blk.setCells z.cells.toList off w cur hb (by omega)
  rw [hl] at b1
  exact ⟨by simp [Builtin.clear_, run_underlying T.und, zeroValue, typeInfo, i1, i2, hzc, hst], b1, b2⟩
set_option maxRecDepth 100000 in
set_option maxHeartbeats 4000000 in
theorem Delete_any (W : World) (g cap i m : Nat) (rs : List PRaw) (rest : List Value) (hB : Blk W g 33 (prows rs ++ rest)) (hlen : (prows rs ++ rest).length = cap * 5) (hm : rs.length = m + 1) (hi : i ≤ m) (hc : cap ≤ maxLen) (h1 : ∀ u ∈ prows rs, u.oneCell' = true) :
    Calls Try.prog 62 #[.slice (some ⟨g, 0, none⟩) (m + 1) cap, .int .i64 (i : Int), .int .i64 ((i : Int) + 1)] W fun e w' => e = .returned (.slice (some ⟨g, 0, none⟩) m cap) ∧ (∃ rest', (prows (rs.eraseIdx i) ++ rest').length = cap * 5 ∧ Blk w' g 33 (prows (rs.eraseIdx i) ++ rest')) ∧ Ext [g] W w' := by
  unfold maxLen at hc
  have hfl : (prows rs).length = (m + 1) * 5 := by rw [flat_length wideP, hm]
  have hcap : m + 1 ≤ cap := by rw [List.length_append, hfl] at hlen; omega
  have hpt : Try.prog.elem 23 = 33 := by kernel_rfl
  obtain ⟨ii, i1, i2, i3, i4⟩ := TPar.info
  obtain ⟨z0, hz0⟩ : ∃ z, sliced (some ⟨g, 0, none⟩) i (i + 1) (m + 1) 5 = z := ⟨_, rfl⟩
  obtain ⟨ad, had, hnews⟩ : ∃ ad : Addr, sliced (some ⟨g, 0, none⟩) (i + 1) (m + 1) cap 5 = .slice (some ad) (m - i) (cap - (i + 1)) ∧ Hid (∀ j u, (prows (rs.drop (i + 1)))[j]? = some u → W.drew.cell? (ad.add j) = some u) := by
    by_cases h : cap = i + 1
    · refine ⟨⟨g, 0, none⟩, by simp [sliced, h], fun j u hu => ?_⟩
      have : (prows (rs.drop (i + 1))).length = 0 := by rw [flat_length wideP, List.length_drop, hm]; omega
      rw [List.eq_nil_of_length_eq_zero this] at hu
      simp at hu
    · refine ⟨⟨g, (i + 1) * 5, none⟩, by simp [sliced, h, add_off], fun j u hu => ?_⟩
      rw [add_off]
      have hj := (List.getElem?_eq_some_iff.1 hu).1
      rw [flat_length wideP, List.length_drop, hm] at hj
      have : (prows rs ++ rest)[(i + 1) * 5 + j]? = some u := by
        rw [List.getElem?_append_left (by rw [hfl]; omega), ← List.getElem?_drop, prows, flat_drop wideP]
        exact hu
      exact (hB.cell _).trans this
  have hsz : ∀ U, (sizeOf 33).run Try.prog U = .ok 5 U := fun U => Try.sizeOf33 U
  have s0 : ∀ U, (Instr.slice 23 (.slice (some ⟨g, 0, none⟩) (m + 1) cap) (some (.int .i64 (i : Int))) (some (.int .i64 ((i : Int) + 1))) (some (.int .i64 ((m : Int) + 1)))).run Try.prog U = .ok z0 U := fun U => by
    rw [run_slice_lhm U 23 _ (m + 1) cap (by kernel_rfl) .i64 .i64 .i64 (i : Int) ((i : Int) + 1) ((m : Int) + 1) (by omega) (by omega) (by omega) (by omega), hpt, hsz]
    simp only [Result.andThen_ok]
    rw [← hz0, Int.toNat_natCast, show ((i : Int) + 1).toNat = i + 1 by omega, show ((m : Int) + 1).toNat = m + 1 by omega]
  have sA : ∀ U, (Instr.slice 23 (.slice (some ⟨g, 0, none⟩) (m + 1) cap) none (some (.int .i64 (i : Int))) none).run Try.prog U = .ok (.slice (some ⟨g, 0, none⟩) i cap) U := fun U => by
    rw [run_slice_h U 23 _ (m + 1) cap (by kernel_rfl) .i64 (i : Int) (by omega) (by omega), hpt, hsz]
    simp only [Result.andThen_ok, sliced, Nat.zero_mul, Option.map_some, add_off, Nat.add_zero, ite_self, Nat.sub_zero, Int.toNat_natCast]
  have sB : ∀ U, (Instr.slice 23 (.slice (some ⟨g, 0, none⟩) (m + 1) cap) (some (.int .i64 ((i : Int) + 1))) none none).run Try.prog U = .ok (.slice (some ad) (m - i) (cap - (i + 1))) U := fun U => by
    rw [run_slice_l U 23 _ (m + 1) cap (by kernel_rfl) .i64 ((i : Int) + 1) (by omega) (by omega), hpt, hsz]
    simp only [Result.andThen_ok]
    rw [← had, show ((i : Int) + 1).toNat = i + 1 by omega]
  have sC : ∀ U, (Instr.slice 23 (.slice (some ⟨g, 0, none⟩) m cap) (some (.int .i64 (m : Int))) (some (.int .i64 ((m : Int) + 1))) none).run Try.prog U = .ok (.slice (some ⟨g, m * 5, none⟩) 1 (cap - m)) U := fun U => by
    rw [run_slice_lh U 23 _ m cap (by kernel_rfl) .i64 .i64 (m : Int) ((m : Int) + 1) (by omega) (by omega) (by omega), hpt, hsz]
    simp only [Result.andThen_ok, sliced, Int.toNat_natCast, show ((m : Int) + 1).toNat = m + 1 by omega, show ¬ cap = m by omega, if_false, Option.map_some, add_off, Nat.zero_add, show m + 1 - m = 1 by omega]
  have hij : ((i : Int) == (i : Int) + 1) = false := by simp; omega
  have hpl : (prows (rs.drop (i + 1))).length = (m - i) * 5 := by rw [flat_length wideP, List.length_drop, hm]; congr 1; omega
  have hp1 : ∀ u ∈ prows (rs.drop (i + 1)), u.oneCell' = true := fun u hu => h1 u (by rw [prows, ← flat_drop wideP] at hu; exact List.mem_of_mem_drop hu)
  have hBd : Blk W.drew g 33 (prows rs ++ rest) := hB
  obtain ⟨k1, k2⟩ := Blk.setCells (prows (rs.drop (i + 1))) (0 + i * 5) W.drew (prows rs ++ rest) hBd (by rw [hpl, hlen]; omega)
  have hroom : ∀ j, j < (prows (rs.drop (i + 1))).length → (W.drew.cell? ⟨g, 0 + i * 5 + j, none⟩).isSome = true ∧ W.drew.frozen? ⟨g, 0 + i * 5 + j, none⟩ = false := fun j hj => by
    rw [hpl] at hj
    refine ⟨?_, hBd.frozen _⟩
    rw [hBd.cell, List.getElem?_eq_getElem (by rw [hlen]; omega)]; rfl
  have hK1 : Hid (∃ X, X.length = 5 + rest.length ∧ Blk (W.drew.setCells g (0 + i * 5) (prows (rs.drop (i + 1)))) g 33 (prows (rs.eraseIdx i) ++ X)) := by
    refine ⟨(prows rs ++ rest).drop (m * 5), by rw [List.length_drop, List.length_append, hfl]; omega, ?_⟩
    have e1 : (prows rs ++ rest).take (0 + i * 5) = prows (rs.take i) := by
      rw [Nat.zero_add, List.take_append_of_le_length (by rw [hfl]; omega), prows, flat_take wideP]
    have e2 : 0 + i * 5 + (prows (rs.drop (i + 1))).length = m * 5 := by rw [hpl]; omega
    have e3 : prows (rs.eraseIdx i) = prows (rs.take i) ++ prows (rs.drop (i + 1)) := by
      rw [List.eraseIdx_eq_take_drop_succ, prows, flat_append]
    rw [e1, e2] at k1
    rw [e3, List.append_assoc]
    exact k1
  have hX1 : Ext [g] W (W.drew.setCells g (0 + i * 5) (prows (rs.drop (i + 1)))) := (Ext.refl [g] W).drew.trans k2
  have hle : (prows (rs.eraseIdx i)).length = m * 5 := by rw [flat_length wideP, List.length_eraseIdx, if_pos (by omega), hm]; rfl
  have hlr : m * 5 + (5 + rest.length) = cap * 5 := by rw [← hlen, List.length_append, hfl]; omega
  have HLR := Lib.hid hlr
  clear hlr
  have HL := Lib.hid (And.intro hpl (And.intro hle (And.intro hp1 hroom)))
  clear k1 k2 hBd hpl hle hp1 hroom hfl hlen hB h1 had hz0 hsz hpt hm
  generalize hW1 : W.drew.setCells g (0 + i * 5) (prows (rs.drop (i + 1))) = W1 at *
  have HW1 := Lib.hid hW1
  clear hW1
  go_enter Try.func62, Try.ntmps62
  go_upto_region 5 with (fail)
  have hS0 : True := trivial
  refine region_but (fun _ => True) [] 8 rfl (by kernel_rfl) ?_
  refine HeldBut.take (i := 0) (v := ?_) rfl (by kernel_rfl) (by kernel_rfl) (by kernel_rfl) (by kernel_rfl) (fun _ _ _ h => h) (Or.inl ⟨by kernel_rfl, ?_⟩) hS0 ?_; rotate_left 1; (focus (intro u hu; (try dsimp only at hu); go_simp; try with_reducible rfl)); (try simp only [List.getElem_toArray, List.getElem_cons_zero, List.getElem_cons_succ]); (try simp only [Act.put, List.setIfInBounds_toArray, List.set_cons_zero, List.set_cons_succ])
  refine HeldBut.take (i := 1) (v := ?_) rfl (by kernel_rfl) (by kernel_rfl) (by kernel_rfl) (by kernel_rfl) (fun _ _ _ h => h) (Or.inl ⟨by kernel_rfl, ?_⟩) hS0 ?_; rotate_left 1; (focus (intro u hu; (try dsimp only at hu); go_simp; try with_reducible rfl)); (try simp only [List.getElem_toArray, List.getElem_cons_zero, List.getElem_cons_succ]); (try simp only [Act.put, List.setIfInBounds_toArray, List.set_cons_zero, List.set_cons_succ])
  refine HeldBut.take (i := 2) (v := ?_) rfl (by kernel_rfl) (by kernel_rfl) (by kernel_rfl) (by kernel_rfl) (fun _ _ _ h => h) (Or.inl ⟨by kernel_rfl, ?_⟩) hS0 ?_; rotate_left 1; (focus (intro u hu; (try dsimp only at hu); go_simp; try with_reducible rfl)); (try simp only [List.getElem_toArray, List.getElem_cons_zero, List.getElem_cons_succ]); (try simp only [Act.put, List.setIfInBounds_toArray, List.set_cons_zero, List.set_cons_succ])
  refine HeldBut.take (i := 3) (v := ?_) rfl (by kernel_rfl) (by kernel_rfl) (by kernel_rfl) (by kernel_rfl) (fun _ _ _ h => h) (Or.inl ⟨by kernel_rfl, ?_⟩) hS0 ?_; rotate_left 1; (focus (intro u hu; (try dsimp only at hu); go_simp; try with_reducible rfl)); (try simp only [List.getElem_toArray, List.getElem_cons_zero, List.getElem_cons_succ]); (try simp only [Act.put, List.setIfInBounds_toArray, List.set_cons_zero, List.set_cons_succ])
  refine HeldBut.take (i := 4) (v := ?_) rfl (by kernel_rfl) (by kernel_rfl) (by kernel_rfl) (by kernel_rfl) (fun _ _ _ h => h) (Or.inl ⟨by kernel_rfl, ?_⟩) hS0 ?_; rotate_left 1; (focus (intro u hu; (try dsimp only at hu); go_simp; try with_reducible rfl)); (try simp only [List.getElem_toArray, List.getElem_cons_zero, List.getElem_cons_succ]); (try simp only [Act.put, List.setIfInBounds_toArray, List.set_cons_zero, List.set_cons_succ])
  refine HeldBut.take (i := 5) (v := ?_) rfl (by kernel_rfl) (by kernel_rfl) (by kernel_rfl) (by kernel_rfl) (fun _ _ _ h => h) (Or.inl ⟨by kernel_rfl, ?_⟩) hS0 ?_; rotate_left 1; (focus (intro u hu; (try dsimp only at hu); go_simp; try with_reducible rfl)); (try simp only [List.getElem_toArray, List.getElem_cons_zero, List.getElem_cons_succ]); (try simp only [Act.put, List.setIfInBounds_toArray, List.set_cons_zero, List.set_cons_succ])
  refine HeldBut.one (i := 6) (by kernel_rfl) ?_
  refine HeldBut.step (i := 6) rfl (fun K hK => ?_)
  refine step_append_room (by rfl) (.tmp 22) (.tmp 25) 23 (by rfl) 33 ii 5 Try.underlying23 i1 i3 g 0 i cap (by rfl) ad (m - i) (cap - (i + 1)) (prows (rs.drop (i + 1))) (by rfl) HL.out.1 hnews.out HL.out.2.2.1 (by omega) HL.out.2.2.2 ?_
  rw [HW1.out, show i + (m - i) = m by omega]
  refine hK.out _ _ (fun _ => trivial) ?_; clear hK K
  (try simp only [List.getElem_toArray, List.getElem_cons_zero, List.getElem_cons_succ]); (try simp only [Act.put, List.setIfInBounds_toArray, List.set_cons_zero, List.set_cons_succ])
  refine HeldBut.one (i := 7) (by kernel_rfl) ?_
  refine HeldBut.step (i := 7) rfl (fun K hK => ?_)
  try simp only [List.getElem_toArray, List.getElem_cons_zero, List.getElem_cons_succ]
  go_simp
  refine hK.out _ _ (fun _ => trivial) ?_; clear hK K
  (try simp only [List.getElem_toArray, List.getElem_cons_zero, List.getElem_cons_succ]); (try simp only [Act.put, List.setIfInBounds_toArray, List.set_cons_zero, List.set_cons_succ])
  refine HeldBut.done (by kernel_rfl) ?_ _
  obtain ⟨X, hX, hK⟩ := hK1
  have hcl := fun ty => run_clear_one (ty := ty) (c := cap - m) (off := m * 5) TPar (by rw [zeroCells_one]) zPV_one hK (by rw [List.length_append, HL.out.2.1, hX]; omega)
  have hk2 := (hcl 0).2
  have hcl := fun ty => (hcl ty).1
  generalize W1.setCells g (m * 5) zPV.cells.toList = W2 at *
  rw [List.take_left' HL.out.2.1] at hk2
  have hk3 : (prows (rs.eraseIdx i) ++ (zPV.cells.toList ++ (prows (rs.eraseIdx i) ++ X).drop (m * 5 + 5))).length = cap * 5 := by
    rw [List.length_append, List.length_append, List.length_drop, List.length_append, HL.out.2.1, hX, show zPV.cells.toList.length = 5 from rfl, ← HLR.out]
    omega
  have HK2 := Lib.hid (And.intro hk3 hk2)
  clear hk3
  clear hk2 hK hnews sA sB s0
  go_wp2_with (fail)
  go_ret
  exact ⟨rfl, ⟨_, HK2.out.1, HK2.out.2.1⟩, hX1.trans HK2.out.2.2⟩
/-- of the call's own, without one -/
theorem OPs.erase {S : Nat} {w w' : World} {g n cap : Nat} {l : List Par} {rs : List PRaw} (h : OPs S w (.slice (some ⟨g, 0, none⟩) n cap) l rs) (i : Nat) (hi : i < rs.length) (hx : Ext [g] w w') (hcap : rs.length ≤ cap) (hm : cap ≤ maxLen) {rest : List Value}
    (hB : Blk w' g 33 (prows (rs.eraseIdx i) ++ rest)) (hlen : (prows (rs.eraseIdx i) ++ rest).length = cap * 5) : OPs S w' (.slice (some ⟨g, 0, none⟩) (rs.length - 1) cap) (l.eraseIdx i) (rs.eraseIdx i) := by
  have hle : (rs.eraseIdx i).length = rs.length - 1 := by rw [List.length_eraseIdx, if_pos hi]
  have hmap : ∀ (k : Nat) r, (rs.eraseIdx i)[k]? = some r → rs[if k < i then k else k + 1]? = some r := by
    intro k r hk
    rw [List.getElem?_eraseIdx] at hk
    split at hk <;> rename_i hh
    · rw [if_pos hh]; exact hk
    · rw [if_neg hh]; exact hk
  have hg := (own_block h.own (show (Value.slice (some ⟨g, 0, none⟩) n cap).ownBlock = some g from rfl)).1
  refine ⟨?_, ⟨?_, fun k r p hr hp => ?_⟩, fun j k r r' hj hk hne => h.sep _ _ r r' (hmap j r hj) (hmap k r' hk) (by split <;> split <;> omega)⟩
  · have := hB.owns (base := S) (size := 5) (n := rs.length - 1) (cap := cap) hg hlen (by omega) hm
    rw [List.take_left' (by rw [flat_length wideP, hle])] at this
    rwa [← hle] at this ⊢
  · rw [hle, List.length_eraseIdx, ← h.all.1, if_pos hi]
  · have hp' : l[if k < i then k else k + 1]? = some p := by
      rw [List.getElem?_eraseIdx] at hp
      split at hp <;> rename_i hh
      · rw [if_pos hh]; exact hp
      · rw [if_neg hh]; exact hp
    have ho := h.all.2 _ r p (hmap k r hr) hp'
    refine ho.keep hx fun b hb => ?_
    have := own_far ho.2.2.2.2 h.own (by decide) b hb
    simpa [Value.ownBlock] using this
theorem OPs.ext_par {S : Nat} {w w' : World} {v : Value} {l : List Par} {rs : List PRaw} (h : OPs S w v l rs) {c : Nat} (hc : c < S) (he : Ext [c] w w') : OPs S w' v l rs := h.keep he (by intro k hk; simp at hk; omega)
/-- what came, and what stays -/
def DC (A pc : Nat) (T : Told) (s' : Nat) (v' : Value) (w' : World) : Prop :=
  (T.e = 0 → s' = T.n.s ∧ ∃ rs' r, OPs A w' v' T.n.ps rs' ∧ Blk w' pc 33 r.row ∧ OIs A w' r T.p ∧ ∀ (k : Nat) q, rs'[k]? = some q → ∀ c, q.b.ownBlock = some c → r.b.ownBlock ≠ some c) ∧
  (T.e ≠ 0 → Blk w' pc 33 zPV.cells.toList)
theorem prow_row (r : PRaw) : r.row = [.int .u64 (r.num : Int), .int .i64 r.fr, .int .i64 r.to, r.b, .bool r.sp] := rfl
set_option maxHeartbeats 4000000 in
theorem come1_any (W : World) (b S s i pc : Nat) (v : Value) (l : List Par) (rs : List PRaw) (p : Par) (x0 x1 x2 x3 x4 : Value) (hN : Blk W b 25 [.int .u64 (s : Int), v]) (hO : OPs S W v l rs) (hbS : b < S) (hp : l[i]? = some p) (hC : Blk W pc 33 [x0, x1, x2, x3, x4]) (hpS : pc < S) :
    Calls Try.prog 61 #[pt b, .int .i64 (i : Int), pt pc] W fun e w' => ∃ (s' : Nat) (v' : Value), (∃ a' n' c', v' = .slice a' n' c') ∧ e = .returned (.int .i64 0) ∧ Blk w' b 25 [.int .u64 (s' : Int), v'] ∧ DC S pc { n := ⟨s, l.eraseIdx i⟩, p := p } s' v' w' ∧ Did S b [pc] W w' := by
  have hil := (List.getElem?_eq_some_iff.1 hp).1
  have hrl := hO.all.1
  have hml := hO.ps.len
  unfold maxLen at hml
  rcases own_blk hO.own with ⟨rfl, h0⟩ | ⟨g, cap, rest, rfl, hgS, hB, hcap, hmax, hlen⟩
  · omega
  have hr : rs[i]? = some rs[i] := List.getElem?_eq_getElem (by omega)
  generalize rs[i] = r at *
  have hoi := hO.all.2 i r p hr hp
  obtain ⟨ab, cb, hsb⟩ := own_shape hoi.2.2.2.2
  obtain ⟨rn, rf, rt, rb, rsp⟩ := r
  dsimp only at hsb
  subst hsb
  obtain ⟨m, hm⟩ : ∃ m, rs.length = m + 1 := ⟨rs.length - 1, by omega⟩
  have HM := Lib.hid hm
  have HRL := Lib.hid hrl
  rw [hm] at hN hO hcap
  obtain ⟨q0, q1, q2, q3, q4⟩ := blk_prow hB i _ hr
  dsimp only at q0 q1 q2 q3 q4
  obtain ⟨n0, n1⟩ := hN.c2
  have cf := hC.frozen
  obtain ⟨c0, c1, c2, c3, c4⟩ := hC.c5
  have hbc : b ≠ pc := by
    rintro rfl
    unfold Blk at hN hC
    rw [hN] at hC
    have := Option.some.inj hC
    simp at this
  have hgc : g ≠ pc := by omega
  have hgb : g ≠ b := by omega
  have hone := hO.all.one
  have him : i ≤ m := by omega
  have hbl : i * 5 + 4 < (prows rs ++ rest).length := by rw [hlen]; omega
  clear hm hrl
  go_enter Try.func61, Try.ntmps61
  go_upto_region 2 with (fail)
  have x5 := (((((Ext.refl [pc] W).setCell (p := ⟨pc, 0, none⟩) (.inl (by simp)) (.int .u64 (rn : Int))).setCell (p := ⟨pc, 1, none⟩) (.inl (by simp)) (.int .i64 rf)).setCell (p := ⟨pc, 2, none⟩) (.inl (by simp)) (.int .i64 rt)).setCell (p := ⟨pc, 3, none⟩) (.inl (by simp)) (.slice ab p.bs.length cb)).setCell (p := ⟨pc, 4, none⟩) (.inl (by simp)) (.bool rsp)
  have k5 := ((((hC.set 0 (.int .u64 (rn : Int))).set 1 (.int .i64 rf)).set 2 (.int .i64 rt)).set 3 (.slice ab p.bs.length cb)).set 4 (.bool rsp)
  simp only [List.set_cons_zero, List.set_cons_succ] at k5
  have hN2 := hN.ext x5 (by simpa using hbc)
  have hB2 := hB.ext x5 (by simpa using hgc)
  have hO2 := hO.ext_par hpS x5
  generalize ((((W.setCell ⟨pc, 0, none⟩ (.int .u64 (rn : Int))).setCell ⟨pc, 1, none⟩ (.int .i64 rf)).setCell ⟨pc, 2, none⟩ (.int .i64 rt)).setCell ⟨pc, 3, none⟩ (.slice ab p.bs.length cb)).setCell ⟨pc, 4, none⟩ (.bool rsp) = W2 at *
  have dl := Delete_any W2 g cap i m rs rest hB2 hlen HM.out him hmax hone
  obtain ⟨n0', n1'⟩ := hN2.c2
  clear n0 n1 cf c0 c1 c2 c3 c4 q0 q1 q2 q3 q4 hone
  go_wp2_with (go_at_call 62; (with_reducible refine dl.mono ?_); rintro e W3 ⟨rfl, ⟨rest', hl3, hB3⟩, x3⟩; have hN3 := hN2.ext x3 (by simpa using hgb.symm); obtain ⟨m0, m1⟩ := hN3.c2; have mf := hN3.frozen)
  have x4 := (Ext.refl [b] W3).setCell (p := ⟨b, 1, none⟩) (.inl (by simp)) (.slice (some ⟨g, 0, none⟩) m cap)
  have hN4 := hN3.set 1 (.slice (some ⟨g, 0, none⟩) m cap)
  simp only [List.set_cons_zero, List.set_cons_succ] at hN4
  have hO3 := hO2.erase i (by have := HM.out; omega) x3 (by have := HM.out; omega) hmax hB3 hl3
  rw [show rs.length - 1 = m by have := HM.out; omega] at hO3
  have hO4 := hO3.other hN3 (by decide) (by decide) x4
  have k6 := (k5.ext x3 (by simpa using hgc.symm)).ext x4 (by simpa using hbc.symm)
  have hs : ∀ (k : Nat) q, (rs.eraseIdx i)[k]? = some q → ∀ c, q.b.ownBlock = some c → (Value.slice ab p.bs.length cb).ownBlock ≠ some c := by
    intro k q hq c hc e
    rw [List.getElem?_eraseIdx] at hq
    split at hq <;> rename_i hh
    · exact hO.sep k i q _ hq hr (by omega) c hc e
    · exact hO.sep (k + 1) i q _ hq hr (by omega) c hc e
  have hoi2 := hoi.keep x5 (fun k hk m => by have := own_block hoi.2.2.2.2 hk; simp at m; omega)
  have hoi3 := hoi2.keep x3 (fun k hk m => by have := own_far hoi2.2.2.2.2 hO2.own (by decide) k hk; exact this (by simpa [Value.ownBlock] using m))
  have hoi4 := hoi3.keep x4 (own_ne hoi3.2.2.2.2 hN3 (by decide))
  refine bodyPost_ret (results_tmp Try.results61 _ _ _) rfl ⟨s, _, ⟨_, _, _, rfl⟩, rfl, hN4, ⟨fun _ => ⟨rfl, _, ⟨rn, rf, rt, .slice ab p.bs.length cb, rsp⟩, hO4, k6, hoi4, hs⟩, fun h => absurd rfl h⟩, ?_⟩
  exact (((Did.ofExt (Ext.refl [] W)).exts x5 (by intro k hk; simp at hk; simp [hk])).exts x3 (by intro k hk; simp at hk; omega)).exts x4 (by intro k hk; simp at hk; simp [hk])
end Go.Proofs.Ytpdfmeaemlgniaa
