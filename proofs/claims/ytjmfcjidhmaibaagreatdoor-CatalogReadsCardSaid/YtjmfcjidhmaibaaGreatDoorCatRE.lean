
/-
  The reference's read: the table that a line's words say, with so many columns.
-/
import Derived.Test.YtjmfcjidhmaibaaGreatDoorCatRK
import Derived.Test.YtjmfcjidhmaibaaGreatDoorCatPC
import Derived.Test.YtjmfcjidhmaibaaGreatDoorCatU
import Derived.Test.YtjmfcjidhmaibaaGreatDoorCatXC
namespace Go.Proofs.YtjmfcjidhmaibaaGreatDoor
open Go.RowKit
open Go.Lib hiding intOf
set_option linter.unusedVariables false
set_option linter.unusedSimpArgs false

/-- what read answers -/
def readR (ws : List W8) (n : Nat) : Option Tab := if readOk ws n = true ∧ isTab (readAt ws n) = true then some (readAt ws n) else none
theorem readR_no {ws : List W8} {n : Nat} (h : readOk ws n = false) : readR ws n = none := by unfold readR; rw [if_neg (by rw [h]; simp)]
theorem readOk_len {ws : List W8} {n : Nat} (h : ¬ 2 + 2 * n ≤ ws.length) : readOk ws n = false := by unfold readOk; rw [decide_eq_false h]; rfl
theorem readOk_head {ws : List W8} {n : Nat} (h : ws[0]? ≠ some wTable) : readOk ws n = false := by unfold readOk; rw [decide_eq_false h]; simp
theorem readOk_rest {ws : List W8} {n : Nat} (h : ¬ (ws.drop (2 + 2 * n) = [] ∨ (2 ≤ (ws.drop (2 + 2 * n)).length ∧ (ws.drop (2 + 2 * n))[0]? = some wBy))) : readOk ws n = false := by
  unfold readOk
  rw [not_or] at h
  rw [decide_eq_false h.1]
  by_cases h2 : 2 ≤ (ws.drop (2 + 2 * n)).length
  · rw [decide_eq_false (fun e => h.2 ⟨h2, e⟩)]; simp
  · rw [decide_eq_false h2]; simp
theorem readOk_yes {ws : List W8} {n : Nat} (h1 : 2 + 2 * n ≤ ws.length) (h2 : ws[0]? = some wTable) (h3 : ws.drop (2 + 2 * n) = [] ∨ (2 ≤ (ws.drop (2 + 2 * n)).length ∧ (ws.drop (2 + 2 * n))[0]? = some wBy)) : readOk ws n = true := by
  unfold readOk
  rw [decide_eq_true h1, decide_eq_true h2]
  rcases h3 with h3 | ⟨h3, h4⟩
  · rw [decide_eq_true h3]; rfl
  · rw [decide_eq_true h3, decide_eq_true h4]; simp
theorem keyI_eq (cs : List Col) (w : W8) : keyI cs w = fndI cs.length (fnd (cs.map Col.n) (B w)) := rfl
theorem nth_some {α : Type} {l : List α} {k : Nat} (h : k < l.length) : ∃ x, l[k]? = some x := ⟨_, List.getElem?_eq_getElem h⟩
theorem own_slP {w : World} {base e size n pb : Nat} {v : Value} {xs : List Value} (h : w.ownsRow base e size v n xs) (hp : pb < w.heap.size) : ∃ o, (o = pb ∨ base ≤ o) ∧ o < w.heap.size ∧ Sl w v o size n xs := by
  obtain ⟨ob, hs, h1⟩ := Sl.of_own h
  rcases h1 with rfl | ⟨h1, h2⟩
  · exact ⟨pb, .inl rfl, hp, Sl.any_none hs pb⟩
  · exact ⟨ob, .inr h1, (h.lt ob h2).2, hs⟩
theorem ne_by (w : W8) : ((B w).toList == [98, 121]) = decide (w = wBy) := by
  have := toList_beq w wBy
  rw [show (B wBy).toList = [98, 121] by rw [ByteArray.toList_eq]; rfl] at this
  rw [this]
  by_cases h : w = wBy
  · simp [h]
  · simp [h]
/-- a struct stored whole, into a block of its own, as one step of a region that draws -/
theorem step_store_blk {P : Program} {w : World} {ops : Array Oper} {o : Oper} {a : Act} {K : Act → World → Prop} {Q : Exit → Act → World → Prop} {E : Prop}
    (hgd : o.guard = none) (ty : TypeId) (x y : Operand) (ho : o.op = .store ty x y) (hd : o.dst = none)
    {g : Nat} {t : TypeId} {old cells : List Value} (hx : a.eval x = .pointer (some ⟨g, 0, none⟩)) (hy : a.eval y = .agg cells.toArray) (hB : Blk w g t old) (hi : (P.info? ty).map (·.size) = some cells.length) (hold : old.length = cells.length)
    (h1 : ∀ u ∈ cells, u.oneCell' = true) (h : ∀ w', Blk w' g t cells → Ext [g] w w' → K a w') : if Region.wanted o (yielded ops a.tmps) = true then Oper.wp P o a w K Q else E := by
  have hw : Region.wanted o (yielded ops a.tmps) = true := by simp [Region.wanted, hgd]
  rw [if_pos hw]
  refine wp_store_row ty x y ho g cells.toArray hx hy t old.toArray hB (by simpa using hi) (by simpa using hold) (by simpa using h1) ?_
  rw [hd]
  refine h _ ?_ ⟨rfl, rfl, rfl, by simp [World.setRow], fun k hk hx => setRow_other w g k _ (by simpa using hx)⟩
  have := setRow_heap w g old.toArray cells.toArray t (0, 0) hB
  simpa [Blk] using this
set_option maxRecDepth 100000 in
set_option maxHeartbeats 4000000 in
theorem read_any (w : World) (a : Option Addr) (c : Nat) (ob : Nat) (ws : List W8) (n : Nat) (hv : Ss w (.slice a ws.length c) ob ws) (hn1 : 1 ≤ n) (hn4 : n ≤ 4) (hwl : ws.length ≤ 6000) :
    Calls Tryz.prog 48 #[.slice a ws.length c, .int .i64 n] w fun e w' => tableEnd (readR ws n) e w' ∧ Ext [] w w' := by
  have e0 := (Ext.refl [] w).alloc (.cells #[.string ⟨#[]⟩, .slice none 0 0, .slice none 0 0] 41)
  have hR0 := Blk.new w [.string ⟨#[]⟩, .slice none 0 0, .slice none 0 0] 41
  have m1 : IntKind.i64.wrap (2 * (n : Int)) = 2 * (n : Int) := by rw [IntKind.wrap_i64]; omega
  have m2 : IntKind.i64.wrap (2 + 2 * (n : Int)) = 2 + 2 * (n : Int) := by rw [IntKind.wrap_i64]; omega
  by_cases h1 : 2 + 2 * n ≤ ws.length
  · have q1 : decide ((ws.length : Int) < 2 + 2 * (n : Int)) = false := by simp; omega
    obtain ⟨o, x0, rfl, hx0, c0⟩ := hv.at 0 (by omega)
    rw [Nat.add_zero] at c0
    have hob : ob < w.heap.size := World.block_lt_of_cell? _ _ c0
    have c0' := cells_ext e0 c0
    have hbt : B wTable = ⟨#[116, 97, 98, 108, 101]⟩ := rfl
    by_cases h2 : x0 = wTable
    · subst h2
      obtain ⟨nm, hnm⟩ := nth_some (l := ws) (k := 1) (by omega)
      obtain ⟨o', nm', oe, hnm', c1⟩ := hv.at 1 (by omega)
      obtain rfl : o = o' := by simpa using oe
      obtain rfl : nm = nm' := by rw [hnm] at hnm'; exact Option.some.inj hnm'
      have c1' := cells_ext e0 c1
      rw [hbt] at c0'
      clear hnm' oe
      have hvW := Sl.ext hv e0 (by simp)
      obtain ⟨cs, hcs⟩ : ∃ cs, colsW ((ws.drop 2).take (2 * n)) = cs := ⟨_, rfl⟩
      have hcl : cs.length = n := by
        rw [← hcs, colsW_length, List.length_take, List.length_drop]; omega
      have hcat : ∀ j, j < n → ∃ x y, ws[2 + 2 * j]? = some x ∧ ws[3 + 2 * j]? = some y ∧ cs[j]? = some ⟨B x, kindW y⟩ := by
        intro j hj
        obtain ⟨x, hx⟩ := nth_some (l := ws) (k := 2 + 2 * j) (by omega)
        obtain ⟨y, hy⟩ := nth_some (l := ws) (k := 3 + 2 * j) (by omega)
        refine ⟨x, y, hx, hy, ?_⟩
        rw [← hcs]
        refine colsW_at _ j x y ?_ ?_
        · rw [List.getElem?_take, if_pos (by omega), List.getElem?_drop, hx]
        · rw [List.getElem?_take, if_pos (by omega), List.getElem?_drop, show 2 + (2 * j + 1) = 3 + 2 * j by omega, hy]
      have hcat := Lib.hid hcat
      have H2 : Hid (ws[0]? = some wTable ∧ ws[1]? = some nm ∧ 2 + 2 * n ≤ ws.length ∧ colsW ((ws.drop 2).take (2 * n)) = cs) := ⟨hx0, hnm, h1, hcs⟩
      clear hcs hnm hx0 c0 c1
      go_enter Tryz.func48, Tryz.ntmps48
      go_upto_region 3 with (fail)
      generalize w.alloc (.cells #[.string ⟨#[]⟩, .slice none 0 0, .slice none 0 0] 41) = W at *
      generalize hrb : w.heap.size = rb at *
      have hTn := Blk.new W [.string ⟨#[]⟩, .slice none 0 0, .slice none 0 0] 41
      go_upto_region 4 with ((with_reducible refine at_store_tab ?_); refine wpList_store_blk rfl _ (.tmp 6) (.tmp 26) rfl rfl rfl (cells := [.string (B nm), .slice none 0 0, .slice none 0 0]) rfl hTn tab_info rfl one3 ?_; intro w4 hT4 x4)
      have hbR := hR0.lt
      have xx4 : Ext [] W w4 := ((Ext.refl [] W).alloc _).trans' x4 (fun i hi => .inr (by simp at hi; omega))
      have z4 := x4.size
      simp only [World.size_alloc] at z4
      generalize htb : W.heap.size = tb at *
      clear x4 c0' c1' hTn
      go_wp2_with (fail)
      go_loopw [7] (fun i wr => ∃ (j : Nat) (vo : Value), j ≤ n ∧ i = .int .i64 j ∧ Blk wr tb 41 [.string (B nm), vo, .slice none 0 0] ∧ wr.ownsRow (tb + 1) 67 2 vo j (crows (cs.take j)) ∧ Ext [] W wr ∧ tb + 1 ≤ wr.heap.size) (fun i _ => n - (intOf i).toNat)
      case atStart => exact ⟨0, .slice none 0 0, by omega, rfl, hT4, World.ownsRow_nil _ _ _ _, xx4, z4⟩
      case round =>
        obtain ⟨j, vo, hj, rfl, hT, hO, hX, hbX⟩ := hrel
        have hvr : Ss wr (.slice (some ⟨ob, o, none⟩) ws.length c) ob ws := Sl.ext hvW hX (by simp)
        by_cases hlt : j < n
        · obtain ⟨x, y, hx, hy, hc⟩ := hcat.out j hlt
          obtain ⟨ox, xx, oe, hxx, cx⟩ := hvr.at (2 + 2 * j) (by omega)
          obtain rfl : o = ox := by simpa using oe
          obtain rfl : x = xx := by rw [hx] at hxx; exact Option.some.inj hxx
          obtain ⟨oy, yy, oe2, hyy, cy⟩ := hvr.at (3 + 2 * j) (by omega)
          obtain rfl : o = oy := by simpa using oe2
          obtain rfl : y = yy := by rw [hy] at hyy; exact Option.some.inj hyy
          have htk : cs.take (j + 1) = cs.take j ++ [⟨B x, kindW y⟩] := by rw [List.take_add_one, hc]; rfl
          have HL := Lib.hid htk
          have d1 := hT.cell 1
          simp only [List.getElem?_cons_zero, List.getElem?_cons_succ] at d1
          have nk := fun U => rKind_any U y
          have htl := hT.lt
          have hown : ∀ b' ∈ vo.ownBlock.toList, tb + 1 ≤ b' := own_ge hO
          have htX : tb ∉ vo.ownBlock.toList := fun hm => by have := hown _ hm; omega
          have hpX : ob ∉ vo.ownBlock.toList := fun hm => by have := hown _ hm; omega
          have i1 : (2 : Int) + 2 * (j : Int) < (ws.length : Int) := by omega
          have i2 : (3 : Int) + 2 * (j : Int) < (ws.length : Int) := by omega
          have i3 : (0 : Int) ≤ 2 + 2 * (j : Int) := by omega
          have i4 : (0 : Int) ≤ 3 + 2 * (j : Int) := by omega
          have i5 : IntKind.i64.wrap (2 * (j : Int)) = 2 * (j : Int) := by rw [IntKind.wrap_i64]; omega
          have i6 : IntKind.i64.wrap (2 + 2 * (j : Int)) = 2 + 2 * (j : Int) := by rw [IntKind.wrap_i64]; omega
          have i7 : IntKind.i64.wrap (3 + 2 * (j : Int)) = 3 + 2 * (j : Int) := by rw [IntKind.wrap_i64]; omega
          have i8 : (2 + 2 * (j : Int)).toNat = 2 + 2 * j := by omega
          have i9 : (3 + 2 * (j : Int)).toNat = 3 + 2 * j := by omega
          clear hx hy hc htk hxx hyy oe oe2
          go_upto_region 7 with (fail)
          have eD := (Ext.refl [] wr).drew
          have hX := hX.drew
          have hO := own_drew hO
          have hB := hT.drew
          have hbX : tb + 1 ≤ wr.drew.heap.size := hbX
          have hS0 : ((wr.drew).cell? ⟨tb, 1, none⟩ = some vo ∧ (wr.drew).cell? ⟨ob, o + (2 + 2 * j), none⟩ = some (.string (B x)) ∧ (wr.drew).cell? ⟨ob, o + (3 + 2 * j), none⟩ = some (.string (B y)) ∧ Ext [] W wr.drew) := ⟨d1, cx, cy, hX⟩
          refine region_but (fun u => ((u).cell? ⟨tb, 1, none⟩ = some vo ∧ (u).cell? ⟨ob, o + (2 + 2 * j), none⟩ = some (.string (B x)) ∧ (u).cell? ⟨ob, o + (3 + 2 * j), none⟩ = some (.string (B y)) ∧ Ext [] W u)) [19] 20 rfl (by kernel_rfl) ?_
          clear d1 cx cy eD hvr hT
          generalize wr.drew = U0 at *
          refine HeldBut.take (i := 0) (v := ?_) rfl (by kernel_rfl) (by kernel_rfl) (by kernel_rfl) (by kernel_rfl) (fun _ _ _ h => h) (Or.inl ⟨by kernel_rfl, ?_⟩) hS0 ?_; rotate_left 1; (focus (intro u hu; (try dsimp only at hu); go_simp; try with_reducible rfl)); (try simp only [List.getElem_toArray, List.getElem_cons_zero, List.getElem_cons_succ]); (try simp only [Act.put, List.setIfInBounds_toArray, List.set_cons_zero, List.set_cons_succ])
          refine HeldBut.take (i := 1) (v := ?_) rfl (by kernel_rfl) (by kernel_rfl) (by kernel_rfl) (by kernel_rfl) (fun _ _ _ h => h) (Or.inl ⟨by kernel_rfl, ?_⟩) hS0 ?_; rotate_left 1; (focus (intro u hu; (try dsimp only at hu); go_simp; try with_reducible rfl)); (try simp only [List.getElem_toArray, List.getElem_cons_zero, List.getElem_cons_succ]); (try simp only [Act.put, List.setIfInBounds_toArray, List.set_cons_zero, List.set_cons_succ])
          refine HeldBut.take (i := 2) (v := ?_) rfl (by kernel_rfl) (by kernel_rfl) (by kernel_rfl) (by kernel_rfl) (fun _ _ _ h => h) (Or.inl ⟨by kernel_rfl, ?_⟩) hS0 ?_; rotate_left 1; (focus (intro u hu; (try dsimp only at hu); go_simp; try with_reducible rfl)); (try simp only [List.getElem_toArray, List.getElem_cons_zero, List.getElem_cons_succ]); (try simp only [Act.put, List.setIfInBounds_toArray, List.set_cons_zero, List.set_cons_succ])
          refine HeldBut.take (i := 3) (v := ?_) rfl (by kernel_rfl) (by kernel_rfl) (by kernel_rfl) (by kernel_rfl) (fun _ _ _ h => h) (Or.inl ⟨by kernel_rfl, ?_⟩) hS0 ?_; rotate_left 1; (focus (intro u hu; (try dsimp only at hu); go_simp; try with_reducible rfl)); (try simp only [List.getElem_toArray, List.getElem_cons_zero, List.getElem_cons_succ]); (try simp only [Act.put, List.setIfInBounds_toArray, List.set_cons_zero, List.set_cons_succ])
          refine HeldBut.take (i := 4) (v := ?_) rfl (by kernel_rfl) (by kernel_rfl) (by kernel_rfl) (by kernel_rfl) (fun _ _ _ h => h) (Or.inl ⟨by kernel_rfl, ?_⟩) hS0 ?_; rotate_left 1; (focus (intro u hu; (try dsimp only at hu); go_simp; try with_reducible rfl)); (try simp only [List.getElem_toArray, List.getElem_cons_zero, List.getElem_cons_succ]); (try simp only [Act.put, List.setIfInBounds_toArray, List.set_cons_zero, List.set_cons_succ])
          refine HeldBut.take (i := 5) (v := ?_) rfl (by kernel_rfl) (by kernel_rfl) (by kernel_rfl) (by kernel_rfl) (fun _ _ _ h => h) (Or.inl ⟨by kernel_rfl, ?_⟩) hS0 ?_; rotate_left 1; (focus (intro u hu; (try dsimp only at hu); go_simp; try with_reducible rfl)); (try simp only [List.getElem_toArray, List.getElem_cons_zero, List.getElem_cons_succ]); (try simp only [Act.put, List.setIfInBounds_toArray, List.set_cons_zero, List.set_cons_succ])
          refine HeldBut.take (i := 6) (v := ?_) rfl (by kernel_rfl) (by kernel_rfl) (by kernel_rfl) (by kernel_rfl) (fun _ _ _ h => h) (Or.inl ⟨by kernel_rfl, ?_⟩) hS0 ?_; rotate_left 1; (focus (intro u hu; (try dsimp only at hu); go_simp; try with_reducible rfl)); (try simp only [List.getElem_toArray, List.getElem_cons_zero, List.getElem_cons_succ]); (try simp only [Act.put, List.setIfInBounds_toArray, List.set_cons_zero, List.set_cons_succ])
          refine HeldBut.take (i := 7) (v := ?_) rfl (by kernel_rfl) (by kernel_rfl) (by kernel_rfl) (by kernel_rfl) (fun _ _ _ h => h) (Or.inl ⟨by kernel_rfl, ?_⟩) hS0 ?_; rotate_left 1; (focus (intro u hu; (try dsimp only at hu); go_simp; try with_reducible rfl)); (try simp only [List.getElem_toArray, List.getElem_cons_zero, List.getElem_cons_succ]); (try simp only [Act.put, List.setIfInBounds_toArray, List.set_cons_zero, List.set_cons_succ])
          refine HeldBut.take (i := 8) (v := ?_) rfl (by kernel_rfl) (by kernel_rfl) (by kernel_rfl) (by kernel_rfl) (fun _ _ _ h => h) (Or.inl ⟨by kernel_rfl, ?_⟩) hS0 ?_; rotate_left 1; (focus (intro u hu; (try dsimp only at hu); go_simp; try with_reducible rfl)); (try simp only [List.getElem_toArray, List.getElem_cons_zero, List.getElem_cons_succ]); (try simp only [Act.put, List.setIfInBounds_toArray, List.set_cons_zero, List.set_cons_succ])
          refine HeldBut.take (i := 9) (v := ?_) rfl (by kernel_rfl) (by kernel_rfl) (by kernel_rfl) (by kernel_rfl) (fun _ _ _ h => h) (Or.inl ⟨by kernel_rfl, ?_⟩) hS0 ?_; rotate_left 1; (focus (intro u hu; (try dsimp only at hu); go_simp; try with_reducible rfl)); (try simp only [List.getElem_toArray, List.getElem_cons_zero, List.getElem_cons_succ]); (try simp only [Act.put, List.setIfInBounds_toArray, List.set_cons_zero, List.set_cons_succ])
          refine HeldBut.take (i := 10) (v := ?_) rfl (by kernel_rfl) (by kernel_rfl) (by kernel_rfl) (by kernel_rfl) (fun _ _ _ h => h) (Or.inl ⟨by kernel_rfl, ?_⟩) hS0 ?_; rotate_left 1; (focus (intro u hu; (try dsimp only at hu); go_simp; try with_reducible rfl)); (try simp only [List.getElem_toArray, List.getElem_cons_zero, List.getElem_cons_succ]); (try simp only [Act.put, List.setIfInBounds_toArray, List.set_cons_zero, List.set_cons_succ])
          refine HeldBut.take (i := 11) (v := ?_) rfl (by kernel_rfl) (by kernel_rfl) (by kernel_rfl) (by kernel_rfl) (fun _ _ _ h => h) (Or.inl ⟨by kernel_rfl, ?_⟩) hS0 ?_; rotate_left 1; (focus (intro u hu; (try dsimp only at hu); go_simp; try with_reducible rfl)); (try simp only [List.getElem_toArray, List.getElem_cons_zero, List.getElem_cons_succ]); (try simp only [Act.put, List.setIfInBounds_toArray, List.set_cons_zero, List.set_cons_succ])
          refine HeldBut.take (i := 12) (v := ?_) rfl (by kernel_rfl) (by kernel_rfl) (by kernel_rfl) (by kernel_rfl) (fun _ _ _ h => h) (Or.inl ⟨by kernel_rfl, ?_⟩) hS0 ?_; rotate_left 1; (focus (intro u hu; (try dsimp only at hu); go_simp; try with_reducible rfl)); (try simp only [List.getElem_toArray, List.getElem_cons_zero, List.getElem_cons_succ]); (try simp only [Act.put, List.setIfInBounds_toArray, List.set_cons_zero, List.set_cons_succ])
          refine HeldBut.take (i := 13) (v := ?_) rfl (by kernel_rfl) (by kernel_rfl) (by kernel_rfl) (by kernel_rfl) (fun _ _ _ h => h) (Or.inl ⟨by kernel_rfl, ?_⟩) hS0 ?_; rotate_left 1; (focus (intro u hu; (try dsimp only at hu); go_simp; try with_reducible rfl)); (try simp only [List.getElem_toArray, List.getElem_cons_zero, List.getElem_cons_succ]); (try simp only [Act.put, List.setIfInBounds_toArray, List.set_cons_zero, List.set_cons_succ])
          refine HeldBut.one (i := 14) (by kernel_rfl) ?_
          refine HeldBut.step (i := 14) rfl (fun K hK => ?_)
          try simp only [List.getElem_toArray, List.getElem_cons_zero, List.getElem_cons_succ]
          go_simp
          go_at_call 71
          (with_reducible refine (nk _).mono ?_)
          rintro e w5 ⟨rfl, rfl⟩
          dsimp only
          refine hK.out _ _ (fun _ => hS0) ?_; clear hK K
          (try simp only [List.getElem_toArray, List.getElem_cons_zero, List.getElem_cons_succ]); (try simp only [Act.put, List.setIfInBounds_toArray, List.set_cons_zero, List.set_cons_succ])
          refine HeldBut.take (i := 15) (v := ?_) rfl (by kernel_rfl) (by kernel_rfl) (by kernel_rfl) (by kernel_rfl) (fun _ _ _ h => h) (Or.inl ⟨by kernel_rfl, ?_⟩) hS0 ?_; rotate_left 1; (focus (intro u hu; (try dsimp only at hu); go_simp; try with_reducible rfl)); (try simp only [List.getElem_toArray, List.getElem_cons_zero, List.getElem_cons_succ]); (try simp only [Act.put, List.setIfInBounds_toArray, List.set_cons_zero, List.set_cons_succ])
          refine HeldBut.one (i := 16) (by kernel_rfl) ?_
          refine HeldBut.step (i := 16) rfl (fun K hK => ?_)
          try simp only [List.getElem_toArray, List.getElem_cons_zero, List.getElem_cons_succ]
          go_simp
          have e7 := (Ext.refl [] U0).alloc (.cells #[.string (B x), .int .i64 (kindW y)] 67)
          have hS1 : (((U0.alloc (.cells #[.string (B x), .int .i64 (kindW y)] 67))).cell? ⟨tb, 1, none⟩ = some vo ∧ ((U0.alloc (.cells #[.string (B x), .int .i64 (kindW y)] 67))).cell? ⟨ob, o + (2 + 2 * j), none⟩ = some (.string (B x)) ∧ ((U0.alloc (.cells #[.string (B x), .int .i64 (kindW y)] 67))).cell? ⟨ob, o + (3 + 2 * j), none⟩ = some (.string (B y)) ∧ Ext [] W (U0.alloc (.cells #[.string (B x), .int .i64 (kindW y)] 67))) := ⟨cells_ext e7 hS0.1, cells_ext e7 hS0.2.1, cells_ext e7 hS0.2.2.1, hS0.2.2.2.trans e7⟩
          have s7 : Sl (U0.alloc (.cells #[.string (B x), .int .i64 (kindW y)] 67)) (.slice (some ⟨U0.heap.size, 0, none⟩) 1 1) U0.heap.size 2 1 (crows [⟨B x, kindW y⟩]) := Cs.lit U0 [⟨B x, kindW y⟩] 67 (by simp)
          have hO := own_ext hO e7 (by simp)
          have hB := hB.ext e7 (by simp)
          have hbX := Nat.le_trans hbX e7.size
          refine hK.out _ _ (fun _ => hS1) ?_; clear hK K
          (try simp only [List.getElem_toArray, List.getElem_cons_zero, List.getElem_cons_succ]); (try simp only [Act.put, List.setIfInBounds_toArray, List.set_cons_zero, List.set_cons_succ])
          clear hS0 e7
          have hS0 := hS1; clear hS1
          generalize U0.alloc (.cells #[.string (B x), .int .i64 (kindW y)] 67) = U7 at *
          refine HeldBut.one (i := 17) (by kernel_rfl) ?_
          refine HeldBut.step (i := 17) rfl (fun K hK => ?_)
          refine step_append_any TCol (by rfl) (.tmp 33) (.tmp 48) (by rfl) (by rfl) (by rfl) hO s7 (crows_one _) (by unfold maxLen; omega) (by omega) hbX ?_
          intro v8 w8 hO8 e8
          obtain ⟨a8, c8, rfl⟩ := sl_shape (Sl.of_own hO8).choose_spec.1
          have hS1 : ((w8).cell? ⟨tb, 1, none⟩ = some vo ∧ (w8).cell? ⟨ob, o + (2 + 2 * j), none⟩ = some (.string (B x)) ∧ (w8).cell? ⟨ob, o + (3 + 2 * j), none⟩ = some (.string (B y)) ∧ Ext [] W w8) := ⟨e8.read hS0.1 htX, e8.read hS0.2.1 hpX, e8.read hS0.2.2.1 hpX, hS0.2.2.2.trans' e8 (fun i hi => .inr (by have := hown _ hi; omega))⟩
          have hB := hB.ext e8 htX
          have hbX := Nat.le_trans hbX e8.size
          refine hK.out _ _ (fun _ => hS1) ?_; clear hK K
          (try simp only [List.getElem_toArray, List.getElem_cons_zero, List.getElem_cons_succ]); (try simp only [Act.put, List.setIfInBounds_toArray, List.set_cons_zero, List.set_cons_succ])
          clear hS0 e8
          have hS0 := hS1; clear hS1
          have z8 := hB.frozen 1
          refine HeldBut.take (i := 18) (v := ?_) rfl (by kernel_rfl) (by kernel_rfl) (by kernel_rfl) (by kernel_rfl) (fun _ _ _ h => h) (Or.inl ⟨by kernel_rfl, ?_⟩) hS0 ?_; rotate_left 1; (focus (intro u hu; (try dsimp only at hu); go_simp; try with_reducible rfl)); (try simp only [List.getElem_toArray, List.getElem_cons_zero, List.getElem_cons_succ]); (try simp only [Act.put, List.setIfInBounds_toArray, List.set_cons_zero, List.set_cons_succ])
          refine HeldBut.one (i := 19) (by kernel_rfl) ?_
          refine HeldBut.step (i := 19) rfl (fun K hK => ?_)
          try simp only [List.getElem_toArray, List.getElem_cons_zero, List.getElem_cons_succ]
          go_simp
          refine hK.out _ _ (fun h => (h (by simp)).elim) ?_; clear hK K
          (try simp only [List.getElem_toArray, List.getElem_cons_zero, List.getElem_cons_succ]); (try simp only [Act.put, List.setIfInBounds_toArray, List.set_cons_zero, List.set_cons_succ])
          refine HeldBut.done (by kernel_rfl) ?_ _
          have e9 := (Ext.refl [tb] w8).setCell (p := ⟨tb, 1, none⟩) (.inl (by simp)) (.slice a8 (j + 1) c8)
          have hB9 := hB.sets 1 (.slice a8 (j + 1) c8) rfl
          have hO9 : (w8.setCell ⟨tb, 1, none⟩ (.slice a8 (j + 1) c8)).ownsRow (tb + 1) 67 2 (.slice a8 (j + 1) c8) (j + 1) (crows (cs.take (j + 1))) := by
            rw [HL.out, crows_append]
            exact own_ext hO8 e9 (fun k' hk' hm => by have := (hO8.lt k' hk').1; simp at hm; omega)
          have HH := Lib.hid (And.intro hB9 (And.intro hO9 (And.intro (hS0.2.2.2.trans' e9 (fun i hi => .inr (by simp at hi; omega))) (Nat.le_trans hbX e9.size))))
          clear hB hO8 hS0 hO s7 hB9 hO9 e9 hbX
          go_wp2_with (fail)
          exact ⟨⟨j + 1, .slice a8 (j + 1) c8, by omega, by go_num, HH.out.1, HH.out.2.1, HH.out.2.2.1, HH.out.2.2.2⟩, by simp [intOf]; omega⟩
        · have hjn : j = n := by omega
          subst j
          rw [List.take_of_length_le (by omega)] at hO
          have hRr := hR0.ext hX (by simp)
          have htl := hT.lt
          obtain ⟨oc, hoc, hocl, hCs⟩ := own_slP hO (show ob < wr.heap.size by omega)
          have hCs : Cs wr vo oc cs := by unfold Cs; rw [hcl]; exact hCs
          obtain ⟨av1, cv1, rfl⟩ := hCs.shape
          have hoct : oc ≠ tb := by omega
          have d0 := hT.cell 0
          have d1 := hT.cell 1
          have d2 := hT.cell 2
          simp only [List.getElem?_cons_zero, List.getElem?_cons_succ] at d0 d1 d2
          obtain ⟨a2, hs2, hSl⟩ := Sl.tail hvr (2 + 2 * n) (by omega)
          obtain ⟨rs, hrs⟩ : ∃ rs, ws.drop (2 + 2 * n) = rs := ⟨_, rfl⟩
          have hrl : ws.length - (2 + 2 * n) = rs.length := by rw [← hrs, List.length_drop]
          rw [hrl] at hs2 hSl
          have hSr : Ss wr (.slice a2 rs.length (c - (2 + 2 * n))) ob rs := by
            unfold Ss
            rw [Nat.mul_one, ← List.map_drop, hrs] at hSl
            exact hSl
          have sB : ∀ U, (Instr.slice 71 (.slice (some ⟨ob, o, none⟩) ws.length c) (some (.int .i64 (2 + 2 * (n : Int)))) none none).run Tryz.prog U = .ok (.slice a2 rs.length (c - (2 + 2 * n))) U := fun U => by
            rw [run_slice_l U 71 _ ws.length c (by kernel_rfl) .i64 (2 + 2 * (n : Int)) (by omega) (by omega), show Tryz.prog.elem 71 = 9 by kernel_rfl, show (sizeOf 9).run Tryz.prog U = .ok 1 U from Tryz.sizeOf9 U]
            rw [← hs2, show (2 + 2 * (n : Int)).toNat = 2 + 2 * n by omega]
            rfl
          generalize c - (2 + 2 * n) = cr at *
          have HT := Lib.hid (And.intro hT (And.intro hCs hSr))
          clear hvr hSl hT hO hCs hs2 hcat
          by_cases hok : rs = [] ∨ (2 ≤ rs.length ∧ rs[0]? = some wBy)
          · have HOK : Hid (readOk ws n = true) := readOk_yes H2.out.2.2.1 H2.out.1 (by rw [hrs]; exact hok)
            go_upto_region 9 with (fail)
            go_cut [69] (fun s wx => s = .bool false ∧ wx = wr)
            case first =>
              rcases hok with rfl | ⟨hr2, hr0⟩
              · go_wp2_with (fail)
                go_meet
                exact ⟨rfl, rfl⟩
              · obtain ⟨o2, x2, rfl, hx2, c2⟩ := HT.out.2.2.at 0 (by omega)
                rw [Nat.add_zero] at c2
                obtain rfl : x2 = wBy := by rw [hr0] at hx2; exact (Option.some.inj hx2).symm
                have hby : B wBy = ⟨#[98, 121]⟩ := rfl
                rw [hby] at c2
                have r1 : decide (0 < rs.length) = true := by simp; omega
                have r2 : decide (rs.length < 2) = false := by simp; omega
                have r3 : decide ((0 : Int) < (rs.length : Int)) = true := by simp; omega
                have r4 : decide ((rs.length : Int) < 2) = false := by simp; omega
                have r5 : (0 : Int) < (rs.length : Int) := by omega
                clear hr0 hx2
                go_wp2_with (fail)
                go_meet
                exact ⟨rfl, rfl⟩
            case rest =>
              obtain ⟨rfl, rfl⟩ := hcut
              obtain ⟨hT, hCs, hSr⟩ := HT.out
              obtain ⟨ks, hks⟩ : ∃ ks, (rs.drop 1).map (keyI cs) = ks := ⟨_, rfl⟩
              have hkl : ks.length = rs.length - 1 := by rw [← hks, List.length_map, List.length_drop]
              have hkat : ∀ q, q < ks.length → ∃ x, rs[q + 1]? = some x ∧ ks[q]? = some (keyI cs x) := by
                intro q hq
                obtain ⟨x, hx⟩ := nth_some (l := rs) (k := q + 1) (by omega)
                exact ⟨x, hx, by rw [← hks, List.getElem?_map, List.getElem?_drop, Nat.add_comm 1 q, hx]; rfl⟩
              have hkat := Lib.hid hkat
              have HA : Hid (readAt ws n = ⟨B nm, cs, ks⟩) := by
                show _ = _
                unfold readAt
                rw [H2.out.2.2.2, hrs, hks]
                have : ws.getD 1 [] = nm := by rw [List.getD_eq_getElem?_getD, H2.out.2.1]; rfl
                rw [this]
              have hrl2 : rs.length ≤ 6000 := by omega
              clear HT hrs hks
              generalize wc = V at *
              have hVW := hX
              have HCL := Lib.hid hcl
              have hcm : cs.length ≤ maxLen := by unfold maxLen; omega
              clear hcl
              go_wp2_with (fail)
              go_loopw [9] (fun i vr => ∃ (q : Nat) (ko : Value), q ≤ ks.length ∧ i = .int .i64 ((q + 1 : Nat) : Int) ∧ Blk vr tb 41 [.string (B nm), .slice av1 cs.length cv1, ko] ∧ vr.ownsRow V.heap.size 3 1 ko q ((ks.take q).map IV) ∧ Ext [tb] V vr) (fun i _ => ks.length + 1 - (intOf i).toNat)
              case atStart => exact ⟨0, .slice none 0 0, by omega, rfl, hT, World.ownsRow_nil _ _ _ _, Ext.refl _ _⟩
              case round =>
                obtain ⟨q, ko, hq, rfl, hT, hO, hX⟩ := hrel
                obtain ⟨ka, kc, rfl⟩ := sl_shape (Sl.of_own hO).choose_spec.1
                have hobt : ob ∉ [tb] := by simp; omega
                have hoct' : oc ∉ [tb] := by simpa using hoct
                have hSv := Sl.ext hSr hX hobt
                have hCv := Cs.ext hCs hX hoct'
                have t0 := hT.cell 0
                have t1 := hT.cell 1
                have t2 := hT.cell 2
                simp only [List.getElem?_cons_zero, List.getElem?_cons_succ] at t0 t1 t2
                by_cases hlt : q < ks.length
                · obtain ⟨x, hx, hk⟩ := hkat.out q hlt
                  obtain ⟨o2, x2, rfl, hx2, c2⟩ := Ss.at hSv (q + 1) (by omega)
                  obtain rfl : x = x2 := by rw [hx] at hx2; exact Option.some.inj hx2
                  have rcol := fun U (y : Ext [tb] V U) => rColumn_any U (B nm) av1 cv1 ka q kc oc cs (B x) (Cs.ext hCs y hoct') hcm
                  rw [← keyI_eq] at rcol
                  have htk : ks.take (q + 1) = ks.take q ++ [keyI cs x] := by rw [List.take_add_one, hk]; rfl
                  generalize keyI cs x = KI at *
                  have HL := Lib.hid htk
                  have htl2 := hT.lt
                  have hVs : tb < V.heap.size := by omega
                  have hown : ∀ b' ∈ (Value.slice ka q kc).ownBlock.toList, V.heap.size ≤ b' := own_ge hO
                  have htX : tb ∉ (Value.slice ka q kc).ownBlock.toList := fun hm => by have := hown _ hm; omega
                  have hpX : ob ∉ (Value.slice ka q kc).ownBlock.toList := fun hm => by have := hown _ hm; omega
                  have i1 : ((q : Int) + 1) < (rs.length : Int) := by omega
                  have i2 : (0 : Int) ≤ (q : Int) + 1 := by omega
                  have i3 : ((q : Int) + 1).toNat = q + 1 := by omega
                  clear hx hx2 hk htk hSv hCv
                  go_upto_region 14 with (fail)
                  have hX := hX.drew
                  have hO := own_drew hO
                  have hB := hT.drew
                  have hbX : V.heap.size ≤ wr.drew.heap.size := hX.size
                  have hS0 : ((wr.drew).cell? ⟨tb, 0, none⟩ = some (.string (B nm)) ∧ (wr.drew).cell? ⟨tb, 1, none⟩ = some (.slice av1 cs.length cv1) ∧ (wr.drew).cell? ⟨tb, 2, none⟩ = some (.slice ka q kc) ∧ (wr.drew).cell? ⟨ob, o2 + (q + 1), none⟩ = some (.string (B x)) ∧ Ext [tb] V wr.drew) := ⟨t0, t1, t2, c2, hX⟩
                  refine region_but (fun u => ((u).cell? ⟨tb, 0, none⟩ = some (.string (B nm)) ∧ (u).cell? ⟨tb, 1, none⟩ = some (.slice av1 cs.length cv1) ∧ (u).cell? ⟨tb, 2, none⟩ = some (.slice ka q kc) ∧ (u).cell? ⟨ob, o2 + (q + 1), none⟩ = some (.string (B x)) ∧ Ext [tb] V u)) [11] 12 rfl (by kernel_rfl) ?_
                  clear t0 t1 t2 c2 hT
                  generalize wr.drew = U0 at *
                  refine HeldBut.take (i := 0) (v := ?_) rfl (by kernel_rfl) (by kernel_rfl) (by kernel_rfl) (by kernel_rfl) (fun _ _ _ h => h) (Or.inl ⟨by kernel_rfl, ?_⟩) hS0 ?_; rotate_left 1; (focus (intro u hu; (try dsimp only at hu); go_simp; try with_reducible rfl)); (try simp only [List.getElem_toArray, List.getElem_cons_zero, List.getElem_cons_succ]); (try simp only [Act.put, List.setIfInBounds_toArray, List.set_cons_zero, List.set_cons_succ])
                  refine HeldBut.take (i := 1) (v := ?_) rfl (by kernel_rfl) (by kernel_rfl) (by kernel_rfl) (by kernel_rfl) (fun _ _ _ h => h) (Or.inl ⟨by kernel_rfl, ?_⟩) hS0 ?_; rotate_left 1; (focus (intro u hu; (try dsimp only at hu); go_simp; try with_reducible rfl)); (try simp only [List.getElem_toArray, List.getElem_cons_zero, List.getElem_cons_succ]); (try simp only [Act.put, List.setIfInBounds_toArray, List.set_cons_zero, List.set_cons_succ])
                  refine HeldBut.take (i := 2) (v := ?_) rfl (by kernel_rfl) (by kernel_rfl) (by kernel_rfl) (by kernel_rfl) (fun _ _ _ h => h) (Or.inl ⟨by kernel_rfl, ?_⟩) hS0 ?_; rotate_left 1; (focus (intro u hu; (try dsimp only at hu); go_simp; try with_reducible rfl)); (try simp only [List.getElem_toArray, List.getElem_cons_zero, List.getElem_cons_succ]); (try simp only [Act.put, List.setIfInBounds_toArray, List.set_cons_zero, List.set_cons_succ])
                  refine HeldBut.take (i := 3) (v := ?_) rfl (by kernel_rfl) (by kernel_rfl) (by kernel_rfl) (by kernel_rfl) (fun _ _ _ h => h) (Or.inl ⟨by kernel_rfl, ?_⟩) hS0 ?_; rotate_left 1; (focus (intro u hu; (try dsimp only at hu); go_simp; try with_reducible rfl)); (try simp only [List.getElem_toArray, List.getElem_cons_zero, List.getElem_cons_succ]); (try simp only [Act.put, List.setIfInBounds_toArray, List.set_cons_zero, List.set_cons_succ])
                  refine HeldBut.take (i := 4) (v := ?_) rfl (by kernel_rfl) (by kernel_rfl) (by kernel_rfl) (by kernel_rfl) (fun _ _ _ h => h) (Or.inl ⟨by kernel_rfl, ?_⟩) hS0 ?_; rotate_left 1; (focus (intro u hu; (try dsimp only at hu); go_simp; try with_reducible rfl)); (try simp only [List.getElem_toArray, List.getElem_cons_zero, List.getElem_cons_succ]); (try simp only [Act.put, List.setIfInBounds_toArray, List.set_cons_zero, List.set_cons_succ])
                  refine HeldBut.take (i := 5) (v := ?_) rfl (by kernel_rfl) (by kernel_rfl) (by kernel_rfl) (by kernel_rfl) (fun _ _ _ h => h) (Or.inl ⟨by kernel_rfl, ?_⟩) hS0 ?_; rotate_left 1; (focus (intro u hu; (try dsimp only at hu); go_simp; try with_reducible rfl)); (try simp only [List.getElem_toArray, List.getElem_cons_zero, List.getElem_cons_succ]); (try simp only [Act.put, List.setIfInBounds_toArray, List.set_cons_zero, List.set_cons_succ])
                  refine HeldBut.take (i := 6) (v := ?_) rfl (by kernel_rfl) (by kernel_rfl) (by kernel_rfl) (by kernel_rfl) (fun _ _ _ h => h) (Or.inl ⟨by kernel_rfl, ?_⟩) hS0 ?_; rotate_left 1; (focus (intro u hu; (try dsimp only at hu); go_simp; try with_reducible rfl)); (try simp only [List.getElem_toArray, List.getElem_cons_zero, List.getElem_cons_succ]); (try simp only [Act.put, List.setIfInBounds_toArray, List.set_cons_zero, List.set_cons_succ])
                  refine HeldBut.one (i := 7) (by kernel_rfl) ?_
                  refine HeldBut.step (i := 7) rfl (fun K hK => ?_)
                  try simp only [List.getElem_toArray, List.getElem_cons_zero, List.getElem_cons_succ]
                  go_simp
                  go_at_call 72
                  (with_reducible refine (rcol _ hS0.2.2.2.2).mono ?_)
                  rintro e w5 ⟨rfl, x5⟩
                  have hS1 : ((w5).cell? ⟨tb, 0, none⟩ = some (.string (B nm)) ∧ (w5).cell? ⟨tb, 1, none⟩ = some (.slice av1 cs.length cv1) ∧ (w5).cell? ⟨tb, 2, none⟩ = some (.slice ka q kc) ∧ (w5).cell? ⟨ob, o2 + (q + 1), none⟩ = some (.string (B x)) ∧ Ext [tb] V w5) := ⟨cells_ext x5 hS0.1, cells_ext x5 hS0.2.1, cells_ext x5 hS0.2.2.1, cells_ext x5 hS0.2.2.2.1, hS0.2.2.2.2.trans' x5 (by simp)⟩
                  have hO := own_ext hO x5 (by simp)
                  have hB := hB.ext x5 (by simp)
                  have hbX := Nat.le_trans hbX x5.size
                  dsimp only
                  refine hK.out _ _ (fun _ => hS1) ?_; clear hK K
                  (try simp only [List.getElem_toArray, List.getElem_cons_zero, List.getElem_cons_succ]); (try simp only [Act.put, List.setIfInBounds_toArray, List.set_cons_zero, List.set_cons_succ])
                  clear hS0 x5
                  have hS0 := hS1; clear hS1
                  refine HeldBut.one (i := 8) (by kernel_rfl) ?_
                  refine HeldBut.step (i := 8) rfl (fun K hK => ?_)
                  try simp only [List.getElem_toArray, List.getElem_cons_zero, List.getElem_cons_succ]
                  go_simp
                  have e7 := (Ext.refl [] w5).alloc (.cells #[.int .i64 KI] 3)
                  have hS1 : (((w5.alloc (.cells #[.int .i64 KI] 3))).cell? ⟨tb, 0, none⟩ = some (.string (B nm)) ∧ ((w5.alloc (.cells #[.int .i64 KI] 3))).cell? ⟨tb, 1, none⟩ = some (.slice av1 cs.length cv1) ∧ ((w5.alloc (.cells #[.int .i64 KI] 3))).cell? ⟨tb, 2, none⟩ = some (.slice ka q kc) ∧ ((w5.alloc (.cells #[.int .i64 KI] 3))).cell? ⟨ob, o2 + (q + 1), none⟩ = some (.string (B x)) ∧ Ext [tb] V (w5.alloc (.cells #[.int .i64 KI] 3))) := ⟨cells_ext e7 hS0.1, cells_ext e7 hS0.2.1, cells_ext e7 hS0.2.2.1, cells_ext e7 hS0.2.2.2.1, hS0.2.2.2.2.trans' e7 (by simp)⟩
                  have s7 := Sl.one w5 (.int .i64 KI) 3
                  have hO := own_ext hO e7 (by simp)
                  have hB := hB.ext e7 (by simp)
                  have hbX := Nat.le_trans hbX e7.size
                  refine hK.out _ _ (fun _ => hS1) ?_; clear hK K
                  (try simp only [List.getElem_toArray, List.getElem_cons_zero, List.getElem_cons_succ]); (try simp only [Act.put, List.setIfInBounds_toArray, List.set_cons_zero, List.set_cons_succ])
                  clear hS0 e7
                  have hS0 := hS1; clear hS1
                  generalize w5.alloc (.cells #[.int .i64 KI] 3) = U7 at *
                  refine HeldBut.one (i := 9) (by kernel_rfl) ?_
                  refine HeldBut.step (i := 9) rfl (fun K hK => ?_)
                  refine step_append_any TInt (by rfl) (.tmp 78) (.tmp 85) (by rfl) (by rfl) (by rfl) hO s7 (by intro u hu; simp at hu; subst hu; rfl) (by unfold maxLen; omega) (by omega) hbX ?_
                  intro v8 w8 hO8 e8
                  obtain ⟨a8, c8, rfl⟩ := sl_shape (Sl.of_own hO8).choose_spec.1
                  have hS1 : ((w8).cell? ⟨tb, 0, none⟩ = some (.string (B nm)) ∧ (w8).cell? ⟨tb, 1, none⟩ = some (.slice av1 cs.length cv1) ∧ (w8).cell? ⟨tb, 2, none⟩ = some (.slice ka q kc) ∧ (w8).cell? ⟨ob, o2 + (q + 1), none⟩ = some (.string (B x)) ∧ Ext [tb] V w8) := ⟨e8.read hS0.1 htX, e8.read hS0.2.1 htX, e8.read hS0.2.2.1 htX, e8.read hS0.2.2.2.1 hpX, hS0.2.2.2.2.trans' e8 (fun i hi => .inr (hown _ hi))⟩
                  have hB := hB.ext e8 htX
                  have hbX := Nat.le_trans hbX e8.size
                  refine hK.out _ _ (fun _ => hS1) ?_; clear hK K
                  (try simp only [List.getElem_toArray, List.getElem_cons_zero, List.getElem_cons_succ]); (try simp only [Act.put, List.setIfInBounds_toArray, List.set_cons_zero, List.set_cons_succ])
                  clear hS0 e8
                  have hS0 := hS1; clear hS1
                  have z8 := hB.frozen 2
                  refine HeldBut.take (i := 10) (v := ?_) rfl (by kernel_rfl) (by kernel_rfl) (by kernel_rfl) (by kernel_rfl) (fun _ _ _ h => h) (Or.inl ⟨by kernel_rfl, ?_⟩) hS0 ?_; rotate_left 1; (focus (intro u hu; (try dsimp only at hu); go_simp; try with_reducible rfl)); (try simp only [List.getElem_toArray, List.getElem_cons_zero, List.getElem_cons_succ]); (try simp only [Act.put, List.setIfInBounds_toArray, List.set_cons_zero, List.set_cons_succ])
                  refine HeldBut.one (i := 11) (by kernel_rfl) ?_
                  refine HeldBut.step (i := 11) rfl (fun K hK => ?_)
                  try simp only [List.getElem_toArray, List.getElem_cons_zero, List.getElem_cons_succ]
                  go_simp
                  refine hK.out _ _ (fun h => (h (by simp)).elim) ?_; clear hK K
                  (try simp only [List.getElem_toArray, List.getElem_cons_zero, List.getElem_cons_succ]); (try simp only [Act.put, List.setIfInBounds_toArray, List.set_cons_zero, List.set_cons_succ])
                  refine HeldBut.done (by kernel_rfl) ?_ _
                  have e9 := (Ext.refl [tb] w8).setCell (p := ⟨tb, 2, none⟩) (.inl (by simp)) (.slice a8 (q + 1) c8)
                  have hB9 := hB.sets 2 (.slice a8 (q + 1) c8) rfl
                  have hO9 : (w8.setCell ⟨tb, 2, none⟩ (.slice a8 (q + 1) c8)).ownsRow V.heap.size 3 1 (.slice a8 (q + 1) c8) (q + 1) ((ks.take (q + 1)).map IV) := by
                    rw [HL.out, List.map_append]
                    exact own_ext hO8 e9 (fun k' hk' hm => by have := (hO8.lt k' hk').1; simp at hm; omega)
                  have HH := Lib.hid (And.intro hB9 (And.intro hO9 (hS0.2.2.2.2.trans e9)))
                  clear hB hO8 hS0 hO s7 hB9 hO9 e9 hbX
                  go_wp2_with (fail)
                  exact ⟨⟨q + 1, .slice a8 (q + 1) c8, by omega, by go_num, HH.out.1, HH.out.2.1, HH.out.2.2⟩, by simp [intOf]; omega⟩
                · have hqe : q = ks.length := by omega
                  subst hqe
                  rw [List.take_length] at hO
                  have hVs : tb < V.heap.size := by omega
                  have hsz := hX.size
                  obtain ⟨okb, hok1, hok2, hIs⟩ := own_slP hO (show ob < wr.heap.size by omega)
                  have hIs : Is wr (.slice ka ks.length kc) okb ks := hIs
                  have hkm : ks.length ≤ maxLen := by unfold maxLen; omega
                  have hRv := hRr.ext hX (by simp; omega)
                  have HR : Hid (readR ws n = if isTab ⟨B nm, cs, ks⟩ = true then some ⟨B nm, cs, ks⟩ else none) := by
                    show _ = _
                    unfold readR
                    rw [HOK.out, HA.out]
                    simp
                  have hocr : oc ∉ [rb] := by simp; omega
                  have hokr : okb ∉ [rb] := by simp; omega
                  have rt : ∀ U, Ext [rb] wr U → Calls Tryz.prog 21 #[TV (B nm) (.slice av1 cs.length cv1) (.slice ka ks.length kc)] U fun e w' => e = .returned (.bool (isTab ⟨B nm, cs, ks⟩)) ∧ Ext [] U w' :=
                    fun U y => rRightTable_any U ⟨B nm, cs, ks⟩ av1 cv1 ka kc oc okb (Cs.ext hCv y hocr) (Is.ext hIs y hokr) hcm hkm
                  generalize isTab ⟨B nm, cs, ks⟩ = T at *
                  have hXw : Ext [] w wr := (e0.trans hVW).trans' hX (fun i hi => .inr (by simp at hi; omega))
                  have hwr : w.heap.size ≤ rb := by omega
                  have r9 : ¬ ((ks.length : Int) + 1 < (rs.length : Int)) := by omega
                  clear hSv hT hO hkl
                  generalize wr = U1 at *
                  go_upto_region 15 with (fail)
                  have hS0 : ((U1.drew).cell? ⟨tb, 0, none⟩ = some (.string (B nm)) ∧ (U1.drew).cell? ⟨tb, 1, none⟩ = some (.slice av1 cs.length cv1) ∧ (U1.drew).cell? ⟨tb, 2, none⟩ = some (.slice ka ks.length kc) ∧ Ext [rb] U1 U1.drew) := ⟨t0, t1, t2, (Ext.refl [rb] U1).drew⟩
                  have hRd := hRv.drew
                  have hXd := hXw.drew
                  refine region_but (fun u => ((u).cell? ⟨tb, 0, none⟩ = some (.string (B nm)) ∧ (u).cell? ⟨tb, 1, none⟩ = some (.slice av1 cs.length cv1) ∧ (u).cell? ⟨tb, 2, none⟩ = some (.slice ka ks.length kc) ∧ Ext [rb] U1 u)) [3] 5 rfl (by kernel_rfl) ?_
                  clear t0 t1 t2
                  generalize U1.drew = U0 at *
                  have k0 := hS0.1
                  have k1 := hS0.2.1
                  have k2 := hS0.2.2.1
                  refine HeldBut.take (i := 0) (v := ?_) rfl (by kernel_rfl) (by kernel_rfl) (by kernel_rfl) (by kernel_rfl) (fun _ _ _ h => h) (Or.inl ⟨by kernel_rfl, ?_⟩) hS0 ?_; rotate_left 1; (focus (intro u hu; (try dsimp only at hu); go_simp; try with_reducible rfl)); (try simp only [List.getElem_toArray, List.getElem_cons_zero, List.getElem_cons_succ]); (try simp only [Act.put, List.setIfInBounds_toArray, List.set_cons_zero, List.set_cons_succ])
                  refine HeldBut.one (i := 1) (by kernel_rfl) ?_
                  refine HeldBut.step (i := 1) rfl (fun K hK => ?_)
                  try simp only [List.getElem_toArray, List.getElem_cons_zero, List.getElem_cons_succ]
                  go_simp
                  refine hK.out _ _ (fun _ => hS0) ?_; clear hK K
                  (try simp only [List.getElem_toArray, List.getElem_cons_zero, List.getElem_cons_succ]); (try simp only [Act.put, List.setIfInBounds_toArray, List.set_cons_zero, List.set_cons_succ])
                  clear k0 k1 k2
                  refine HeldBut.one (i := 2) (by kernel_rfl) ?_
                  refine HeldBut.step (i := 2) rfl (fun K hK => ?_)
                  try simp only [List.getElem_toArray, List.getElem_cons_zero, List.getElem_cons_succ]
                  go_simp
                  go_at_call 21
                  (with_reducible refine (rt _ hS0.2.2.2).mono ?_)
                  rintro e w5 ⟨rfl, x5⟩
                  have hS1 : ((w5).cell? ⟨tb, 0, none⟩ = some (.string (B nm)) ∧ (w5).cell? ⟨tb, 1, none⟩ = some (.slice av1 cs.length cv1) ∧ (w5).cell? ⟨tb, 2, none⟩ = some (.slice ka ks.length kc) ∧ Ext [rb] U1 w5) := ⟨cells_ext x5 hS0.1, cells_ext x5 hS0.2.1, cells_ext x5 hS0.2.2.1, hS0.2.2.2.trans' x5 (by simp)⟩
                  dsimp only
                  refine hK.out _ _ (fun _ => hS1) ?_; clear hK K
                  (try simp only [List.getElem_toArray, List.getElem_cons_zero, List.getElem_cons_succ]); (try simp only [Act.put, List.setIfInBounds_toArray, List.set_cons_zero, List.set_cons_succ])
                  have hR5 := hRd.ext x5 (by simp)
                  have htr : tb ∉ [rb] := by simp; omega
                  refine HeldBut.one (i := 3) (by kernel_rfl) ?_
                  refine HeldBut.step (i := 3) rfl (fun K hK => ?_)
                  refine step_store_blk (by rfl) _ (.tmp 4) (.tmp 88) (by rfl) (by rfl) (by rfl) (by rfl) hR5 tab_info (by rfl) one3 ?_
                  intro w6 hR6 x6
                  refine hK.out _ _ (fun h => (h (by simp)).elim) ?_; clear hK K
                  (try simp only [List.getElem_toArray, List.getElem_cons_zero, List.getElem_cons_succ]); (try simp only [Act.put, List.setIfInBounds_toArray, List.set_cons_zero, List.set_cons_succ])
                  have hS2 : ((w6).cell? ⟨tb, 0, none⟩ = some (.string (B nm)) ∧ (w6).cell? ⟨tb, 1, none⟩ = some (.slice av1 cs.length cv1) ∧ (w6).cell? ⟨tb, 2, none⟩ = some (.slice ka ks.length kc) ∧ Ext [rb] U1 w6) := ⟨x6.read hS1.1 htr, x6.read hS1.2.1 htr, x6.read hS1.2.2.1 htr, hS1.2.2.2.trans x6⟩
                  refine HeldBut.one (i := 4) (by kernel_rfl) ?_
                  refine HeldBut.step (i := 4) rfl (fun K hK => ?_)
                  try simp only [List.getElem_toArray, List.getElem_cons_zero, List.getElem_cons_succ]
                  go_simp
                  refine hK.out _ _ (fun _ => hS2) ?_; clear hK K
                  (try simp only [List.getElem_toArray, List.getElem_cons_zero, List.getElem_cons_succ]); (try simp only [Act.put, List.setIfInBounds_toArray, List.set_cons_zero, List.set_cons_succ])
                  refine HeldBut.done (by kernel_rfl) ?_ _
                  have HH := Lib.hid (And.intro (hXd.trans x5) (And.intro hS2.2.2.2 x6))
                  clear hS0 hS1 hS2
                  go_wp2_with (fail)
                  refine ret_cell_tmp Tryz.results48 rfl hR6 Tryz.underlying41 rfl tab_info rfl ?_
                  have hE : Ext [] w w6 := HH.out.1.trans' HH.out.2.2 (fun i hi => .inr (by simp at hi; omega))
                  have hU := HH.out.2.1
                  rw [HR.out]
                  cases T
                  · exact ⟨⟨_, _, _, _, _, _, _, rfl⟩, hE⟩
                  · exact ⟨⟨av1, cv1, ka, kc, oc, okb, rfl, Cs.ext hCv hU hocr, Is.ext hIs hU hokr⟩, hE⟩
          · have HR : Hid (readR ws n = none) := readR_no (readOk_rest (by rw [hrs]; exact hok))
            rw [not_or] at hok
            have hr1 : 1 ≤ rs.length := by
              rcases Nat.eq_zero_or_pos rs.length with h | h
              · exact absurd (List.eq_nil_of_length_eq_zero h) hok.1
              · exact h
            have r1 : decide (0 < rs.length) = true := by simp; omega
            have r3 : decide ((0 : Int) < (rs.length : Int)) = true := by simp; omega
            by_cases hr2 : 2 ≤ rs.length
            · obtain ⟨o2, x2, rfl, hx2, c2⟩ := HT.out.2.2.at 0 (by omega)
              rw [Nat.add_zero] at c2
              have h5 := ne_by x2
              rw [decide_eq_false (show ¬ x2 = wBy from fun e => hok.2 ⟨hr2, by rw [hx2, e]⟩)] at h5
              have r2 : decide (rs.length < 2) = false := by simp; omega
              have r4 : decide ((rs.length : Int) < 2) = false := by simp; omega
              have r5 : (0 : Int) < (rs.length : Int) := by omega
              clear hx2 hok
              go_wp2_with ((with_reducible refine at_store_tab ?_); refine wpList_store_blk rfl _ (.tmp 4) (.tmp 70) rfl rfl rfl (cells := [.string ⟨#[]⟩, .slice none 0 0, .slice none 0 0]) rfl hRr tab_info rfl one3 ?_; intro w4 hR4 x4)
              refine ret_cell_tmp Tryz.results48 rfl hR4 Tryz.underlying41 rfl tab_info rfl ?_
              rw [HR.out]
              exact ⟨⟨⟨#[]⟩, none, 0, 0, none, 0, 0, rfl⟩, (e0.trans hX).trans' x4 (fun i hi => .inr (by simp at hi; omega))⟩
            · have r2 : decide (rs.length < 2) = true := by simp; omega
              have r4 : decide ((rs.length : Int) < 2) = true := by simp; omega
              clear hok
              go_wp2_with ((with_reducible refine at_store_tab ?_); refine wpList_store_blk rfl _ (.tmp 4) (.tmp 70) rfl rfl rfl (cells := [.string ⟨#[]⟩, .slice none 0 0, .slice none 0 0]) rfl hRr tab_info rfl one3 ?_; intro w4 hR4 x4)
              refine ret_cell_tmp Tryz.results48 rfl hR4 Tryz.underlying41 rfl tab_info rfl ?_
              rw [HR.out]
              exact ⟨⟨⟨#[]⟩, none, 0, 0, none, 0, 0, rfl⟩, (e0.trans hX).trans' x4 (fun i hi => .inr (by simp at hi; omega))⟩
    · have HR : Hid (readR ws n = none) := readR_no (readOk_head (by rw [hx0]; simpa using h2))
      have h5 := ne_text x0
      rw [decide_eq_false h2] at h5
      clear h2 hx0 hv
      go_enter Tryz.func48, Tryz.ntmps48
      go_wp2_with ((with_reducible refine at_store_tab ?_); refine wpList_store_blk rfl _ (.tmp 4) (.tmp 22) rfl rfl rfl (cells := [.string ⟨#[]⟩, .slice none 0 0, .slice none 0 0]) rfl hR0 tab_info rfl one3 ?_; intro w4 hR4 x4)
      refine ret_cell_tmp Tryz.results48 rfl hR4 Tryz.underlying41 rfl tab_info rfl ?_
      rw [HR.out]
      exact ⟨⟨⟨#[]⟩, none, 0, 0, none, 0, 0, rfl⟩, e0.trans' x4 (fun i hi => .inr (by simp at hi; omega))⟩
  · have HR : Hid (readR ws n = none) := readR_no (readOk_len h1)
    have q1 : decide ((ws.length : Int) < 2 + 2 * (n : Int)) = true := by simp; omega
    clear hv h1
    go_enter Tryz.func48, Tryz.ntmps48
    go_wp2_with ((with_reducible refine at_store_tab ?_); refine wpList_store_blk rfl _ (.tmp 4) (.tmp 22) rfl rfl rfl (cells := [.string ⟨#[]⟩, .slice none 0 0, .slice none 0 0]) rfl hR0 tab_info rfl one3 ?_; intro w4 hR4 x4)
    refine ret_cell_tmp Tryz.results48 rfl hR4 Tryz.underlying41 rfl tab_info rfl ?_
    rw [HR.out]
    exact ⟨⟨⟨#[]⟩, none, 0, 0, none, 0, 0, rfl⟩, e0.trans' x4 (fun i hi => .inr (by simp at hi; omega))⟩
end Go.Proofs.YtjmfcjidhmaibaaGreatDoor
