import Derived.Test.YtcahdillpdekmaaOctD
namespace Go.Proofs.Ytcahdillpdekmaa
open Go.RowKit
set_option linter.unusedVariables false

/-- the document's reader as a value -/
def refR (v : Value) (r : R) : Value := .agg #[v, .int .i64 r.pos, .int .i64 r.why]

set_option maxHeartbeats 400000 in
theorem rPeek_any (w : World) (v : Value) (ob : Nat) (r : R) (k : Int) (h : Bs w v ob r.bs) (hp : r.pos ≤ r.bs.length) (hs : r.bs.length ≤ 1000000) :
    Calls Try.prog 18 #[refR v r, .int .i64 k] w fun e w' => e = .returned (peekTuple (r.peek k)) ∧ Ext [] w w' := by
  obtain ⟨bs, pos, why⟩ := r
  dsimp only at *
  obtain ⟨av, cv, rfl⟩ := h.shape
  unfold refR
  dsimp only
  by_cases h1 : why = 0
  · subst h1
    by_cases h2 : k < 0
    · have : (⟨bs, pos, 0⟩ : R).peek k = none := by simp only [R.peek]; rw [if_neg (by omega)]
      rw [this]
      clear this h
      go_enter Try.func18, Try.ntmps18
      go_wp2
      go_ret2
      exact ⟨rfl, (Ext.refl _ _).alloc _⟩
    · by_cases h3 : (bs.length : Int) - pos ≤ k
      · have : (⟨bs, pos, 0⟩ : R).peek k = none := by simp only [R.peek]; rw [if_neg (by omega)]
        rw [this]
        clear this h
        go_enter Try.func18, Try.ntmps18
        go_wp2
        go_ret2
        exact ⟨rfl, (Ext.refl _ _).alloc _⟩
      · obtain ⟨m, rfl⟩ := Int.eq_ofNat_of_zero_le (show 0 ≤ k by omega)
        obtain ⟨a1, x, rfl, hx, c1⟩ := h.at (pos + m) (by omega)
        have : (⟨bs, pos, 0⟩ : R).peek m = some x := by
          have hc : (0 : Int) = 0 ∧ 0 ≤ (m : Int) ∧ (m : Int) < (bs.length : Int) - pos := ⟨rfl, by omega, by omega⟩
          refine (if_pos hc).trans ?_
          rw [List.getD_eq_getElem?_getD, show pos + (m : Int).toNat = pos + m by omega, hx]; rfl
        rw [this]
        simp only [peekTuple, BV]
        have hob := World.block_lt_of_cell? _ _ c1
        have hne : ob ≠ w.heap.size := by have : ob < w.heap.size := hob; omega
        generalize x.toNat = y at *
        clear this h hx
        have c2 : ∀ o, (w.alloc o).cell? ⟨ob, a1 + (pos + m), none⟩ = some (.int .u8 (y : Int)) := fun o => (World.cell?_alloc_lt _ _ _ hob).trans c1
        go_enter Try.func18, Try.ntmps18
        go_wp2
        go_ret2
        exact ⟨rfl, (Ext.refl _ _).alloc _⟩
  · have : (⟨bs, pos, why⟩ : R).peek k = none := by simp only [R.peek]; rw [if_neg (by omega)]
    rw [this]
    have e2 : (why != 0) = true := by simpa using h1
    clear this h h1
    go_enter Try.func18, Try.ntmps18
    go_wp2
    go_ret2
    exact ⟨rfl, (Ext.refl _ _).alloc _⟩

def OutPair (w : World) (r : R) (v : Value) (l : List UInt8) (e : Ending) (w' : World) : Prop :=
  ∃ v2, e = .returned (.tuple #[refR v r, v2]) ∧ NewB w w' v2 l ∧ Ext [] w w'

theorem six (w w1 : World) (a0 a1 a2 b0 b1 b2 : Value) (h : Ext [] ((w.alloc (Obj.cells #[a0, a1, a2] 41)).alloc (Obj.cells #[b0, b1, b2] 41)) w1) :
    (w1.cell? ⟨w.heap.size, 0, none⟩ = some a0 ∧ w1.cell? ⟨w.heap.size, 1, none⟩ = some a1 ∧ w1.cell? ⟨w.heap.size, 2, none⟩ = some a2) ∧
    (w1.cell? ⟨w.heap.size + 1, 0, none⟩ = some b0 ∧ w1.cell? ⟨w.heap.size + 1, 1, none⟩ = some b1 ∧ w1.cell? ⟨w.heap.size + 1, 2, none⟩ = some b2) ∧
    (w1.frozen? ⟨w.heap.size, 0, none⟩ = false ∧ w1.frozen? ⟨w.heap.size, 1, none⟩ = false ∧ w1.frozen? ⟨w.heap.size, 2, none⟩ = false) ∧
    (w1.frozen? ⟨w.heap.size + 1, 0, none⟩ = false ∧ w1.frozen? ⟨w.heap.size + 1, 1, none⟩ = false ∧ w1.frozen? ⟨w.heap.size + 1, 2, none⟩ = false) ∧ Blk w1 (w.heap.size + 1) 41 [b0, b1, b2] := by
  have h1 : Blk w1 w.heap.size 41 [a0, a1, a2] := ((Blk.new w [a0, a1, a2] _).ext ((Ext.refl [] _).alloc _) (by simp)).ext h (by simp)
  have h2 : Blk w1 (w.heap.size + 1) 41 [b0, b1, b2] := by
    have := Blk.new (w.alloc (Obj.cells #[a0, a1, a2] 41)) [b0, b1, b2] 41
    simp only [World.size_alloc] at this
    exact this.ext h (by simp)
  exact ⟨⟨h1.cell 0, h1.cell 1, h1.cell 2⟩, ⟨h2.cell 0, h2.cell 1, h2.cell 2⟩, ⟨h1.frozen 0, h1.frozen 1, h1.frozen 2⟩, ⟨h2.frozen 0, h2.frozen 1, h2.frozen 2⟩, h2⟩

set_option maxHeartbeats 1000000 in
theorem rRaw_any (w : World) (v : Value) (ob : Nat) (r : R) (n : Int) (h : Bs w v ob r.bs) (hp : r.pos ≤ r.bs.length) (hs : r.bs.length ≤ 1000000) (hn : n ≤ 9223372036854775807) :
    Calls Try.prog 19 #[refR v r, .int .i64 n] w (OutPair w (r.go n) v (r.got n)) := by
  obtain ⟨bs, pos, why⟩ := r
  dsimp only at *
  obtain ⟨av, cv, rfl⟩ := h.shape
  unfold refR
  dsimp only
  by_cases h1 : why = 0
  · subst h1
    by_cases h2 : n < 0
    · have e1 : (⟨bs, pos, 0⟩ : R).go n = ⟨bs, pos, 2⟩ := by simp [R.go, h2]
      have e2 : (⟨bs, pos, 0⟩ : R).got n = [] := by simp [R.got, R.bad, h2]
      rw [e1, e2]
      clear e1 e2 h
      go_enter Try.func19, Try.ntmps19
      go_wp2
      exact bodyPost_ret (v := .tuple #[.agg #[Value.slice av bs.length cv, .int .i64 (pos : Int), .int .i64 2], .slice none 0 0]) (by simp [results, Try.results19, go_sem]) rfl ⟨_, rfl, World.ownsRow_nil _ _ _ _, ((Ext.refl _ _).alloc _).alloc _⟩
    · by_cases h3 : (bs.length : Int) - pos < n
      · have e1 : (⟨bs, pos, 0⟩ : R).go n = ⟨bs, pos, 7⟩ := by simp [R.go, h2, h3]
        have e2 : (⟨bs, pos, 0⟩ : R).got n = [] := by simp [R.got, R.bad, h3]
        rw [e1, e2]
        clear e1 e2 h
        go_enter Try.func19, Try.ntmps19
        go_wp2
        exact bodyPost_ret (v := .tuple #[.agg #[Value.slice av bs.length cv, .int .i64 (pos : Int), .int .i64 7], .slice none 0 0]) (by simp [results, Try.results19, go_sem]) rfl ⟨_, rfl, World.ownsRow_nil _ _ _ _, ((Ext.refl _ _).alloc _).alloc _⟩
      · obtain ⟨m, rfl⟩ := Int.eq_ofNat_of_zero_le (show 0 ≤ n by omega)
        have e1 : (⟨bs, pos, 0⟩ : R).go m = ⟨bs, pos + m, 0⟩ := by simp [R.go, h3]
        have e2 : (⟨bs, pos, 0⟩ : R).got m = (bs.drop pos).take m := by
          have : (⟨bs, pos, 0⟩ : R).bad m = false := by simp [R.bad]; omega
          simp [R.got, this]
        rw [e1, e2]
        clear e1 e2
        have hpm : pos + m ≤ bs.length := by omega
        have hA : cv = pos → ∀ w1, Ext [] w w1 → Bs w1 (.slice av m 0) ob ((bs.drop pos).take m) := fun hc w1 he => (h.ext he (by simp)).cut0 hpm hc
        have hB : ∀ w1, Ext [] w w1 → Bs w1 (.slice (av.map fun x => x.add pos) m (cv - pos)) ob ((bs.drop pos).take m) := fun w1 he => (h.ext he (by simp)).cut1 hpm
        have hll : ((bs.drop pos).take m).length ≤ 70000000000000 := by simp; omega
        have hcv : bs.length ≤ cv := by
          rcases h.cases with ⟨h1, h2⟩ | ⟨_, _, _, h1, h2, _⟩
          · simp [h2]
          · simp at h1; omega
        clear h
        generalize (bs.drop pos).take m = l at *
        go_enter Try.func19, Try.ntmps19
        go_wp2_with (go_at_call 10; (first
          | with_reducible refine (Behind_any _ _ _ ob 0 l [] (hA (by assumption) _ (((Ext.refl _ _).alloc _).alloc _)) (.nothing' _ _) (by simp; omega)).mono ?_
          | with_reducible refine (Behind_any _ _ _ ob 0 l [] (hB _ (((Ext.refl _ _).alloc _).alloc _)) (.nothing' _ _) (by simp; omega)).mono ?_); rintro e w1 ⟨v1, rfl, hN, hE⟩; obtain ⟨⟨p0, p1, p2⟩, ⟨q0, q1, q2⟩, ⟨f0, f1, f2⟩, ⟨g0, g1, g2⟩, hb2⟩ := six w w1 _ _ _ _ _ _ hE)
        all_goals
          try (have h' : cv = pos := by assumption
               subst h')
          refine ret_cell_tmp (w := (((w1.setCell ⟨w.heap.size, 1, none⟩ _).setCell ⟨w.heap.size + 1, 0, none⟩ _).setCell ⟨w.heap.size + 1, 1, none⟩ _).setCell ⟨w.heap.size + 1, 2, none⟩ _) Try.results19 rfl ((((hb2.other ⟨w.heap.size, 1, none⟩ (by simp) _).set 0 _).set 1 _).set 2 _) Try.underlying41 rfl (by kernel_rfl) rfl ⟨_, rfl, ?_, ?_⟩
          · have := (hN.mono (w0 := w) (by simp; omega))
            rw [List.append_nil] at this
            refine own_ext (X := [w.heap.size, w.heap.size + 1]) this ((((Ext.refl _ _).setCell (by simp) _).setCell (by simp) _).setCell (by simp) _ |>.setCell (by simp) _) ?_
            intro k hk hx
            have hk' : v1.ownBlock = some k := hk
            have := own_ge hN k (by simp [hk'])
            simp at this hx
            omega
          · exact ((((((Ext.refl [] w).alloc _).alloc _).trans hE).setCell (.inr (by simp)) _).setCell (.inr (by simp)) _ |>.setCell (.inr (by simp)) _) |>.setCell (.inr (by simp)) _
  · have e1 : (⟨bs, pos, why⟩ : R).go n = ⟨bs, pos, why⟩ := by simp [R.go, h1]
    have e2 : (⟨bs, pos, why⟩ : R).got n = [] := by simp [R.got, R.bad, h1]
    rw [e1, e2]
    have e3 : (why != 0) = true := by simpa using h1
    clear e1 e2 h h1
    go_enter Try.func19, Try.ntmps19
    go_wp2
    exact bodyPost_ret (v := .tuple #[.agg #[Value.slice av bs.length cv, .int .i64 (pos : Int), .int .i64 why], .slice none 0 0]) (by simp [results, Try.results19, go_sem]) rfl ⟨_, rfl, World.ownsRow_nil _ _ _ _, ((Ext.refl _ _).alloc _).alloc _⟩
end Go.Proofs.Ytcahdillpdekmaa
