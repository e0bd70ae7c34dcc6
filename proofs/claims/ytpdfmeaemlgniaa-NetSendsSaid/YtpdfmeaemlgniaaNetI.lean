/-
  A parcel more: add.
-/
import Derived.Test.YtpdfmeaemlgniaaNetH
import Derived.Test.YtpdfmeaemlgniaaHeld
namespace Go.Proofs.Ytpdfmeaemlgniaa
open Go.RowKit
set_option linter.unusedVariables false
set_option linter.unusedSimpArgs false
/-- append(s, x...) as one step of a region that draws, s the call's own, x whatever slice -/
theorem step_append_any {P : Program} {w : World} {ops : Array Oper} {o : Oper} {a : Act} {K : Act → World → Prop} {Q : Exit → Act → World → Prop} {E : Prop}
    {t e : TypeId} {size bytes : Nat} {z : Value} (T : SliceTy P t e size bytes z) (hgd : o.guard = none) (s x : Operand)
    (ho : o.op = .call { callee := .builtin .append, args := #[s, x], argTypes := #[t, t] })
    {base n m ob : Nat} {v vx : Value} {xs news : List Value} (hs : a.eval s = v) (hx : a.eval x = vx) (hown : w.ownsRow base e size v n xs) (hsl : Sl w vx ob size m news) (h1 : ∀ u ∈ news, u.oneCell' = true)
    (h63 : n + m ≤ maxLen) (hbytes : (n + m) * bytes ≤ 140737488355328) (hbase : base ≤ w.heap.size)
    (h : ∀ v' w', w'.ownsRow base e size v' (n + m) (xs ++ news) → Ext v.ownBlock.toList w w' → K (a.put o.dst v') w') :
    if Region.wanted o (yielded ops a.tmps) = true then Oper.wp P o a w K Q else E := by
  have hw : Region.wanted o (yielded ops a.tmps) = true := by simp [Region.wanted, hgd]
  rw [if_pos hw]
  obtain ⟨i, i1, i2, i3, i4⟩ := T.info
  obtain ⟨hl, hsl⟩ := hsl
  rcases hsl with ⟨rfl, rfl⟩ | ⟨off, sp, cap, rfl, _, _, hsp, hc⟩
  · obtain rfl : news = [] := List.eq_nil_of_length_eq_zero (by simpa using hl)
    have hrun := run_append_owned_none (P := P) (w := w) base t o.type e i size T.und i1 v n xs hown
    unfold Oper.wp
    simp [execOp, ho, resolve, invoke, builtin, hs, hx, hrun, Result.andThen]
    exact h v w (by simpa using hown) (Ext.refl _ _)
  · refine wp_append_own w s x t ho base e i z size bytes T.und i1 i2 i3 i4 T.zc T.pos v n xs hs hown ⟨ob, off, sp⟩ m cap news hx hl (fun j u hu => ?_) h1 h63 hbytes hbase fun v' w' r1 r2 _ => h v' w' r1 (Ext.ofGrown r2)
    rcases hsp with rfl | rfl
    · have : news = [] := List.eq_nil_of_length_eq_zero (by simpa using hl)
      subst this; simp at hu
    · simpa only [add_off] using hc j u hu
/-- bytes do not lie in a block that holds none -/
theorem Bs.keep' {X : List Nat} {w w' : World} {v : Value} {ob : Nat} {l : List UInt8} (h : Bs w v ob l) (he : Ext X w w') (hX : ob ∈ X → ∀ (i : Nat) (x : UInt8), w.cell? ⟨ob, i, none⟩ ≠ some (BV x)) : Bs w' v ob l := by
  refine ⟨h.1, ?_⟩
  rcases h.2 with h2 | ⟨off, sp, cap, rfl, h1, h2, hsp, h3⟩
  · exact .inl h2
  · refine .inr ⟨off, sp, cap, rfl, h1, h2, hsp, fun j u hu => he.read (h3 j u hu) fun m => ?_⟩
    rw [List.getElem?_map, Option.map_eq_some_iff] at hu
    obtain ⟨x, hx, rfl⟩ := hu
    exact hX m (off + j) x (h3 j _ (by rw [List.getElem?_map, hx]; rfl))
theorem net_no_byte {w : World} {b s : Nat} {e : TypeId} {a : Option Addr} {n c : Nat} (h : Blk w b e [.int .u64 (s : Int), .slice a n c]) (i : Nat) (x : UInt8) : w.cell? ⟨b, i, none⟩ ≠ some (BV x) := by
  rw [h.cell i]
  match i with
  | 0 => simp [BV]
  | 1 => simp [BV]
  | i + 2 => simp
theorem par_no_byte {w : World} {b : Nat} {e : TypeId} {num fr tt : Int} {a : Option Addr} {n c : Nat} {sp : Bool} (h : Blk w b e [.int .u64 num, .int .i64 fr, .int .i64 tt, .slice a n c, .bool sp]) (i : Nat) (x : UInt8) : w.cell? ⟨b, i, none⟩ ≠ some (BV x) := by
  rw [h.cell i]
  match i with
  | 0 => simp [BV]
  | 1 => simp [BV]
  | 2 => simp [BV]
  | 3 => simp [BV]
  | 4 => simp [BV]
  | i + 5 => simp
theorem own_far {w : World} {base1 base2 e1 e2 s1 s2 n1 n2 : Nat} {v1 v2 : Value} {x1 x2 : List Value} (h1 : w.ownsRow base1 e1 s1 v1 n1 x1) (h2 : w.ownsRow base2 e2 s2 v2 n2 x2) (he : e1 ≠ e2) : ∀ k, v1.ownBlock = some k → k ∉ v2.ownBlock.toList := by
  intro k hk hm
  have hk2 : v2.ownBlock = some k := by simpa using hm
  obtain ⟨_, _, c1, g1⟩ := own_block h1 hk
  obtain ⟨_, _, c2, g2⟩ := own_block h2 hk2
  rw [g1] at g2
  cases g2
  exact he rfl
/-- what is appended stands behind the others -/
theorem OPs.snoc {S : Nat} {w w' : World} {v v' : Value} {l : List Par} {rs : List PRaw} (h : OPs S w v l rs) {r : PRaw} {p : Par} (hr : OIs S w r p) (hs : ∀ (k : Nat) q, rs[k]? = some q → ∀ c, q.b.ownBlock = some c → r.b.ownBlock ≠ some c)
    (h1 : w'.ownsRow S 33 5 v' (rs.length + 1) (prows rs ++ r.row)) (h2 : Ext v.ownBlock.toList w w') : OPs S w' v' (l ++ [p]) (rs ++ [r]) := by
  have hlen := h.all.1
  have hget : ∀ (k : Nat) q, (rs ++ [r])[k]? = some q → (k < rs.length ∧ rs[k]? = some q) ∨ (k = rs.length ∧ q = r) := by
    intro k q hq
    by_cases hk : k < rs.length
    · rw [List.getElem?_append_left hk] at hq; exact .inl ⟨hk, hq⟩
    · rw [List.getElem?_append_right (by omega)] at hq
      have : k - rs.length = 0 := by
        have := (List.getElem?_eq_some_iff.1 hq).1
        simp at this; omega
      rw [this] at hq
      exact .inr ⟨by omega, by simpa using hq.symm⟩
  refine ⟨?_, ⟨by simp [hlen], fun k q x hq hx => ?_⟩, fun i j r1 r2 hi hj hne b hb => ?_⟩
  · rw [List.length_append, show prows (rs ++ [r]) = prows rs ++ r.row by rw [prows, flat_append, flat_one]]
    exact h1
  · rcases hget k q hq with ⟨hk, hq⟩ | ⟨rfl, rfl⟩
    · rw [List.getElem?_append_left (by omega)] at hx
      have := h.all.2 k q x hq hx
      exact this.keep h2 (own_far this.2.2.2.2 h.own (by decide))
    · rw [List.getElem?_append_right (by omega), hlen, Nat.sub_self] at hx
      obtain rfl : p = x := by simpa using hx
      exact hr.keep h2 (own_far hr.2.2.2.2 h.own (by decide))
  · rcases hget i r1 hi with ⟨hi1, hi2⟩ | ⟨rfl, rfl⟩
    · rcases hget j r2 hj with ⟨hj1, hj2⟩ | ⟨rfl, rfl⟩
      · exact h.sep i j r1 r2 hi2 hj2 hne b hb
      · exact hs i r1 hi2 b hb
    · rcases hget j r2 hj with ⟨hj1, hj2⟩ | ⟨rfl, rfl⟩
      · exact fun e => hs j r2 hj2 b e hb
      · exact absurd rfl hne
theorem Did.exts {S b : Nat} {C X : List Nat} {W w w' : World} (h : Did S b C W w) (he : Ext X w w') (hX : ∀ k ∈ X, k = b ∨ S ≤ k ∨ k ∈ C) : Did S b C W w' := h.trans ⟨X, he, hX⟩
theorem keepB {X : List Nat} {V u u' : World} {b pb : Nat} {x p0 p1 p2 p3 p4 : Value} (h : u.cell? ⟨b, 1, none⟩ = some x ∧ (u.cell? ⟨pb, 0, none⟩ = some p0 ∧ u.cell? ⟨pb, 1, none⟩ = some p1 ∧ u.cell? ⟨pb, 2, none⟩ = some p2 ∧ u.cell? ⟨pb, 3, none⟩ = some p3 ∧ u.cell? ⟨pb, 4, none⟩ = some p4) ∧ Ext X V u) (e : Ext X u u') (hb : b ∉ X) (hp : pb ∉ X) :
    u'.cell? ⟨b, 1, none⟩ = some x ∧ (u'.cell? ⟨pb, 0, none⟩ = some p0 ∧ u'.cell? ⟨pb, 1, none⟩ = some p1 ∧ u'.cell? ⟨pb, 2, none⟩ = some p2 ∧ u'.cell? ⟨pb, 3, none⟩ = some p3 ∧ u'.cell? ⟨pb, 4, none⟩ = some p4) ∧ Ext X V u' :=
  ⟨e.read h.1 hb, ⟨e.read h.2.1.1 hp, e.read h.2.1.2.1 hp, e.read h.2.1.2.2.1 hp, e.read h.2.1.2.2.2.1 hp, e.read h.2.1.2.2.2.2 hp⟩, h.2.2.trans e⟩
theorem keepA {V u u' : World} {b pb : Nat} {x y : Value} (h : u.cell? ⟨b, 0, none⟩ = some x ∧ u.cell? ⟨pb, 3, none⟩ = some y ∧ Ext [] V u) (e : Ext [] u u') : u'.cell? ⟨b, 0, none⟩ = some x ∧ u'.cell? ⟨pb, 3, none⟩ = some y ∧ Ext [] V u' :=
  ⟨cells_ext e h.1, cells_ext e h.2.1, h.2.2.trans e⟩
set_option maxRecDepth 100000 in
set_option maxHeartbeats 4000000 in
theorem add_ok (W : World) (b S s num : Nat) (v : Value) (l : List Par) (rs : List PRaw) (hN : Blk W b 25 [.int .u64 (s : Int), v]) (hO : OPs S W v l rs) (hbS : b < S) (hS : S ≤ W.heap.size)
    (fr tt : Int) (a : Option Addr) (c ob : Nat) (sp : Bool) (bs : List UInt8) (hb : Bs W (.slice a bs.length c) ob bs) (hbl : bs.length ≤ 100000) (hl : l.length < 20000) (hs : s < 1099511627776) :
    Calls Try.prog 53 #[pt b, PV num fr tt (.slice a bs.length c) sp] W fun e w' => e = .returned (.int .i64 0) ∧ ∃ v' rs', (∃ a' n' c', v' = .slice a' n' c') ∧ Blk w' b 25 [.int .u64 ((s + 1 : Nat) : Int), v'] ∧ OPs S w' v' (l ++ [⟨s + 1, fr, tt, bs, sp⟩]) rs' ∧ Did S b [] W w' := by
  obtain ⟨av, cv, rfl⟩ := hO.shape
  have e1 := (Ext.refl [] W).alloc (.cells [.int .u64 (num : Int), .int .i64 fr, .int .i64 tt, .slice a bs.length c, .bool sp].toArray 33)
  have hP1 := Blk.new W [.int .u64 (num : Int), .int .i64 fr, .int .i64 tt, .slice a bs.length c, .bool sp] 33
  have hN1 := hN.ext e1 (by simp)
  have hb1 := hb.ext e1 (by simp)
  have q1 : ((l.length : Int) == 20000) = false := by simp; omega
  have q2 : ((s : Int) == 1099511627776) = false := by simp; omega
  have hml : l.length < 20000 := hl
  clear hN hb
  go_enter Try.func53, Try.ntmps53
  go_upto_region 1 with (fail)
  generalize W.alloc (.cells #[.int .u64 (num : Int), .int .i64 fr, .int .i64 tt, .slice a bs.length c, .bool sp] 33) = W1 at *
  generalize hpb : W.heap.size = pb at *
  have HPB := Lib.hid hpb
  have hbpb : b ≠ pb := by omega
  clear hpb
  obtain ⟨n0, n1⟩ := hN1.c2
  have nf := hN1.frozen
  go_upto_region 4 with (fail)
  have x2 := (Ext.refl [b] W1).setCell (p := ⟨b, 0, none⟩) (.inl (by simp)) (.int .u64 ((s : Int) + 1))
  have hN2 := hN1.set 0 (.int .u64 ((s : Int) + 1))
  simp only [List.set_cons_zero] at hN2
  have hP2 := hP1.ext x2 (by simpa using hbpb.symm)
  have hX2' : Ext [b, pb] W (W1.setCell ⟨b, 0, none⟩ (.int .u64 ((s : Int) + 1))) := (e1.mono (by simp)).trans (x2.mono (by simp +contextual))
  have hX2 : Did S b [] W (W1.setCell ⟨b, 0, none⟩ (.int .u64 ((s : Int) + 1))) := (Did.ofExt e1).cell b 0 _ (.inl rfl)
  have hb2 := hb1.keep' x2 (fun m => by
    obtain rfl : ob = b := by simpa using m
    exact net_no_byte hN1)
  have hsz2 := x2.size
  have hsz1 : pb ≤ W1.heap.size := by have := e1.size; have := HPB.out; omega
  generalize W1.setCell ⟨b, 0, none⟩ (.int .u64 ((s : Int) + 1)) = W2 at *
  clear x2 hN1 hP1 hb1 n0 n1 nf
  have hS0 : W2.drew.cell? ⟨b, 0, none⟩ = some (.int .u64 ((s : Int) + 1)) ∧ W2.drew.cell? ⟨pb, 3, none⟩ = some (.slice a bs.length c) ∧ Ext [] W2 W2.drew := ⟨hN2.cell 0, hP2.cell 3, (Ext.refl [] W2).drew⟩
  refine region_but (fun u => u.cell? ⟨b, 0, none⟩ = some (.int .u64 ((s : Int) + 1)) ∧ u.cell? ⟨pb, 3, none⟩ = some (.slice a bs.length c) ∧ Ext [] W2 u) [7, 8, 9, 10] 11 rfl (by kernel_rfl) ?_
  have cl := fun U (x : Ext [] W2 U) => clone_any U _ ob bs (hb2.ext x (by simp)) (by omega)
  generalize hU0 : W2.drew = U0 at *
  clear hU0
  refine HeldBut.take (i := 0) (v := ?_) rfl (by kernel_rfl) (by kernel_rfl) (by kernel_rfl) (by kernel_rfl) (fun _ _ _ h => h) (Or.inl ⟨by kernel_rfl, ?_⟩) hS0 ?_; rotate_left 1; (focus (intro u hu; (try dsimp only at hu); go_simp; try with_reducible rfl)); (try simp only [List.getElem_toArray, List.getElem_cons_zero, List.getElem_cons_succ]); (try simp only [Act.put, List.setIfInBounds_toArray, List.set_cons_zero, List.set_cons_succ])
  refine HeldBut.take (i := 1) (v := ?_) rfl (by kernel_rfl) (by kernel_rfl) (by kernel_rfl) (by kernel_rfl) (fun _ _ _ h => h) (Or.inl ⟨by kernel_rfl, ?_⟩) hS0 ?_; rotate_left 1; (focus (intro u hu; (try dsimp only at hu); go_simp; try with_reducible rfl)); (try simp only [List.getElem_toArray, List.getElem_cons_zero, List.getElem_cons_succ]); (try simp only [Act.put, List.setIfInBounds_toArray, List.set_cons_zero, List.set_cons_succ])
  refine HeldBut.take (i := 2) (v := ?_) rfl (by kernel_rfl) (by kernel_rfl) (by kernel_rfl) (by kernel_rfl) (fun _ _ _ h => h) (Or.inl ⟨by kernel_rfl, ?_⟩) hS0 ?_; rotate_left 1; (focus (intro u hu; (try dsimp only at hu); go_simp; try with_reducible rfl)); (try simp only [List.getElem_toArray, List.getElem_cons_zero, List.getElem_cons_succ]); (try simp only [Act.put, List.setIfInBounds_toArray, List.set_cons_zero, List.set_cons_succ])
  refine HeldBut.take (i := 3) (v := ?_) rfl (by kernel_rfl) (by kernel_rfl) (by kernel_rfl) (by kernel_rfl) (fun _ _ _ h => h) (Or.inl ⟨by kernel_rfl, ?_⟩) hS0 ?_; rotate_left 1; (focus (intro u hu; (try dsimp only at hu); go_simp; try with_reducible rfl)); (try simp only [List.getElem_toArray, List.getElem_cons_zero, List.getElem_cons_succ]); (try simp only [Act.put, List.setIfInBounds_toArray, List.set_cons_zero, List.set_cons_succ])
  refine HeldBut.take (i := 4) (v := ?_) rfl (by kernel_rfl) (by kernel_rfl) (by kernel_rfl) (by kernel_rfl) (fun _ _ _ h => h) (Or.inl ⟨by kernel_rfl, ?_⟩) hS0 ?_; rotate_left 1; (focus (intro u hu; (try dsimp only at hu); go_simp; try with_reducible rfl)); (try simp only [List.getElem_toArray, List.getElem_cons_zero, List.getElem_cons_succ]); (try simp only [Act.put, List.setIfInBounds_toArray, List.set_cons_zero, List.set_cons_succ])
  refine HeldBut.take (i := 5) (v := ?_) rfl (by kernel_rfl) (by kernel_rfl) (by kernel_rfl) (by kernel_rfl) (fun _ _ _ h => h) (Or.inl ⟨by kernel_rfl, ?_⟩) hS0 ?_; rotate_left 1; (focus (intro u hu; (try dsimp only at hu); go_simp; try with_reducible rfl)); (try simp only [List.getElem_toArray, List.getElem_cons_zero, List.getElem_cons_succ]); (try simp only [Act.put, List.setIfInBounds_toArray, List.set_cons_zero, List.set_cons_succ])
  refine HeldBut.takeT (i := 7) (v := ?_) rfl (by kernel_rfl) (by kernel_rfl) (by kernel_rfl) (by kernel_rfl) (fun _ _ _ h => h) (Or.inl ⟨by kernel_rfl, ?_⟩) ?_; rotate_left 1; (focus (intro u hu; (try dsimp only at hu); go_simp; try with_reducible rfl)); (try simp only [List.getElem_toArray, List.getElem_cons_zero, List.getElem_cons_succ]); (try simp only [Act.put, List.setIfInBounds_toArray, List.set_cons_zero, List.set_cons_succ])
  refine HeldBut.one (i := 6) (by kernel_rfl) ?_
  refine HeldBut.step (i := 6) rfl (fun K hK => ?_)
  try simp only [List.getElem_toArray, List.getElem_cons_zero, List.getElem_cons_succ]
  go_simp
  go_at_call 65
  (with_reducible refine (cl _ hS0.2.2).mono ?_)
  rintro e w3 ⟨v3, rfl, hO3, x3⟩
  obtain ⟨a3, c3, rfl⟩ := own_shape hO3
  have hS1 := keepA hS0 x3
  dsimp only
  refine hK.out _ _ (fun _ => hS1) ?_; clear hK K
  (try simp only [List.getElem_toArray, List.getElem_cons_zero, List.getElem_cons_succ]); (try simp only [Act.put, List.setIfInBounds_toArray, List.set_cons_zero, List.set_cons_succ])
  have x2 := hS0.2.2
  have hN3 := hN2.ext hS1.2.2 (by simp)
  have hP3 := hP2.ext hS1.2.2 (by simp)
  have pf := hP3.frozen
  obtain ⟨p0, p1, p2, p3, p4⟩ := hP3.c5
  refine HeldBut.one (i := 8) (by kernel_rfl) ?_
  refine HeldBut.step (i := 8) rfl (fun K hK => ?_)
  try simp only [List.getElem_toArray, List.getElem_cons_zero, List.getElem_cons_succ]
  go_simp
  refine hK.out _ _ (fun h => (h (by simp)).elim) ?_; clear hK K
  (try simp only [List.getElem_toArray, List.getElem_cons_zero, List.getElem_cons_succ]); (try simp only [Act.put, List.setIfInBounds_toArray, List.set_cons_zero, List.set_cons_succ])
  refine HeldBut.takeT (i := 9) (v := ?_) rfl (by kernel_rfl) (by kernel_rfl) (by kernel_rfl) (by kernel_rfl) (fun _ _ _ h => h) (Or.inl ⟨by kernel_rfl, ?_⟩) ?_; rotate_left 1; (focus (intro u hu; (try dsimp only at hu); go_simp; try with_reducible rfl)); (try simp only [List.getElem_toArray, List.getElem_cons_zero, List.getElem_cons_succ]); (try simp only [Act.put, List.setIfInBounds_toArray, List.set_cons_zero, List.set_cons_succ])
  refine HeldBut.one (i := 10) (by kernel_rfl) ?_
  refine HeldBut.step (i := 10) rfl (fun K hK => ?_)
  try simp only [List.getElem_toArray, List.getElem_cons_zero, List.getElem_cons_succ]
  go_simp
  refine hK.out _ _ (fun h => (h (by simp)).elim) ?_; clear hK K
  (try simp only [List.getElem_toArray, List.getElem_cons_zero, List.getElem_cons_succ]); (try simp only [Act.put, List.setIfInBounds_toArray, List.set_cons_zero, List.set_cons_succ])
  refine HeldBut.done (by kernel_rfl) ?_ _
  have x4 := ((Ext.refl [pb] w3).setCell (p := ⟨pb, 0, none⟩) (.inl (by simp)) (.int .u64 ((s : Int) + 1))).setCell (p := ⟨pb, 3, none⟩) (.inl (by simp)) (.slice a3 bs.length c3)
  have hP4 := (hP3.set 0 (.int .u64 ((s : Int) + 1))).set 3 (.slice a3 bs.length c3)
  simp only [List.set_cons_zero, List.set_cons_succ] at hP4
  have hN4 := hN3.ext x4 (by simpa using hbpb)
  have hX4' := (hX2'.trans (hS1.2.2.mono (by simp))).trans (x4.mono (Y := [b, pb]) (by simp +contextual))
  have hO4 := hO.keep hX4' (by intro k hk; have := HPB.out; simp at hk; omega)
  have hbo4 := own_ext hO3 x4 (own_ne hO3 hP3 (by decide))
  have hX4 := ((hX2.trans (Did.ofExt hS1.2.2)).cell pb 0 (.int .u64 ((s : Int) + 1)) (.inr (.inl (by omega)))).cell pb 3 (.slice a3 bs.length c3) (.inr (.inl (by omega)))
  have hsz4 : W2.heap.size ≤ ((w3.setCell ⟨pb, 0, none⟩ (.int .u64 ((s : Int) + 1))).setCell ⟨pb, 3, none⟩ (.slice a3 bs.length c3)).heap.size := Nat.le_trans hS1.2.2.size x4.size
  generalize (w3.setCell ⟨pb, 0, none⟩ (.int .u64 ((s : Int) + 1))).setCell ⟨pb, 3, none⟩ (.slice a3 bs.length c3) = W4 at *
  have hszU := x2.size
  have HV : Hid (∀ g ∈ (Value.slice av l.length cv).ownBlock.toList, S ≤ g ∧ g < pb) := fun g hg => by
    have := own_block hO.own (show (Value.slice av l.length cv).ownBlock = some g by simpa using hg)
    rw [HPB.out] at this; exact ⟨this.1, this.2.1⟩
  have HOLD : Hid (∀ (k : Nat) q, rs[k]? = some q → ∀ c, q.b.ownBlock = some c → c < pb) := fun k q hq c hc => by
    have hkl := (List.getElem?_eq_some_iff.1 hq).1
    have := (own_block (hO.all.2 k q _ hq (List.getElem?_eq_getElem (by rw [← hO.all.1]; exact hkl))).2.2.2.2 hc).2.1
    rw [HPB.out] at this; exact this
  clear x4 hO3 hP3 hN3 hS1 hS0 x3 x2 hX2 hX2' hN2 hP2 hb2 cl pf p0 p1 p2 p3 p4 hO e1
  go_upto_region 5 with (fail)
  have hS0 : W4.drew.cell? ⟨b, 1, none⟩ = some (.slice av l.length cv) ∧ (W4.drew.cell? ⟨pb, 0, none⟩ = some (.int .u64 ((s : Int) + 1)) ∧ W4.drew.cell? ⟨pb, 1, none⟩ = some (.int .i64 fr) ∧ W4.drew.cell? ⟨pb, 2, none⟩ = some (.int .i64 tt) ∧ W4.drew.cell? ⟨pb, 3, none⟩ = some (.slice a3 bs.length c3) ∧ W4.drew.cell? ⟨pb, 4, none⟩ = some (.bool sp)) ∧ Ext (Value.slice av l.length cv).ownBlock.toList W4 W4.drew := ⟨hN4.cell 1, hP4.c5, (Ext.refl _ W4).drew⟩
  have xu := (Ext.refl [] W4).drew
  have hbX : b ∉ (Value.slice av l.length cv).ownBlock.toList := fun m => by have := HV.out b m; omega
  have hpX : pb ∉ (Value.slice av l.length cv).ownBlock.toList := fun m => by have := HV.out pb m; omega
  generalize hXX : (Value.slice av l.length cv).ownBlock.toList = XX at *
  refine region_but (fun u => u.cell? ⟨b, 1, none⟩ = some (.slice av l.length cv) ∧ (u.cell? ⟨pb, 0, none⟩ = some (.int .u64 ((s : Int) + 1)) ∧ u.cell? ⟨pb, 1, none⟩ = some (.int .i64 fr) ∧ u.cell? ⟨pb, 2, none⟩ = some (.int .i64 tt) ∧ u.cell? ⟨pb, 3, none⟩ = some (.slice a3 bs.length c3) ∧ u.cell? ⟨pb, 4, none⟩ = some (.bool sp)) ∧ Ext XX W4 u) [8, 9, 10] 11 rfl (by kernel_rfl) ?_
  generalize hU0 : W4.drew = U1 at *
  clear hU0
  refine HeldBut.take (i := 0) (v := ?_) rfl (by kernel_rfl) (by kernel_rfl) (by kernel_rfl) (by kernel_rfl) (fun _ _ _ h => h) (Or.inl ⟨by kernel_rfl, ?_⟩) hS0 ?_; rotate_left 1; (focus (intro u hu; (try dsimp only at hu); go_simp; try with_reducible rfl)); (try simp only [List.getElem_toArray, List.getElem_cons_zero, List.getElem_cons_succ]); (try simp only [Act.put, List.setIfInBounds_toArray, List.set_cons_zero, List.set_cons_succ])
  refine HeldBut.take (i := 1) (v := ?_) rfl (by kernel_rfl) (by kernel_rfl) (by kernel_rfl) (by kernel_rfl) (fun _ _ _ h => h) (Or.inl ⟨by kernel_rfl, ?_⟩) hS0 ?_; rotate_left 1; (focus (intro u hu; (try dsimp only at hu); go_simp; try with_reducible rfl)); (try simp only [List.getElem_toArray, List.getElem_cons_zero, List.getElem_cons_succ]); (try simp only [Act.put, List.setIfInBounds_toArray, List.set_cons_zero, List.set_cons_succ])
  refine HeldBut.take (i := 2) (v := ?_) rfl (by kernel_rfl) (by kernel_rfl) (by kernel_rfl) (by kernel_rfl) (fun _ _ _ h => h) (Or.inl ⟨by kernel_rfl, ?_⟩) hS0 ?_; rotate_left 1; (focus (intro u hu; (try dsimp only at hu); go_simp; try with_reducible rfl)); (try simp only [List.getElem_toArray, List.getElem_cons_zero, List.getElem_cons_succ]); (try simp only [Act.put, List.setIfInBounds_toArray, List.set_cons_zero, List.set_cons_succ])
  refine HeldBut.take (i := 3) (v := ?_) rfl (by kernel_rfl) (by kernel_rfl) (by kernel_rfl) (by kernel_rfl) (fun _ _ _ h => h) (Or.inl ⟨by kernel_rfl, ?_⟩) hS0 ?_; rotate_left 1; (focus (intro u hu; (try dsimp only at hu); go_simp; try with_reducible rfl)); (try simp only [List.getElem_toArray, List.getElem_cons_zero, List.getElem_cons_succ]); (try simp only [Act.put, List.setIfInBounds_toArray, List.set_cons_zero, List.set_cons_succ])
  refine HeldBut.take (i := 4) (v := ?_) rfl (by kernel_rfl) (by kernel_rfl) (by kernel_rfl) (by kernel_rfl) (fun _ _ _ h => h) (Or.inl ⟨by kernel_rfl, ?_⟩) hS0 ?_; rotate_left 1; (focus (intro u hu; (try dsimp only at hu); go_simp; try with_reducible rfl)); (try simp only [List.getElem_toArray, List.getElem_cons_zero, List.getElem_cons_succ]); (try simp only [Act.put, List.setIfInBounds_toArray, List.set_cons_zero, List.set_cons_succ])
  refine HeldBut.take (i := 5) (v := ?_) rfl (by kernel_rfl) (by kernel_rfl) (by kernel_rfl) (by kernel_rfl) (fun _ _ _ h => h) (Or.inl ⟨by kernel_rfl, ?_⟩) hS0 ?_; rotate_left 1; (focus (intro u hu; (try dsimp only at hu); go_simp; try with_reducible rfl)); (try simp only [List.getElem_toArray, List.getElem_cons_zero, List.getElem_cons_succ]); (try simp only [Act.put, List.setIfInBounds_toArray, List.set_cons_zero, List.set_cons_succ])
  refine HeldBut.one (i := 6) (by kernel_rfl) ?_
  refine HeldBut.step (i := 6) rfl (fun K hK => ?_)
  try simp only [List.getElem_toArray, List.getElem_cons_zero, List.getElem_cons_succ]
  go_simp
  have x6 := (Ext.refl [] U1).alloc (.cells #[.int .u64 ((s : Int) + 1), .int .i64 fr, .int .i64 tt, .slice a3 bs.length c3, .bool sp] 33)
  have hL6 := Sl.lit U1 [.int .u64 ((s : Int) + 1), .int .i64 fr, .int .i64 tt, .slice a3 bs.length c3, .bool sp] 33 5 1 rfl (by decide)
  have hS1 := keepB hS0 (x6.mono (by simp)) hbX hpX
  have xu := xu.trans x6
  refine hK.out _ _ (fun _ => hS1) ?_; clear hK K
  (try simp only [List.getElem_toArray, List.getElem_cons_zero, List.getElem_cons_succ]); (try simp only [Act.put, List.setIfInBounds_toArray, List.set_cons_zero, List.set_cons_succ])
  clear hS0
  have hS0 := hS1; clear hS1
  generalize U1.alloc (.cells #[.int .u64 ((s : Int) + 1), .int .i64 fr, .int .i64 tt, .slice a3 bs.length c3, .bool sp] 33) = U2 at *
  generalize U1.heap.size = lb at *
  have hO6 := hO4.ext xu
  refine HeldBut.one (i := 7) (by kernel_rfl) ?_
  refine HeldBut.step (i := 7) rfl (fun K hK => ?_)
  have hrl : rs.length ≤ l.length := Nat.le_of_eq hO6.all.1
  refine step_append_any TPar (by rfl) (.tmp 38) (.tmp 40) (by rfl) (by rfl) (by rfl) hO6.own hL6 (by intro u hu; simp at hu; rcases hu with rfl | rfl | rfl | rfl | rfl <;> rfl) (by unfold maxLen; omega) (by omega) (by have := hS0.2.2.size; omega) ?_
  intro v7 w7 r1 r2
  have hOI : OIs S U2 ⟨s + 1, fr, tt, .slice a3 bs.length c3, sp⟩ ⟨s + 1, fr, tt, bs, sp⟩ := ⟨rfl, rfl, rfl, rfl, own_mono (own_ext hbo4 xu (fun _ _ => by simp)) (by omega)⟩
  have hO7 := hO6.snoc hOI (fun k q hq c hc e => by
    have := HOLD.out k q hq c hc
    have := (own_block hbo4 e).1
    omega) (show w7.ownsRow S 33 5 v7 (rs.length + 1) (prows rs ++ PRaw.row ⟨s + 1, fr, tt, .slice a3 bs.length c3, sp⟩) by
      rw [show PRaw.row ⟨s + 1, fr, tt, .slice a3 bs.length c3, sp⟩ = [.int .u64 ((s : Int) + 1), .int .i64 fr, .int .i64 tt, .slice a3 bs.length c3, .bool sp] by simp [PRaw.row]]
      exact r1) r2
  have hS1 := keepB hS0 (hXX ▸ r2) hbX hpX
  obtain ⟨a7, c7, rfl⟩ := own_shape r1
  have hx7 := (hX4.trans (Did.ofExt xu)).exts r2 (fun k hk => .inr (.inl (by have := HV.out k (hXX ▸ hk); omega)))
  have hN7 := (hN4.ext xu (by simp)).ext r2 (by rw [hXX]; exact hbX)
  refine hK.out _ _ (fun _ => hS1) ?_; clear hK K
  (try simp only [List.getElem_toArray, List.getElem_cons_zero, List.getElem_cons_succ]); (try simp only [Act.put, List.setIfInBounds_toArray, List.set_cons_zero, List.set_cons_succ])
  clear r1 r2
  have nf := hN7.frozen
  obtain ⟨n0, n1⟩ := hN7.c2
  refine HeldBut.takeT (i := 8) (v := ?_) rfl (by kernel_rfl) (by kernel_rfl) (by kernel_rfl) (by kernel_rfl) (fun _ _ _ h => h) (Or.inl ⟨by kernel_rfl, ?_⟩) ?_; rotate_left 1; (focus (intro u hu; (try dsimp only at hu); go_simp; try with_reducible rfl)); (try simp only [List.getElem_toArray, List.getElem_cons_zero, List.getElem_cons_succ]); (try simp only [Act.put, List.setIfInBounds_toArray, List.set_cons_zero, List.set_cons_succ])
  refine HeldBut.takeT (i := 9) (v := ?_) rfl (by kernel_rfl) (by kernel_rfl) (by kernel_rfl) (by kernel_rfl) (fun _ _ _ h => h) (Or.inl ⟨by kernel_rfl, ?_⟩) ?_; rotate_left 1; (focus (intro u hu; (try dsimp only at hu); go_simp; try with_reducible rfl)); (try simp only [List.getElem_toArray, List.getElem_cons_zero, List.getElem_cons_succ]); (try simp only [Act.put, List.setIfInBounds_toArray, List.set_cons_zero, List.set_cons_succ])
  refine HeldBut.one (i := 10) (by kernel_rfl) ?_
  refine HeldBut.step (i := 10) rfl (fun K hK => ?_)
  try simp only [List.getElem_toArray, List.getElem_cons_zero, List.getElem_cons_succ]
  go_simp
  refine hK.out _ _ (fun h => (h (by simp)).elim) ?_; clear hK K
  (try simp only [List.getElem_toArray, List.getElem_cons_zero, List.getElem_cons_succ]); (try simp only [Act.put, List.setIfInBounds_toArray, List.set_cons_zero, List.set_cons_succ])
  refine HeldBut.done (by kernel_rfl) ?_ _
  have x8 := (Ext.refl [b] w7).setCell (p := ⟨b, 1, none⟩) (.inl (by simp)) (.slice a7 (rs.length + 1) c7)
  have hN8 := hN7.set 1 (.slice a7 (rs.length + 1) c7)
  simp only [List.set_cons_zero, List.set_cons_succ] at hN8
  have hO8 := hO7.other hN7 (by decide) (by decide) x8
  have hx8 := hx7.cell b 1 (.slice a7 (rs.length + 1) c7) (.inl rfl)
  have HH := Lib.hid (And.intro hN8 (And.intro hO8 hx8))
  clear hN8 hO8 hx8 x8 hO7 hx7 hN7 hS0 hS1
  go_wp2_with (fail)
  go_ret
  refine ⟨rfl, _, _, ⟨_, _, _, rfl⟩, ?_, HH.out.2.1, HH.out.2.2⟩
  have := HH.out.1
  rwa [show ((s + 1 : Nat) : Int) = (s : Int) + 1 by omega]
theorem add_full (W : World) (b s num : Nat) (v : Value) (l : List Par) (av : Option Addr) (cv : Nat) (hv : v = .slice av l.length cv) (hN : Blk W b 25 [.int .u64 (s : Int), v])
    (fr tt : Int) (a : Option Addr) (n c : Nat) (sp : Bool) (h : l.length = 20000 ∨ s = 1099511627776) :
    Calls Try.prog 53 #[pt b, PV num fr tt (.slice a n c) sp] W fun e w' => e = .returned (.int .i64 6) ∧ Ext [] W w' := by
  subst hv
  have e1 := (Ext.refl [] W).alloc (.cells #[.int .u64 (num : Int), .int .i64 fr, .int .i64 tt, .slice a n c, .bool sp] 33)
  obtain ⟨n0, n1⟩ := (hN.ext e1 (by simp)).c2
  clear hN
  generalize l.length = m at *
  by_cases h1 : m = 20000
  · subst h1
    clear h
    go_enter Try.func53, Try.ntmps53
    go_wp2_with (fail)
    go_ret
    exact ⟨rfl, e1⟩
  · obtain rfl : s = 1099511627776 := by omega
    have q1 : ((m : Int) == 20000) = false := by simp; omega
    clear h h1
    go_enter Try.func53, Try.ntmps53
    go_wp2_with (fail)
    go_ret
    exact ⟨rfl, e1⟩
end Go.Proofs.Ytpdfmeaemlgniaa
