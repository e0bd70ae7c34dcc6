/-
  PROVED: bowspritlaw01.OctetPeeks: for all bytes, every number and every list of asks the call returns true: whatever is looked at ahead is what comes; looking changes nothing. No condition.
-/
import Derived.Test.YtcahdillpdekmaaOctH
import Derived.Test.YtcahdillpdekmaaEqual
import Derived.OpenShut
import Derived.ChangeOld
namespace Go.Proofs.Ytcahdillpdekmaa
open Go.RowKit
set_option linter.unusedVariables false

theorem kind9 (K : Int) : ∃ m : Nat, wrap64 ((IntKind.u64.wrap K).tmod 9) = (m : Int) ∧ m ≤ 8 := by
  have h : (IntKind.u64.wrap K).tmod 9 = (IntKind.u64.wrap K) % 9 := Int.tmod_eq_emod_of_nonneg (by rw [wrap_u64_mod]; omega)
  refine ⟨((IntKind.u64.wrap K) % 9).toNat, ?_, by omega⟩
  rw [h, IntWalk.wrap64_in _ (by omega)]
  omega

/-- what has been looked at, i places ahead -/
def R.seen (r : R) (i : Nat) : List UInt8 := if r.why = 0 then (r.bs.drop r.pos).take i else []
theorem R.seen_zero (r : R) : r.seen 0 = [] := by unfold R.seen; split <;> simp
theorem R.seen_why (r : R) (i : Nat) (h : r.why ≠ 0) : r.seen i = [] := by unfold R.seen; rw [if_neg h]
theorem R.seen_past (r : R) (i : Nat) (h : r.bs.length - r.pos ≤ i) : r.seen (i + 1) = r.seen i := by
  unfold R.seen; split
  · rw [List.take_of_length_le (by simp; omega), List.take_of_length_le (by simp; omega)]
  · rfl
theorem R.seen_past' (r : R) (i : Nat) (h : r.why ≠ 0) : r.seen (i + 1) = r.seen i := by rw [R.seen_why r _ h, R.seen_why r _ h]
theorem R.seen_next (r : R) (i : Nat) (h : r.why = 0) (hi : r.pos + i < r.bs.length) : r.seen (i + 1) = r.seen i ++ [r.bs.getD (r.pos + i) 0] := by
  unfold R.seen
  rw [if_pos h, if_pos h, List.take_add_one, List.getElem?_drop, List.getElem?_eq_getElem hi]
  congr 1
  simp [List.getD_eq_getElem?_getD, List.getElem?_eq_getElem hi]
theorem R.seen_le (r : R) (i : Nat) : (r.seen i).length ≤ i := by unfold R.seen; split <;> simp; omega
theorem R.seen_got (r : R) (n : Nat) (h : (r.go n).why = 0) : r.seen n = r.got n := by
  cases hb : r.bad n
  · obtain ⟨g1, _, _, _⟩ := R.go_good hb
    unfold R.seen R.got
    rw [if_pos g1, if_neg (by rw [hb]; simp)]
    simp
  · exact absurd h (R.go_bad hb).2.2

theorem own_drewN {w : World} {base e size n : Nat} {v : Value} {xs : List Value} (h : w.ownsRow base e size v n xs) (k : Nat) : (w.drewN k).ownsRow base e size v n xs := h

theorem own_bs {w : World} {base : Nat} {v : Value} {l : List UInt8} (h : w.ownsRow base 5 1 v l.length (l.map BV)) : ∃ ob, Bs w v ob l ∧ base ≤ ob := by
  have h0 := h
  rcases h0.2 with ⟨rfl, hl⟩ | ⟨g, cap, cur, rfl, h1, h2, _⟩
  · obtain rfl : l = [] := List.eq_nil_of_length_eq_zero hl
    exact ⟨base, .nothing' _ _, Nat.le_refl _⟩
  · obtain ⟨ob, hs, h | h⟩ := Sl.of_own h
    · simp at h
    · exact ⟨ob, hs, h.1⟩

/-- two readers in one state -/
structure Two (w W : World) (b1 o1 b2 o2 : Nat) (v1 v2 : Value) (r : R) : Prop where
  r1 : RdAt W b1 o1 v1 r
  r2 : RdAt W b2 o2 v2 r
  ext : Ext [] w W

theorem Two.keep {w W W' : World} {b1 o1 b2 o2 : Nat} {v1 v2 : Value} {r : R} (h : Two w W b1 o1 b2 o2 v1 v2 r) (he : Ext [] W W') : Two w W' b1 o1 b2 o2 v1 v2 r :=
  ⟨h.r1.ext he (by simp) (by simp), h.r2.ext he (by simp) (by simp), h.ext.trans he⟩

set_option maxRecDepth 100000 in
set_option maxHeartbeats 4000000 in
theorem walkPeeks (w : World) (v va : Value) (ob ab na : Nat) (kk : Int) (l : List UInt8) (h : Bs w v ob l) (ha : Asks w va ab na) (hl : l.length ≤ 2000) (hna : na ≤ 100) :
    Calls Try.prog 8 #[v, .int .i64 kk, va] w fun e w' => e = .returned (.bool true) ∧ Below w.heap.size w w' := by
  obtain ⟨av, cv, rfl⟩ := h.shape
  obtain ⟨aa, ca, rfl⟩ := ha.shape
  go_enter Try.func8, Try.ntmps8
  go_wp2_with (first
    | (go_at_call 9; refine (wakes_any _).mono ?_; rintro e w0 ⟨rfl, h0⟩)
    | (go_at_call 16; with_reducible refine (Read_any w0 _ ob l (h.ext h0 (by simp)) (by omega)).mono ?_; rintro e w1 ⟨b1, o1, v1, rfl, hR1, hb1, ho1, hn1, hE1⟩)
    | (go_at_call 16; with_reducible refine (Read_any w1 _ ob l ((h.ext h0 (by simp)).ext hE1 (by simp)) (by omega)).mono ?_; rintro e w2 ⟨b2, o2, v2, rfl, hR2, hb2, ho2, hn2, hE2⟩))
  have hl1 : b1 < w1.heap.size := size_heap hR1.blk
  have hl2 : b2 < w2.heap.size := size_heap hR2.blk
  have hs0 := h0.size
  have hs1 := hE1.size
  have hs2 := hE2.size
  obtain ⟨p1, q1, q1', hT1⟩ : ∃ p1, (p1 ≠ b1 ∧ p1 ≠ b2) ∧ (v1 = .slice none 0 0 ∨ p1 < w2.heap.size) ∧ RdAt w2 b1 p1 v1 ⟨l, 0, 0⟩ := by
    rcases hn1 with hn | hlt
    · exact ⟨b1 + b2 + 1, by omega, .inl hn, (hR1.move hn (by omega)).ext hE2 (by simp) (by simp)⟩
    · exact ⟨o1, ⟨hR1.ne, by omega⟩, .inr (by omega), hR1.ext hE2 (by simp) (by simp)⟩
  obtain ⟨p2, q2, q2', hT2⟩ : ∃ p2, (p2 ≠ b2 ∧ p2 ≠ b1) ∧ (v2 = .slice none 0 0 ∨ p2 < w2.heap.size) ∧ RdAt w2 b2 p2 v2 ⟨l, 0, 0⟩ := by
    rcases hn2 with hn | hlt
    · exact ⟨b1 + b2 + 1, by omega, .inl hn, hR2.move hn (by omega)⟩
    · exact ⟨o2, ⟨hR2.ne, by omega⟩, .inr hlt, hR2⟩
  have hT : Two w w2 b1 p1 b2 p2 v1 v2 ⟨l, 0, 0⟩ := ⟨hT1, hT2, (h0.trans hE1).trans hE2⟩
  have hbb : b1 ≠ b2 ∧ w.heap.size ≤ b1 ∧ w.heap.size ≤ b2 := by omega
  have hbl : b1 < w2.heap.size ∧ b2 < w2.heap.size := by omega
  clear hT1 hT2 hR1 hR2 hn1 hn2 hs0 hs1 hs2 hl1 hl2 hb1 hb2 ho1 ho2 h0 hE1 hE2 h
  have hA0 := ha
  clear ha
  go_loopw [34] (fun i wq => ∃ (k : Nat) (r : R), k ≤ na ∧ i = .int .i64 k ∧ Two w wq b1 p1 b2 p2 v1 v2 r ∧ w2.heap.size ≤ wq.heap.size) (fun i _ => na - (intOf i).toNat)
  case atStart => exact ⟨0, _, by omega, rfl, hT, Nat.le_refl _⟩
  case round =>
    obtain ⟨j, r, hj, rfl, hS, hsz⟩ := hrel
    clear hT
    by_cases hjn : j < na
    · obtain ⟨off, K, N, rfl, cK, cN, hK0, hK1, hN0, hN1⟩ := (hA0.ext hS.ext (by simp)).at j hjn
      obtain ⟨m, hm, hm8⟩ := kind9 N
      go_wp2
      rw [hm]
      clear hm
      have hS4 : Two w (wr.alloc (Obj.cells #[Value.int .i64 K, Value.int .i64 N] 44)) b1 p1 b2 p2 v1 v2 r := hS.keep ((Ext.refl [] wr).alloc _)
      have hsz4 : w2.heap.size ≤ (wr.alloc (Obj.cells #[Value.int .i64 K, Value.int .i64 N] 44)).heap.size := by simp; omega
      clear hS hsz cK cN
      generalize wr.alloc _ = W0 at *
      go_loopw [12, 44] (fun v i wq => ∃ k : Nat, k ≤ m ∧ i = .int .i64 k ∧ wq.ownsRow W0.heap.size 5 1 v (r.seen k).length ((r.seen k).map BV) ∧ Ext [] W0 wq) (fun _ i _ => m - (intOf i).toNat)
      case atStart => exact ⟨0, by omega, rfl, by rw [R.seen_zero]; exact World.ownsRow_nil _ _ _ _, Ext.refl _ _⟩
      case round =>
        obtain ⟨k, hk, rfl, ho, he⟩ := hrel
        by_cases hlt : k < m
        · have hS5 := hS4.keep he
          have hR5 := hS5.r1
          have hpk := Peek_any wr b1 p1 v1 r k hR5
          have her : ∀ n, Calls Try.prog 26 #[.pointer (some ⟨b1, 0, none⟩)] (wr.drewN n) fun e w' => e = .returned (.int .i64 r.why) ∧ w' = wr.drewN n := fun n => by
            refine (Err_any _ b1 p1 v1 r (hR5.drewN n)).mono ?_
            rintro e w' ⟨rfl, rfl⟩; exact ⟨rfl, rfl⟩
          have hlf : ∀ n, Calls Try.prog 27 #[.pointer (some ⟨b1, 0, none⟩)] (wr.drewN n) fun e w' => e = .returned (.int .i64 ((r.bs.length : Int) - r.pos)) ∧ ∃ k, w' = (wr.drewN n).drewN k := fun n => Left_any _ b1 p1 v1 r (hR5.drewN n)
          have hple := hR5.le
          have hsm := hR5.small
          by_cases hw : r.why = 0
          · by_cases hi : r.pos + k < r.bs.length
            · have hpe : r.peek k = some (r.bs.getD (r.pos + k) 0) := by
                unfold R.peek
                have hc : r.why = 0 ∧ 0 ≤ (k : Int) ∧ (k : Int) < (r.bs.length : Int) - r.pos := ⟨hw, by omega, by omega⟩
                rw [if_pos hc]; congr 2
              rw [hpe] at hpk
              have hseen0 := R.seen_next r k hw hi
              rw [hw] at her
              have hbl1 : (r.seen k).length ≤ k := R.seen_le r k
              generalize r.bs.getD (r.pos + k) 0 = x at *
              simp only [peekTuple, BV] at hpk
              have hx0 : (x.toNat : Int) < 256 := by have := x.toNat_lt; omega
              have hi' : (k : Int) < (r.bs.length : Int) - r.pos := by omega
              have hseen := Lib.hid hseen0
              clear hpe hseen0 hw
              generalize (r.bs.length : Int) - r.pos = left at *
              go_wp2_with (first
                | (go_at_call 17; refine hpk.mono ?_; rintro e w5 ⟨rfl, n5, rfl⟩)
                | (go_at_call 26; refine (her _).mono ?_; rintro e w6 ⟨rfl, rfl⟩)
                | (go_at_call 27; refine (hlf _).mono ?_; rintro e w7 ⟨rfl, n7, rfl⟩)
                | (at_builtin; refine wpList_append_sl T22 rfl (.tmp 65) (.tmp 67) rfl rfl ((own_drewN ho _).alloc _) rfl (Sl.one (wr.drewN _) _ _) (by intro u hu; simp at hu; subst hu; rfl) (by unfold maxLen; omega) (by omega) (by have := he.size; simp; omega) ?_; intro v8 w8 ho8 he8))
              have he9 : Ext [] W0 w8 := ((he.drewN _).alloc _).trans' he8 (fun i hi => .inr (own_ge ho i hi))
              have ho9 : w8.ownsRow W0.heap.size 5 1 v8 (r.seen (k + 1)).length ((r.seen (k + 1)).map BV) := by
                rw [hseen.out, List.length_append, List.map_append]; exact ho8
              go_roundw
              case rel => exact ⟨k + 1, by omega, by go_num, ho9, he9⟩
              case measure => simp [intOf]; omega
            · have hpe : r.peek k = none := by
                unfold R.peek
                rw [if_neg (by omega)]
              rw [hpe] at hpk
              have hseen := Lib.hid (R.seen_past r k (by omega))
              rw [hw] at her
              simp only [peekTuple] at hpk
              have hi' : (r.bs.length : Int) - r.pos ≤ (k : Int) := by omega
              clear hpe hw hi
              generalize (r.bs.length : Int) - r.pos = left at *
              go_wp2_with (first
                | (go_at_call 17; refine hpk.mono ?_; rintro e w5 ⟨rfl, n5, rfl⟩)
                | (go_at_call 26; refine (her _).mono ?_; rintro e w6 ⟨rfl, rfl⟩)
                | (go_at_call 27; refine (hlf _).mono ?_; rintro e w7 ⟨rfl, n7, rfl⟩))
              go_roundw
              case rel => exact ⟨k + 1, by omega, by go_num, by rw [hseen.out]; exact ho, he.drewN _⟩
              case measure => simp [intOf]; omega
          · have hpe : r.peek k = none := by
              unfold R.peek
              rw [if_neg (by omega)]
            rw [hpe] at hpk
            have hseen := Lib.hid (R.seen_past' r k hw)
            simp only [peekTuple] at hpk
            have hw2 : (r.why == 0) = false := by simpa using hw
            clear hpe hw hlf
            generalize r.why = y at *
            go_wp2_with (first
                | (go_at_call 17; refine hpk.mono ?_; rintro e w5 ⟨rfl, n5, rfl⟩)
                | (go_at_call 26; refine (her _).mono ?_; rintro e w6 ⟨rfl, rfl⟩))
            go_roundw
            case rel => exact ⟨k + 1, by omega, by go_num, by rw [hseen.out]; exact ho, he.drewN _⟩
            case measure => simp [intOf]; omega
        · obtain rfl : k = m := by omega
          have hS5 := hS4.keep he
          have hg := R.seen_got r k
          have hle := R.got_le r k
          have hsm := hS5.r1.small
          have hsz5 : w2.heap.size ≤ wr.heap.size := by have := he.size; omega
          obtain ⟨vv, hvv⟩ : ∃ vv, peekTuple (r.peek kk) = vv := ⟨_, rfl⟩
          have hpk := Peek_any wr b1 p1 v1 r kk hS5.r1
          rw [hvv] at hpk
          have hra : ∀ W b p v, RdAt W b p v r → Calls Try.prog 24 #[.pointer (some ⟨b, 0, none⟩), .int .i64 k] W fun e w' => ∃ v', e = .returned v' ∧ NewB W w' v' (r.got k) ∧ RdAt w' b p v (r.go k) ∧ Ext [b] W w' := fun W b p v h => Raw_any W b p v r k h
          have her : ∀ W b p v, RdAt W b p v (r.go k) → Calls Try.prog 26 #[.pointer (some ⟨b, 0, none⟩)] W fun e w' => e = .returned (.int .i64 (r.go k).why) ∧ W = w' := fun W b p v h => Err_any W b p v _ h
          have hlf : ∀ W b p v, RdAt W b p v (r.go k) → Calls Try.prog 27 #[.pointer (some ⟨b, 0, none⟩)] W fun e w' => e = .returned (.int .i64 (((r.go k).bs.length : Int) - (r.go k).pos)) ∧ ∃ n, w' = W.drewN n := fun W b p v h => Left_any W b p v _ h
          generalize r.seen k = A at *
          generalize r.got k = G at *
          generalize hgo : r.go k = r' at *
          have hgl : G.length ≤ 1000000 := by omega
          clear hgo hle hsm hvv hS4
          obtain ⟨y, hy⟩ : ∃ y, r'.why = y := ⟨_, rfl⟩
          rw [hy] at her hg
          generalize ((r'.bs.length : Int) - r'.pos) = left at *
          clear hy
          obtain ⟨oa, hBa, hoa⟩ : ∃ oa, Bs wr _ oa A ∧ W0.heap.size ≤ oa := own_bs ho
          by_cases hy0 : y = 0
          · subst hy0
            have hAG : A = G := hg rfl
            subst hAG
            clear hg
            go_wp2_with (first
              | (go_at_call 17; refine hpk.mono ?_; rintro e w5 ⟨rfl, n5, rfl⟩; have hS6 := hS5.keep ((Ext.refl [] wr).drewN n5); have hX6 := hS5.ext; clear hS5)
              | (go_at_call 24; with_reducible refine (hra _ b1 p1 v1 hS6.r1).mono ?_; rintro e w6 ⟨v6, rfl, hN6, hR6, hE6⟩; have hQ6 := hS6.r2.ext hE6 (by simp; omega) (by simp; omega))
              | (go_at_call 24; with_reducible refine (hra _ b2 p2 v2 hQ6).mono ?_; rintro e w7 ⟨v7, rfl, hN7, hR7, hE7⟩; have hQ7 := hR6.ext hE7 (by simp; omega) (by simp; omega))
              | (go_at_call 28; obtain ⟨o6, hB6, ho6⟩ := hN6.bs; obtain ⟨o7, hB7, ho7⟩ := hN7.bs; have ho6' : wr.heap.size ≤ o6 := ho6; have hB67 := hB6.ext hE7 (by simp; omega); have hBa7 := ((hBa.drewN n5).ext hE6 (by simp; omega)).ext hE7 (by simp; omega); with_reducible refine (Equal_any w7 _ _ _ _ A A hB67 hB7).mono ?_; rintro e w8 ⟨rfl, rfl⟩; clear hB6 hB7 hBa)
              | (go_at_call 28; with_reducible refine (Equal_any (w7.drewN _) _ _ _ _ A A (hBa7.drewN _) (hB67.drewN _)).mono ?_; rintro e w8 ⟨rfl, rfl⟩)
              | (go_at_call 27; with_reducible refine (hlf w7 b1 p1 v1 hQ7).mono ?_; rintro e w8 ⟨rfl, n8, rfl⟩)
              | (go_at_call 27; with_reducible refine (hlf (w7.drewN _) b2 p2 v2 (hR7.drewN _)).mono ?_; rintro e w8 ⟨rfl, n9, rfl⟩)
              | (go_at_call 26; with_reducible refine (her (w7.drewN _) b1 p1 v1 (hQ7.drewN _)).mono ?_; rintro e w8 ⟨rfl, rfl⟩)
              | (go_at_call 26; with_reducible refine (her (w7.drewN _) b2 p2 v2 (hR7.drewN _)).mono ?_; rintro e w8 ⟨rfl, rfl⟩)
              | fail)
            have hs6 := hE6.size
            have hs7 := hE7.size
            have hsw : w2.heap.size ≤ w7.heap.size := by simp at hs6; omega
            go_roundw
            case rel => exact ⟨j + 1, r', by omega, by go_num, ⟨hQ7.drewN _, hR7.drewN _, ((hS6.ext.trans' hE6 (by simp; omega)).trans' hE7 (by simp; omega)).drewN _⟩, hsw⟩
            case measure => simp [intOf]; omega
          · have hy1 : (y == 0) = false := by simpa using hy0
            clear hg
            go_wp2_with (first
              | (go_at_call 17; refine hpk.mono ?_; rintro e w5 ⟨rfl, n5, rfl⟩; have hS6 := hS5.keep ((Ext.refl [] wr).drewN n5); have hX6 := hS5.ext; clear hS5)
              | (go_at_call 24; with_reducible refine (hra _ b1 p1 v1 hS6.r1).mono ?_; rintro e w6 ⟨v6, rfl, hN6, hR6, hE6⟩; have hQ6 := hS6.r2.ext hE6 (by simp; omega) (by simp; omega))
              | (go_at_call 24; with_reducible refine (hra _ b2 p2 v2 hQ6).mono ?_; rintro e w7 ⟨v7, rfl, hN7, hR7, hE7⟩; have hQ7 := hR6.ext hE7 (by simp; omega) (by simp; omega))
              | (go_at_call 28; obtain ⟨o6, hB6, ho6⟩ := hN6.bs; obtain ⟨o7, hB7, ho7⟩ := hN7.bs; have ho6' : wr.heap.size ≤ o6 := ho6; have hB67 := hB6.ext hE7 (by simp; omega); have hBa7 := ((hBa.drewN n5).ext hE6 (by simp; omega)).ext hE7 (by simp; omega); with_reducible refine (Equal_any w7 _ _ _ _ G G hB67 hB7).mono ?_; rintro e w8 ⟨rfl, rfl⟩; clear hB6 hB7 hBa)
              | (go_at_call 28; with_reducible refine (Equal_any (w7.drewN _) _ _ _ _ G G (hBa7.drewN _) (hB67.drewN _)).mono ?_; rintro e w8 ⟨rfl, rfl⟩)
              | (go_at_call 27; with_reducible refine (hlf w7 b1 p1 v1 hQ7).mono ?_; rintro e w8 ⟨rfl, n8, rfl⟩)
              | (go_at_call 27; with_reducible refine (hlf (w7.drewN _) b2 p2 v2 (hR7.drewN _)).mono ?_; rintro e w8 ⟨rfl, n9, rfl⟩)
              | (go_at_call 26; with_reducible refine (her (w7.drewN _) b1 p1 v1 (hQ7.drewN _)).mono ?_; rintro e w8 ⟨rfl, rfl⟩)
              | (go_at_call 26; with_reducible refine (her (w7.drewN _) b2 p2 v2 (hR7.drewN _)).mono ?_; rintro e w8 ⟨rfl, rfl⟩)
              | fail)
            have hs6 := hE6.size
            have hs7 := hE7.size
            have hsw : w2.heap.size ≤ w7.heap.size := by simp at hs6; omega
            go_roundw
            case rel => exact ⟨j + 1, r', by omega, by go_num, ⟨hQ7.drewN _, hR7.drewN _, ((hS6.ext.trans' hE6 (by simp; omega)).trans' hE7 (by simp; omega)).drewN _⟩, hsw⟩
            case measure => simp [intOf]; omega
    · clear hA0
      have hbel := hS.ext.below
      clear hS
      go_wp2
      go_ret
      exact ⟨rfl, hbel⟩

/-- too long to be asked of -/
theorem walkPeeks_long (w : World) (a a' : Option Addr) (n c n' c' : Nat) (kk : Int) (hn : 2000 < (n : Int) ∨ 100 < (n' : Int)) :
    Calls Try.prog 8 #[.slice a n c, .int .i64 kk, .slice a' n' c'] w fun e w' => e = .returned (.bool true) ∧ Below w.heap.size w w' := by
  by_cases h1 : 2000 < (n : Int)
  · clear hn
    go_enter Try.func8, Try.ntmps8
    go_wp2_with (go_at_call 9; refine (wakes_any _).mono ?_; rintro e w0 ⟨rfl, h0⟩)
    go_ret
    exact ⟨rfl, h0.below⟩
  · have h2 : 100 < (n' : Int) := by omega
    clear hn
    go_enter Try.func8, Try.ntmps8
    go_wp2_with (go_at_call 9; refine (wakes_any _).mono ?_; rintro e w0 ⟨rfl, h0⟩)
    go_ret
    exact ⟨rfl, h0.below⟩

open Go.ChangeShapes Go.WideShapes Go.ChangeAt in
theorem walk_OctetPeeks {H : Type} {enc : TypeId × Value → H} (W : World) (v0 : Value) (d0 : DataW H) (p0 : List MemPlace) (base0 : Nat) (h0 : DataW.Trod enc Try.prog W 0 (fun _ => true) true 22 v0 d0 p0) (k0 : Value.okWide Try.prog W .any base0 22 v0) (v1 : Value) (d1 : DataW H) (p1 : List MemPlace) (base1 : Nat) (h1 : DataW.Trod enc Try.prog W 0 (fun _ => true) true 3 v1 d1 p1) (k1 : Value.okWide Try.prog W .any base1 3 v1) (v2 : Value) (d2 : DataW H) (p2 : List MemPlace) (base2 : Nat) (h2 : DataW.Trod enc Try.prog W 0 (fun _ => true) true 36 v2 d2 p2) (k2 : Value.okWide Try.prog W .any base2 36 v2) :
    Calls Try.prog 8 #[v0, v1, v2] W fun e w' => e = .returned (.bool true) ∧ Below W.heap.size W w' := by
  obtain ⟨a, n, c, rfl, ob, l, hl, hB⟩ := read_bytes h0 k0
  obtain ⟨kk, rfl, rfl, rfl, w1⟩ := open_int Try.underlying3 k1 h1
  obtain ⟨ab, na, hA⟩ := read_asks h2 k2
  by_cases hn : 2000 < (n : Int) ∨ 100 < (na : Int)
  · obtain ⟨a', c', rfl⟩ := hA.shape
    exact walkPeeks_long W a a' n c na c' kk hn
  · exact walkPeeks W _ _ ob ab na kk l hB hA (by omega) (by omega)

namespace octetPeeks
open Go.ChangeShapes Go.WideShapes Go.ChangeAt Go.RowKit
theorem own : ownKnob Try.prog.godebug = none := by kernel_rfl
theorem laidOut : laidOutB Try.prog = true := by kernel_rfl
set_option maxRecDepth 100000 in
theorem lifted (os : Os) (started : os.Started) (H : Type) (enc : TypeId × Value → H) :
    ReturnsInHanded {} Try.checked os 8 .any (Rows.octetPeeksSpec.pre6 enc Try.prog Try.f8 Rows.octetPeeksRow.domain false) (Rows.octetPeeksSpec.post enc Try.prog Try.f8 false true false false) := by
  refine returnsInHanded_of_change (C := Try.checked) own started (by kernel_rfl) Try.func8
    (ChangeSpec.witness6 (enc := enc) (C := Try.checked) false ⟨#[], #[.slice none 0 0, .int .i64 0, .slice none 0 0], []⟩ 8 (by kernel_rfl) (by kernel_rfl) (by kernel_rfl) (by kernel_rfl)) ?_
  intro W base args ds gs before hval0 hW hcnd _
  have hval : ∀ (j : Nat) t v, Try.f8.params[j]? = some t → args[j]? = some v → Value.okWide Try.prog W .any base t v := hval0
  have hW' := hW
  obtain ⟨p, q, hA0, hV, rfl, hfz, hnd⟩ := hW
  have hA : DataW.TrodAll enc Try.prog W 0 (fun _ => true) true Try.f8.params.toList args.toList ds p := hA0
  rw [Try.params8] at hA hval
  obtain ⟨v0, vs0, d0, ds0, p0, q0, hargs, rfl, rfl, h0, r0⟩ := trodAll_cons hA
  obtain ⟨v1, vs1, d1, ds1, p1, q1, rfl, rfl, rfl, h1, r1⟩ := trodAll_cons r0
  obtain ⟨v2, vs2, d2, ds2, p2, q2, rfl, rfl, rfl, h2, r2⟩ := trodAll_cons r1
  obtain ⟨rfl, rfl, rfl⟩ := trodAll_nil r2
  obtain rfl : args = #[v0, v1, v2] := by cases args; simp_all
  obtain ⟨rfl, rfl⟩ := trodVars_none hV
  have lt0 : ∀ x ∈ p0, x.block < W.heap.size := by obtain ⟨m, hm⟩ := h0; exact DataW.trod_lt m _ _ _ hm
  have lt1 : ∀ x ∈ p1, x.block < W.heap.size := by obtain ⟨m, hm⟩ := h1; exact DataW.trod_lt m _ _ _ hm
  have lt2 : ∀ x ∈ p2, x.block < W.heap.size := by obtain ⟨m, hm⟩ := h2; exact DataW.trod_lt m _ _ _ hm
  have k0 := hval 0 22 v0 rfl rfl
  have k1 := hval 1 3 v1 rfl rfl
  have k2 := hval 2 36 v2 rfl rfl
  clear hA0 hval0
  refine (walk_OctetPeeks W v0 d0 p0 base h0 k0 v1 d1 p1 base h1 k1 v2 d2 p2 base h2 k2).mono fun e W' ⟨he, bel⟩ => ?_
  subst he
  exact ⟨_, rfl, _, _, _, [], _, [], hW', trodAll_mk1 (shut_bool Try.underlying4 _), (trodAll_cons_mk (Below.trod laidOut (by kernel_rfl) (of_decide_eq_true (by kernel_rfl)) h0 bel lt0) (trodAll_cons_mk (Below.trod laidOut (by kernel_rfl) (of_decide_eq_true (by kernel_rfl)) h1 bel lt1) (trodAll_cons_mk (Below.trod laidOut (by kernel_rfl) (of_decide_eq_true (by kernel_rfl)) h2 bel lt2) trodAll_mk0))), rfl, bel.frame _, fun h => by cases h⟩
theorem over : Rows.octetPeeksRow.holds Try.pinned (OpenSpec.ofChange Rows.octetPeeksSpec) :=
  OpenClaim.holds_of_wide 8 Try.f8 rfl rfl rfl rfl rfl rfl rfl ⟨rfl, rfl, rfl, rfl, rfl⟩ rfl rfl rfl rfl rfl (by kernel_rfl) Try.func8 (by kernel_rfl)
    (of_decide_eq_true (by kernel_rfl)) (by unfold Func.isWrapper; first | (rw [if_pos (by decide +kernel)]; kernel_rfl) | (rw [if_neg (by decide +kernel)]; exact ⟨rfl, rfl⟩))
    (fun os started H enc _ => lifted os started H enc)
theorem proved : Rows.OctetPeeksSaid := over
#print axioms proved
end octetPeeks
end Go.Proofs.Ytcahdillpdekmaa
