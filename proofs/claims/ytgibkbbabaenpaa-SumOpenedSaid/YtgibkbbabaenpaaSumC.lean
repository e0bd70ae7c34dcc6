import Derived.Test.YtgibkbbabaenpaaSumB
namespace Go.Proofs.Ytgibkbbabaenpaa
open Go.RowKit
set_option linter.unusedVariables false

theorem Spread_low (w : World) (v : Value) (n : Int) (hn : n < 1) :
    Calls Try.prog 20 #[v, .int .i64 n] w fun e w' => e = .returned (.tuple #[.int .i64 0, .int .i64 2]) ∧ w = w' := by
  go_enter Try.func20, Try.ntmps20
  go_wp2
  go_ret2
  exact ⟨rfl, rfl⟩
set_option maxHeartbeats 400000 in
theorem Spread_any (w : World) (v : Value) (ob : Nat) (l : List UInt8) (n : Nat) (h : Bs w v ob l) (hl : l.length ≤ 1000000) (hn : 1 ≤ n) (hn2 : (n : Int) ≤ 9223372036854775807) :
    Calls Try.prog 20 #[v, .int .i64 (n : Int)] w fun e w' => e = .returned (.tuple #[.int .i64 ((crc l % n : Nat) : Int), .int .i64 0]) ∧ Ext [] w w' := by
  have hs := Sum32_any w v ob l h hl
  have hc := crc_lt l
  clear h
  generalize crc l = C at *
  have hC : (C : Int) ≤ 4294967295 := by omega
  have hn1 : (1 : Int) ≤ n := by omega
  have hn3 : ¬ (n : Int) < 1 := by omega
  have hr : ((C : Int) % n) = ((C % n : Nat) : Int) := by simp
  have hr0 : ((C % n : Nat) : Int) ≤ 4294967295 := by have := Nat.mod_le C n; omega
  have hr1 : 0 ≤ ((C % n : Nat) : Int) := by omega
  generalize C % n = M at *
  clear hc hn
  go_enter Try.func20, Try.ntmps20
  go_wp2_with (go_at_call 12; refine hs.mono ?_; rintro e w1 ⟨rfl, hE1⟩)
  go_ret2
  exact ⟨rfl, hE1⟩

theorem Apart_len (w : World) (va vb : Value) (oa ob : Nat) (la lb : List UInt8) (ha : Bs w va oa la) (hb : Bs w vb ob lb) (hne : la.length ≠ lb.length) :
    Calls Try.prog 11 #[va, vb] w fun e w' => e = .returned (.tuple #[.int .u32 0, .int .i64 2]) ∧ w = w' := by
  have h1 : ((la.length : Int) != lb.length) = true := by simpa using (show ¬ (la.length : Int) = lb.length by omega)
  have h2 : (la.length != lb.length) = true := by simpa using hne
  obtain ⟨av, cv, rfl⟩ := ha.shape
  obtain ⟨av', cv', rfl⟩ := hb.shape
  clear ha hb hne
  generalize la.length = m at *
  generalize lb.length = n at *
  go_enter Try.func11, Try.ntmps11
  go_wp2
  go_ret2
  exact ⟨rfl, rfl⟩
set_option maxHeartbeats 400000 in
theorem Apart_any (w : World) (va vb : Value) (oa ob : Nat) (la lb : List UInt8) (ha : Bs w va oa la) (hb : Bs w vb ob lb) (heq : la.length = lb.length) (hl : la.length ≤ 1000000) :
    Calls Try.prog 11 #[va, vb] w fun e w' => e = .returned (.tuple #[.int .u32 ((crc la ^^^ crc lb : Nat) : Int), .int .i64 0]) ∧ Ext [] w w' := by
  have h1 : ((la.length : Int) != lb.length) = false := by simpa using (show (la.length : Int) = lb.length by omega)
  have h2 : (la.length != lb.length) = false := by simpa using heq
  have hs := Sum32_any w va oa la ha hl
  have hs2 := fun w1 (he : Ext [] w w1) => Sum32_any w1 vb ob lb (hb.ext he (by simp)) (by omega)
  have hx := xor_u32 (crc la) (crc lb) (crc_lt la) (crc_lt lb)
  obtain ⟨av, cv, rfl⟩ := ha.shape
  obtain ⟨av', cv', rfl⟩ := hb.shape
  clear ha hb heq
  generalize crc la ^^^ crc lb = X at *
  generalize crc la = A at *
  generalize crc lb = B at *
  generalize la.length = m at *
  generalize lb.length = n at *
  have HX := Lib.hid hx
  clear hx
  go_enter Try.func11, Try.ntmps11
  go_wp2_with (first
    | (go_at_call 12; ((with_reducible refine hs.mono ?_); rintro e w1 ⟨rfl, hE1⟩))
    | (go_at_call 12; refine (hs2 _ hE1).mono ?_; rintro e w2 ⟨rfl, hE2⟩))
  go_ret2
  exact ⟨by rw [HX.out]; rfl, hE1.trans hE2⟩

/-! ## the document's answer -/
theorem st_flip (r : Nat) : st (r ^^^ 1) = if r % 2 = 1 then r / 2 else (r / 2) ^^^ poly := by
  unfold st
  rw [xor_half, xor_mod2]
  have : (1 : Nat) / 2 = 0 := rfl
  rw [this, Nat.xor_zero]
  rcases Nat.mod_two_eq_zero_or_one r with h | h <;> simp [h]

set_option maxHeartbeats 400000 in
theorem bit_any (w : World) (r : Nat) (b : Nat) (hb : b < 2) (h : r < 4294967296) :
    Calls Try.prog 26 #[.int .u32 (r : Int), .bool ((b : Int) == 1)] w fun e w' => e = .returned (.int .u32 (st (r ^^^ b) : Nat)) ∧ w = w' := by
  have hx : bits .xor .u32 ((r : Int) / 2) 2197175160 = (((r / 2) ^^^ poly : Nat) : Int) := xor_u32 (r / 2) 2197175160 (by omega) (by decide)
  have HX := Lib.hid hx
  clear hx
  have e0 : st (r ^^^ 0) = if r % 2 = 1 then (r / 2) ^^^ poly else r / 2 := by rw [Nat.xor_zero]; rfl
  have e1 := st_flip r
  have cases_b : b = 0 ∨ b = 1 := by omega
  rcases Nat.mod_two_eq_zero_or_one r with h1 | h1
  · have hr : ((r : Int) % 2 == 1) = false := by simp; omega
    rcases cases_b with rfl | rfl
    · rw [e0, if_neg (by omega)]
      clear e0 e1
      go_enter Try.func26, Try.ntmps26
      go_wp2
      go_ret
      exact ⟨rfl, rfl⟩
    · rw [e1, if_neg (by omega)]
      clear e0 e1
      go_enter Try.func26, Try.ntmps26
      go_wp2
      go_ret
      exact ⟨ret_int HX.out, rfl⟩
  · have hr : ((r : Int) % 2 == 1) = true := by simp; omega
    rcases cases_b with rfl | rfl
    · rw [e0, if_pos h1]
      clear e0 e1
      go_enter Try.func26, Try.ntmps26
      go_wp2
      go_ret
      exact ⟨ret_int HX.out, rfl⟩
    · rw [e1, if_pos h1]
      clear e0 e1
      go_enter Try.func26, Try.ntmps26
      go_wp2
      go_ret
      exact ⟨rfl, rfl⟩

theorem ones_sub (r : Nat) (h : r < 4294967296) : ones ^^^ r = 4294967295 - r := by
  refine Nat.eq_of_testBit_eq fun i => ?_
  have e1 : (4294967295 : Nat) - r = 2 ^ 32 - (r + 1) := by omega
  have e2 : ones = 2 ^ 32 - 1 := by decide
  rw [Nat.testBit_xor, e1, Nat.testBit_two_pow_sub_succ h, e2, Nat.testBit_two_pow_sub_one]
  by_cases hi : i < 32
  · simp [hi]
  · have : r.testBit i = false := Nat.testBit_lt_two_pow (Nat.lt_of_lt_of_le h (Nat.pow_le_pow_right (n := 2) (by decide) (show 32 ≤ i by omega)))
    simp [hi, this]

set_option maxRecDepth 100000 in
set_option maxHeartbeats 400000 in
theorem refSum_any (w : World) (v : Value) (ob : Nat) (l : List UInt8) (h : Bs w v ob l) (hl : l.length ≤ 1000000) :
    Calls Try.prog 13 #[v] w fun e w' => e = .returned (.int .u32 (crc l : Nat)) ∧ w = w' := by
  obtain ⟨av, cv, rfl⟩ := h.shape
  go_enter Try.func13, Try.ntmps13
  go_wp2
  go_loop [3, 4] (fun r i => ∃ k R : Nat, k ≤ l.length ∧ R < 4294967296 ∧ i = .int .i64 k ∧ r = .int .u32 (R : Int) ∧ Hid (R = reg ones (l.take k))) (fun _ i => l.length - (intOf i).toNat)
  case atStart => exact ⟨0, 4294967295, Nat.zero_le _, by omega, rfl, rfl, Lib.hid rfl⟩
  case round =>
    obtain ⟨k, R, hk, hR, rfl, rfl, hreg⟩ := hrel
    by_cases hlt : k < l.length
    · obtain ⟨o, x, rfl, hx, hc⟩ := h.at k hlt
      have htk : Hid (take8 R x = reg ones (l.take (k + 1))) := Lib.hid (by rw [List.take_add_one, hx, hreg.out, ← reg_snoc]; rfl)
      have hx8 := x.toNat_lt
      have hT : Hid (take8 R x = sts 8 (R ^^^ x.toNat % 256)) := Lib.hid (by unfold take8; rw [Nat.mod_eq_of_lt hx8])
      have hxc : (0 : Int) ≤ x.toNat ∧ (x.toNat : Int) < 256 := by omega
      generalize hX : x.toNat = X at *
      clear hx hX hreg h
      go_wp2
      go_loop [3, 5, 6] (fun r c i => ∃ m Y Z : Nat, m ≤ 8 ∧ Y < 4294967296 ∧ Z < 256 ∧ i = .int .i64 m ∧ r = .int .u32 (Y : Int) ∧ c = .int .u8 (Z : Int) ∧ Hid (Y = sts m (R ^^^ X % 2 ^ m)) ∧ Hid (Z = X / 2 ^ m)) (fun _ _ i => 8 - (intOf i).toNat)
      case atStart => exact ⟨0, R, X, by omega, hR, by omega, rfl, rfl, rfl, Lib.hid (by simp [sts, Nat.mod_one]), Lib.hid (by simp)⟩
      case round =>
        obtain ⟨m, Y, Z, hm, hY, hZ, rfl, rfl, rfl, hy, hz⟩ := hrel
        by_cases hm8 : m < 8
        · have hb := bit_any w Y (Z % 2) (by omega) hY
          have hy2 : Hid (st (Y ^^^ Z % 2) = sts (m + 1) (R ^^^ X % 2 ^ (m + 1))) := Lib.hid (by rw [take8_bits, hy.out, hz.out])
          have hz2 : Hid (Z / 2 = X / 2 ^ (m + 1)) := Lib.hid (by rw [hz.out, Nat.pow_succ, Nat.div_div_eq_div_mul])
          have hYl : st (Y ^^^ Z % 2) < 4294967296 := st_lt (Nat.xor_lt_two_pow (n := 32) hY (by omega))
          have hcast : ((Z % 2 : Nat) : Int) = (Z : Int) % 2 := by omega
          rw [hcast] at hb
          generalize st (Y ^^^ Z % 2) = Y2 at *
          clear hcast hy hz
          go_wp2_with (go_at_call 26; refine hb.mono ?_; rintro e w' ⟨rfl, rfl⟩)
          go_round
          case rel => exact ⟨m + 1, Y2, Z / 2, by omega, hYl, by omega, by go_num, rfl, by go_num, hy2, hz2⟩
          case measure => simp [intOf]; omega
        · obtain rfl : m = 8 := by omega
          have hT2 : Hid (Y = reg ones (l.take (k + 1))) := Lib.hid (by rw [hy.out, ← htk.out, hT.out])
          clear hy hz hT htk
          go_wp2
          go_round
          case rel => exact ⟨k + 1, Y, by omega, hY, by go_num, rfl, hT2⟩
          case measure => simp [intOf]; omega
    · obtain rfl : k = l.length := by omega
      have hC : Hid ((4294967295 : Int) - R = (crc l : Nat)) := Lib.hid (by
        have := hreg.out
        rw [List.take_of_length_le (Nat.le_refl _)] at this
        unfold crc
        rw [← this, ones_sub R hR]; omega)
      clear hreg h
      go_wp2
      go_ret
      exact ⟨ret_int (by rw [← hC.out]), rfl⟩

/-- the first k bytes of a number, the lowest first -/
def les (C k : Nat) : List UInt8 := (List.range k).map fun i => UInt8.ofNat (C / 256 ^ i % 256)
theorem les_length (C k : Nat) : (les C k).length = k := by simp [les]
theorem les_succ (C k : Nat) : les C (k + 1) = les C k ++ [UInt8.ofNat (C / 256 ^ k % 256)] := by simp [les, List.range_succ]
theorem les_four (C : Nat) : les C 4 = le4 C := by
  show [UInt8.ofNat (C / 1 % 256), UInt8.ofNat (C / 256 % 256), UInt8.ofNat (C / 65536 % 256), UInt8.ofNat (C / 16777216 % 256)] = _
  rw [Nat.div_one]; rfl

set_option maxHeartbeats 400000 in
theorem refSeal_any (w : World) (v : Value) (ob : Nat) (l : List UInt8) (h : Bs w v ob l) (hl : l.length ≤ 1000000) :
    Calls Try.prog 18 #[v] w fun e w' => ∃ v', e = .returned v' ∧ NewB w w' v' (l ++ le4 (crc l)) ∧ Ext [] w w' := by
  have hs := refSum_any w v ob l h hl
  have hC := crc_lt l
  generalize crc l = C at *
  go_enter Try.func18, Try.ntmps18
  go_wp2_with (go_at_call 13; refine hs.mono ?_; rintro e w1 ⟨rfl, rfl⟩)
  clear hs
  go_loopw [3, 4, 5] (fun r v i wr => ∃ k N : Nat, k ≤ 4 ∧ N < 4294967296 ∧ i = .int .i64 k ∧ r = .int .u32 (N : Int) ∧ Hid (N = C / 256 ^ k) ∧ wr.ownsRow w.heap.size 5 1 v k ((les C k).map BV) ∧ Ext [] w wr) (fun _ _ i _ => 4 - (intOf i).toNat)
  case atStart => exact ⟨0, C, by omega, hC, rfl, rfl, Lib.hid (by simp), World.ownsRow_nil _ _ _ _, Ext.refl _ _⟩
  case round =>
    obtain ⟨k, N, hk, hN, rfl, rfl, hn, ho, he⟩ := hrel
    by_cases hlt : k < 4
    · have hn2 : Hid (N / 256 = C / 256 ^ (k + 1)) := Lib.hid (by rw [hn.out, Nat.pow_succ, Nat.div_div_eq_div_mul])
      have hb : Hid ((les C (k + 1)).map BV = (les C k).map BV ++ [.int .u8 ((N : Int) % 256)]) := Lib.hid (by rw [les_succ, List.map_append, ← hn.out]; simp [BV])
      clear hn
      go_wp2_with (at_builtin; refine wpList_append_sl T22 rfl (.tmp 12) (.tmp 16) rfl rfl (ho.alloc _) rfl (Sl.one _ _ _) (by intro u hu; simp at hu; subst hu; rfl) (by unfold maxLen; omega) (by omega) (by have := he.size; simp; omega) ?_; intro v1 w1 ho1 he1)
      have he2 : Ext [] w w1 := (he.alloc _).trans' (show Ext u4.ownBlock.toList _ w1 from he1) (fun i hi => .inr (own_ge ho i hi))
      have ho2 : w1.ownsRow w.heap.size 5 1 v1 (k + 1) ((les C (k + 1)).map BV) := by rw [hb.out]; exact ho1
      clear ho ho1 he1
      go_roundw
      case rel => exact ⟨k + 1, N / 256, by omega, by omega, by go_num, by go_num, hn2, ho2, he2⟩
      case measure => simp [intOf]; omega
    · obtain rfl : k = 4 := by omega
      rw [les_four] at ho
      have hN2 : NewB w wr u4 (le4 C) := ho
      obtain ⟨ob2, hb2, _⟩ := hN2.bs
      have hbh := Behind_any wr v u4 ob ob2 l (le4 C) (h.ext he (by simp)) hb2 (by simp [le4]; omega)
      clear ho hN2 hb2 hn
      go_wp2_with (go_at_call 14; refine hbh.mono ?_; rintro e w2 ⟨v2, rfl, hN2, hE2⟩)
      go_ret
      exact ⟨_, rfl, hN2.mono he.size, he.trans hE2⟩
end Go.Proofs.Ytgibkbbabaenpaa
