import Derived.Test.YtcahdillpdekmaaOctC
namespace Go.Proofs.Ytcahdillpdekmaa
open Go.RowKit
set_option linter.unusedVariables false

/-! ## the document's answer -/

set_option maxHeartbeats 400000 in
theorem Behind_any (w : World) (va vb : Value) (oa ob : Nat) (la lb : List UInt8) (ha : Bs w va oa la) (hb : Bs w vb ob lb) (hl : la.length + lb.length ≤ 70000000000000) :
    Calls Try.prog 10 #[va, vb] w fun e w' => ∃ v, e = .returned v ∧ NewB w w' v (la ++ lb) ∧ Ext [] w w' := by
  have hA : ∀ o, Bs (w.alloc o) va oa la := fun o => ha.ext ((Ext.refl [] w).alloc o) (by simp)
  obtain ⟨av, cv, rfl⟩ := ha.shape
  go_enter Try.func10, Try.ntmps10
  go_wp2_with (first
    | (at_builtin; refine wpList_append_sl T22 rfl (.tmp 5) (.tmp 6) rfl rfl (World.ownsRow_lit (base := w.heap.size) _ _ 0 (Nat.le_refl _) (by decide) rfl) rfl (ob := oa) (m := la.length) (news := la.map BV) (hA _) (BV_one la) (by unfold maxLen; omega) (by omega) (by simp) ?_; intro v1 w1 ho he0; have he : Ext [] w w1 := ((Ext.refl [] w).alloc (Obj.cells #[] 5)).trans' (show Ext [w.heap.size] _ w1 from he0) (by simp); clear he0; have hB1 := hb.ext he (by simp))
    | (at_builtin; refine wpList_append_sl T22 rfl (.tmp 7) (.tmp 8) rfl rfl ho rfl (ob := ob) (m := lb.length) (news := lb.map BV) hB1 (BV_one lb) (by unfold maxLen; omega) (by omega) he.size ?_; intro v2 w2 ho2 he2; have he3 : Ext v1.ownBlock.toList w1 w2 := he2; clear he2))
  go_ret
  exact ⟨_, rfl, by simpa [NewB] using ho2, he.trans' he3 (fun i hi => .inr (ho.lt i (by simpa using hi)).1)⟩

/-- nothing behind -/
theorem Same_len (w : World) (va vb : Value) (oa ob : Nat) (la lb : List UInt8) (ha : Bs w va oa la) (hb : Bs w vb ob lb) (hne : la.length ≠ lb.length) :
    Calls Try.prog 14 #[va, vb] w fun e w' => e = .returned (.bool false) ∧ ∃ n, w' = w.drewN n := by
  have h1 : ((la.length : Int) != lb.length) = true := by simpa using (show ¬ (la.length : Int) = lb.length by omega)
  have h2 : (la.length != lb.length) = true := by simpa using hne
  obtain ⟨av, cv, rfl⟩ := ha.shape
  obtain ⟨av', cv', rfl⟩ := hb.shape
  clear ha hb hne
  go_enter Try.func14, Try.ntmps14
  go_wp2
  go_ret
  exact ⟨rfl, 0, rfl⟩

set_option maxHeartbeats 1000000 in
theorem Same_same (w : World) (va vb : Value) (oa ob : Nat) (la lb : List UInt8) (ha : Bs w va oa la) (hb : Bs w vb ob lb) (hne : la.length = lb.length) (hs : la.length ≤ 70000000000000) :
    Calls Try.prog 14 #[va, vb] w fun e w' => e = .returned (.bool (la == lb)) ∧ ∃ n, w' = w.drewN n := by
  obtain ⟨av, cv, rfl⟩ := ha.shape
  obtain ⟨av', cv', rfl⟩ := hb.shape
  have hbl : ∀ k, k < la.length → k < lb.length := fun k hk => by omega
  rw [← hne] at hb ⊢
  have hneH := Lib.hid hne
  clear hne
  go_enter Try.func14, Try.ntmps14
  go_wp2
  go_loopw [5] (fun i wr => ∃ k : Nat, k ≤ la.length ∧ i = .int .i64 k ∧ Hid (la.take k = lb.take k) ∧ ∃ n, wr = w.drewN n) (fun i _ => la.length - (intOf i).toNat)
  case atStart => exact ⟨0, by omega, rfl, by simp [Hid], 0, rfl⟩
  case round =>
    obtain ⟨k, hk, rfl, hkk, n, rfl⟩ := hrel
    by_cases hlt : k < la.length
    · obtain ⟨a1, x, rfl, hx, c1⟩ := ha.at k hlt
      obtain ⟨a2, y, rfl, hy, c2⟩ := hb.at k (hbl k hlt)
      have hX := Lib.hid hx; have hY := Lib.hid hy; clear hx hy hbl
      by_cases hxy : x = y
      · have e : ((x.toNat : Int) != y.toNat) = false := by simp [hxy]
        have hs : Hid (la.take (k + 1) = lb.take (k + 1)) := by
          show la.take (k + 1) = lb.take (k + 1)
          rw [List.take_add_one, List.take_add_one, hkk.out, hX.out, hY.out, hxy]
        have hxy' := Lib.hid hxy; clear hxy
        go_wp2
        go_quiet (fail)
        go_wp2
        go_roundw
        case rel => exact ⟨k + 1, by omega, by go_num, hs, _, rfl⟩
        case measure => simp [intOf]; omega
      · have e : ((x.toNat : Int) != y.toNat) = true := by
          simp only [bne_iff_ne, ne_eq, Int.natCast_inj]; exact fun h => hxy (UInt8.toNat_inj.1 h)
        have hf : (la == lb) = false := by
          rw [beq_eq_false_iff_ne]; rintro rfl; rw [hX.out] at hY; exact hxy (Option.some.inj hY.out)
        clear hxy
        go_wp2
        go_quiet (fail)
        go_wp2
        go_ret
        exact ⟨ret_bool hf.symm, _, drewN_drewN _ _ _⟩
    · have ht : (la == lb) = true := by
        obtain rfl : k = la.length := by omega
        have := hkk.out
        rw [List.take_of_length_le (Nat.le_refl _), hneH.out, List.take_of_length_le (Nat.le_refl _)] at this
        rw [this]; simp
      go_wp2
      go_ret
      exact ⟨ret_bool ht.symm, _, rfl⟩

theorem Same_any (w : World) (va vb : Value) (oa ob : Nat) (la lb : List UInt8) (ha : Bs w va oa la) (hb : Bs w vb ob lb) (hs : la.length ≤ 70000000000000) :
    Calls Try.prog 14 #[va, vb] w fun e w' => e = .returned (.bool (la == lb)) ∧ ∃ n, w' = w.drewN n := by
  by_cases h : la.length = lb.length
  · exact Same_same w va vb oa ob la lb ha hb h hs
  · have : (la == lb) = false := by rw [beq_eq_false_iff_ne]; rintro rfl; exact h rfl
    rw [this]; exact Same_len w va vb oa ob la lb ha hb h

/-- in 64 bits -/
def m64 (n : Int) : Int := n % 18446744073709551616
theorem wrap_m64 (n : Int) : IntKind.u64.wrap n = m64 n := wrap_u64_mod n
theorem m64_add (a b : Int) : m64 (m64 a + m64 b) = m64 (a + b) := by unfold m64; omega
theorem m64_mul (a b : Int) : m64 (m64 a * b) = m64 (a * b) := by unfold m64; simp [Int.mul_emod]
theorem m64_bd (a : Int) : 0 ≤ m64 a ∧ m64 a ≤ 18446744073709551615 := by unfold m64; omega

/-- the first k bytes' share of what l weighs -/
def part (l : List UInt8) (k : Nat) : Int := (weigh l : Int) - weigh (l.drop k)
theorem part_succ (l : List UInt8) (k : Nat) (x : UInt8) (hx : l[k]? = some x) : part l (k + 1) = part l k + x.toNat * 256 ^ (l.length - (k + 1)) := by
  obtain ⟨hk, rfl⟩ := List.getElem?_eq_some_iff.1 hx
  unfold part
  rw [List.drop_eq_getElem_cons hk, weigh]
  simp only [List.length_drop]
  have hc : (((l[k].toNat * 256 ^ (l.length - (k + 1)) + weigh (l.drop (k + 1))) : Nat) : Int) = (l[k].toNat : Int) * 256 ^ (l.length - (k + 1)) + weigh (l.drop (k + 1)) := by
    rw [Int.natCast_add, Int.natCast_mul, Int.natCast_pow]; rfl
  rw [hc]
  omega

set_option maxHeartbeats 1000000 in
theorem Weighs_any (w : World) (v : Value) (ob : Nat) (l : List UInt8) (h : Bs w v ob l) (hs : l.length ≤ 70000000000000) :
    Calls Try.prog 25 #[v] w fun e w' => e = .returned (.int .u64 (m64 (weigh l))) ∧ w = w' := by
  obtain ⟨av, cv, rfl⟩ := h.shape
  go_enter Try.func25, Try.ntmps25
  go_wp2
  go_loop [3, 4] (fun x i => ∃ k : Nat, ∃ y : Int, k ≤ l.length ∧ i = .int .i64 k ∧ x = .int .u64 y ∧ Hid (y = m64 (part l k)) ∧ 0 ≤ y ∧ y ≤ 18446744073709551615) (fun _ i => l.length - (intOf i).toNat)
  case atStart => exact ⟨0, 0, by omega, rfl, rfl, by simp [Hid, part, m64], by omega, by omega⟩
  case round =>
    obtain ⟨k, y, hk, rfl, rfl, hy, hy0, hy1⟩ := hrel
    by_cases hlt : k < l.length
    · obtain ⟨a1, x, rfl, hx, c1⟩ := h.at k hlt
      have hX := Lib.hid hx
      have hx0 : (x.toNat : Int) < 256 := by have := x.toNat_lt; omega
      generalize hxn : x.toNat = xn at c1 hx0
      have hXN := Lib.hid hxn
      clear hx h hxn
      go_wp2
      go_loop [5, 6] (fun z j => ∃ m : Nat, ∃ q : Int, m ≤ l.length ∧ k < m ∧ j = .int .i64 m ∧ z = .int .u64 q ∧ Hid (q = m64 ((xn : Int) * 256 ^ (m - (k + 1)))) ∧ 0 ≤ q ∧ q ≤ 18446744073709551615) (fun _ j => l.length - (intOf j).toNat)
      case atStart => exact ⟨k + 1, _, by omega, by omega, by go_num, rfl, by show (xn : Int) = _; simp only [Nat.sub_self, m64]; omega, by omega, by omega⟩
      case round =>
        obtain ⟨m, q, hm, hkm, rfl, rfl, hq, hq0, hq1⟩ := hrel
        by_cases hlm : m < l.length
        · have hq2 : Hid (IntKind.u64.wrap (q * 256) = m64 ((xn : Int) * 256 ^ (m + 1 - (k + 1)))) := by
            show _ = _
            rw [wrap_m64, hq.out, m64_mul, Int.mul_assoc, ← Int.pow_succ]
            congr 3; omega
          have hb := m64_bd ((xn : Int) * 256 ^ (m + 1 - (k + 1)))
          have hb0 : Hid (0 ≤ IntKind.u64.wrap (q * 256) ∧ IntKind.u64.wrap (q * 256) ≤ 18446744073709551615) := by show _ ∧ _; rw [hq2.out]; exact hb
          clear hb
          generalize hQ : IntKind.u64.wrap (q * 256) = Q at hq2 hb0
          have HQ := Lib.hid hQ
          clear hQ
          go_wp2
          go_round
          case rel => exact ⟨m + 1, Q, by omega, by omega, by go_num, by rw [HQ.out], hq2, hb0.out.1, hb0.out.2⟩
          case measure => simp [intOf]; omega
        · obtain rfl : m = l.length := by omega
          have hy2 : Hid (IntKind.u64.wrap (y + q) = m64 (part l (k + 1))) := by
            show _ = _
            rw [wrap_m64, hy.out, hq.out, m64_add, part_succ l k x hX.out, hXN.out]
          have hb := m64_bd (part l (k + 1))
          have hb0 : Hid (0 ≤ IntKind.u64.wrap (y + q) ∧ IntKind.u64.wrap (y + q) ≤ 18446744073709551615) := by show _ ∧ _; rw [hy2.out]; exact hb
          clear hb
          generalize hQ : IntKind.u64.wrap (y + q) = Y at hy2 hb0
          have HQ := Lib.hid hQ
          clear hQ
          go_wp2
          go_round
          case rel => exact ⟨k + 1, Y, by omega, by go_num, by rw [HQ.out], hy2, hb0.out.1, hb0.out.2⟩
          case measure => simp [intOf]; omega
    · obtain rfl : k = l.length := by omega
      have he : y = m64 (weigh l) := by rw [hy.out]; simp [part, weigh]
      go_wp2
      go_ret
      exact ⟨ret_int (by first | rfl | exact he), rfl⟩

theorem be_take_succ (n x k : Nat) (hk : k < n) : (be n x).take (k + 1) = (be n x).take k ++ [UInt8.ofNat (x / 256 ^ (n - 1 - k) % 256)] := by
  rw [List.take_add_one]
  congr 1
  simp [be, hk]
theorem BV_be (x o : Nat) : BV (UInt8.ofNat (x / o % 256)) = .int .u8 ((x : Int) / o % 256) := by
  unfold BV; congr 1
  simp

set_option maxHeartbeats 1000000 in
theorem Bytes_any (w : World) (x n : Nat) (hx : (x : Int) ≤ 18446744073709551615) (hn : n ≤ 8) :
    Calls Try.prog 15 #[.int .u64 (x : Int), .int .i64 (n : Int)] w fun e w' => ∃ v, e = .returned v ∧ NewB w w' v (be n x) ∧ Ext [] w w' := by
  have hxx : 0 ≤ (x : Int) := by omega
  go_enter Try.func15, Try.ntmps15
  go_wp2
  go_loopw [5, 6] (fun v i wr => ∃ k : Nat, k ≤ n ∧ i = .int .i64 k ∧ wr.ownsRow w.heap.size 5 1 v k (((be n x).take k).map BV) ∧ Ext [] w wr) (fun _ i _ => n - (intOf i).toNat)
  case atStart => exact ⟨0, by omega, rfl, World.ownsRow_nil _ _ _ _, Ext.refl _ _⟩
  case round =>
    obtain ⟨k, hk, rfl, ho, he⟩ := hrel
    by_cases hlt : k < n
    · go_wp2
      obtain ⟨wo, rfl⟩ : ∃ wo : World, wo = wr := ⟨_, rfl⟩
      go_loop [7, 8] (fun z j => ∃ m : Nat, ∃ q : Int, m ≤ n ∧ k < m ∧ j = .int .i64 m ∧ z = .int .u64 q ∧ Hid (q = 256 ^ (m - (k + 1))) ∧ 1 ≤ q ∧ q ≤ 72057594037927936) (fun _ j => n - (intOf j).toNat)
      case atStart => exact ⟨k + 1, _, by omega, by omega, by go_num, rfl, by show (1 : Int) = _; simp, by omega, by omega⟩
      case round =>
        obtain ⟨m, q, hm, hkm, rfl, rfl, hq, hq0, hq1⟩ := hrel
        by_cases hlm : m < n
        · have hq2 : Hid (q * 256 = 256 ^ (m + 1 - (k + 1))) := by
            show _ = _
            rw [hq.out, ← Int.pow_succ]; congr 1; omega
          have hle : (256 : Int) ^ (m + 1 - (k + 1)) ≤ 256 ^ 7 := by
            have := Nat.pow_le_pow_right (n := 256) (by decide) (show m + 1 - (k + 1) ≤ 7 by omega)
            have h2 := Int.ofNat_le.2 this
            rw [Int.natCast_pow, Int.natCast_pow] at h2; exact h2
          have hb : q * 256 ≤ 72057594037927936 := by rw [hq2.out]; exact hle
          clear hle
          go_wp2
          go_round
          case rel => exact ⟨m + 1, q * 256, by omega, by omega, by go_num, rfl, hq2, by omega, hb⟩
          case measure => simp [intOf]; omega
        · obtain rfl : m = n := by omega
          have hd0 : 0 ≤ (x : Int) / q := Int.ediv_nonneg hxx (by omega)
          have hd1 : (x : Int) / q ≤ 18446744073709551615 := Int.le_trans (Int.ediv_le_self _ hxx) hx
          have hH := Lib.hid hk; clear hk
          go_wp2_with (at_builtin; refine wpList_append_sl T22 rfl (.tmp 23) (.tmp 29) rfl rfl (ho.alloc _) rfl (Sl.one _ _ _) (by intro u hu; simp at hu; subst hu; rfl) (by unfold maxLen; omega) (by omega) (by have := he.size; simp; omega) ?_; intro v1 w1 ho1 he1)
          have he2 : Ext [] w w1 := (he.alloc _).trans' (show Ext u5.ownBlock.toList _ w1 from he1) (fun i hi => .inr (own_ge ho i hi))
          have ho2 : w1.ownsRow w.heap.size 5 1 v1 (k + 1) (((be m x).take (k + 1)).map BV) := by
            rw [be_take_succ m x k hlt, List.map_append, List.map_singleton, BV_be]
            have : (256 : Int) ^ (m - 1 - k) = q := by rw [hq.out]; congr 1; omega
            rw [Int.natCast_pow]; rw [show ((256 : Nat) : Int) = 256 from rfl, this]; exact ho1
          clear ho ho1 he1
          go_roundw
          case rel => exact ⟨k + 1, by omega, by go_num, ho2, he2⟩
          case measure => simp [intOf]; omega
    · obtain rfl : k = n := by omega
      rw [List.take_of_length_le (by simp [be_length])] at ho
      go_wp2
      go_ret
      exact ⟨_, rfl, by simpa [NewB, be_length] using ho, he⟩
end Go.Proofs.Ytcahdillpdekmaa
