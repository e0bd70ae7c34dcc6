
import Derived.Test.YtgibkbbabaenpaaOctC
namespace Go.Proofs.Ytgibkbbabaenpaa
open Go.RowKit
set_option linter.unusedVariables false

/-! ## the document's answer -/

set_option maxHeartbeats 400000 in
theorem Behind_any (w : World) (va vb : Value) (oa ob : Nat) (la lb : List UInt8) (ha : Bs w va oa la) (hb : Bs w vb ob lb) (hl : la.length + lb.length ≤ 70000000000000) :
    Calls Try.prog 14 #[va, vb] w fun e w' => ∃ v, e = .returned v ∧ NewB w w' v (la ++ lb) ∧ Ext [] w w' := by
  have hA : ∀ o, Bs (w.alloc o) va oa la := fun o => ha.ext ((Ext.refl [] w).alloc o) (by simp)
  obtain ⟨av, cv, rfl⟩ := ha.shape
  go_enter Try.func14, Try.ntmps14
  go_wp2_with (first
    | (at_builtin; refine wpList_append_sl T22 rfl (.tmp 5) (.tmp 6) rfl rfl (World.ownsRow_lit (base := w.heap.size) _ _ 0 (Nat.le_refl _) (by decide) rfl) rfl (ob := oa) (m := la.length) (news := la.map BV) (hA _) (BV_one la) (by unfold maxLen; omega) (by omega) (by simp) ?_; intro v1 w1 ho he0; have he : Ext [] w w1 := ((Ext.refl [] w).alloc (Obj.cells #[] 5)).trans' (show Ext [w.heap.size] _ w1 from he0) (by simp); clear he0; have hB1 := hb.ext he (by simp))
    | (at_builtin; refine wpList_append_sl T22 rfl (.tmp 7) (.tmp 8) rfl rfl ho rfl (ob := ob) (m := lb.length) (news := lb.map BV) hB1 (BV_one lb) (by unfold maxLen; omega) (by omega) he.size ?_; intro v2 w2 ho2 he2; have he3 : Ext v1.ownBlock.toList w1 w2 := he2; clear he2))
  go_ret
  exact ⟨_, rfl, by simpa [NewB] using ho2, he.trans' he3 (fun i hi => .inr (ho.lt i (by simpa using hi)).1)⟩

/-- nothing behind -/
theorem Same_len (w : World) (va vb : Value) (oa ob : Nat) (la lb : List UInt8) (ha : Bs w va oa la) (hb : Bs w vb ob lb) (hne : la.length ≠ lb.length) :
    Calls Try.prog 17 #[va, vb] w fun e w' => e = .returned (.bool false) ∧ ∃ n, w' = w.drewN n := by
  have h1 : ((la.length : Int) != lb.length) = true := by simpa using (show ¬ (la.length : Int) = lb.length by omega)
  have h2 : (la.length != lb.length) = true := by simpa using hne
  obtain ⟨av, cv, rfl⟩ := ha.shape
  obtain ⟨av', cv', rfl⟩ := hb.shape
  clear ha hb hne
  go_enter Try.func17, Try.ntmps17
  go_wp2
  go_ret
  exact ⟨rfl, 0, rfl⟩

set_option maxHeartbeats 1000000 in
theorem Same_same (w : World) (va vb : Value) (oa ob : Nat) (la lb : List UInt8) (ha : Bs w va oa la) (hb : Bs w vb ob lb) (hne : la.length = lb.length) (hs : la.length ≤ 70000000000000) :
    Calls Try.prog 17 #[va, vb] w fun e w' => e = .returned (.bool (la == lb)) ∧ ∃ n, w' = w.drewN n := by
  obtain ⟨av, cv, rfl⟩ := ha.shape
  obtain ⟨av', cv', rfl⟩ := hb.shape
  have hbl : ∀ k, k < la.length → k < lb.length := fun k hk => by omega
  rw [← hne] at hb ⊢
  have hneH := Lib.hid hne
  clear hne
  go_enter Try.func17, Try.ntmps17
  go_wp2
  go_loopw [5] (fun i wr => ∃ k : Nat, k ≤ la.length ∧ i = .int .i64 k ∧ Hid (la.take k = lb.take k) ∧ ∃ n, wr = w.drewN n) (fun i _ => la.length - (intOf i).toNat)
  case atStart => exact ⟨0, by omega, rfl, by simp [Hid], 0, rfl⟩
  case round =>
    obtain ⟨k, hk, rfl, hkk, n, rfl⟩ := hrel
    by_cases hlt : k < la.length
    · obtain ⟨a1, x, rfl, hx, c1⟩ := ha.at k hlt
      obtain ⟨a2, y, rfl, hy, c2⟩ := hb.at k (hbl k hlt)
      have hX := Lib.hid hx; have hY := Lib.hid hy; clear hx hy hbl
      by_cases hxy : x = y
      · have e : ((x.toNat : Int) != y.toNat) = false := by simp [hxy]
        have hs : Hid (la.take (k + 1) = lb.take (k + 1)) := by
          show la.take (k + 1) = lb.take (k + 1)
          rw [List.take_add_one, List.take_add_one, hkk.out, hX.out, hY.out, hxy]
        have hxy' := Lib.hid hxy; clear hxy
        go_wp2
        go_quiet (fail)
        go_wp2
        go_roundw
        case rel => exact ⟨k + 1, by omega, by go_num, hs, _, rfl⟩
        case measure => simp [intOf]; omega
      · have e : ((x.toNat : Int) != y.toNat) = true := by
          simp only [bne_iff_ne, ne_eq, Int.natCast_inj]; exact fun h => hxy (UInt8.toNat_inj.1 h)
        have hf : (la == lb) = false := by
          rw [beq_eq_false_iff_ne]; rintro rfl; rw [hX.out] at hY; exact hxy (Option.some.inj hY.out)
        clear hxy
        go_wp2
        go_quiet (fail)
        go_wp2
        go_ret
        exact ⟨ret_bool hf.symm, _, drewN_drewN _ _ _⟩
    · have ht : (la == lb) = true := by
        obtain rfl : k = la.length := by omega
        have := hkk.out
        rw [List.take_of_length_le (Nat.le_refl _), hneH.out, List.take_of_length_le (Nat.le_refl _)] at this
        rw [this]; simp
      go_wp2
      go_ret
      exact ⟨ret_bool ht.symm, _, rfl⟩

theorem Same_any (w : World) (va vb : Value) (oa ob : Nat) (la lb : List UInt8) (ha : Bs w va oa la) (hb : Bs w vb ob lb) (hs : la.length ≤ 70000000000000) :
    Calls Try.prog 17 #[va, vb] w fun e w' => e = .returned (.bool (la == lb)) ∧ ∃ n, w' = w.drewN n := by
  by_cases h : la.length = lb.length
  · exact Same_same w va vb oa ob la lb ha hb h hs
  · have : (la == lb) = false := by rw [beq_eq_false_iff_ne]; rintro rfl; exact h rfl
    rw [this]; exact Same_len w va vb oa ob la lb ha hb h

/-- in 64 bits -/
def m64 (n : Int) : Int := n % 18446744073709551616
theorem wrap_m64 (n : Int) : IntKind.u64.wrap n = m64 n := wrap_u64_mod n
theorem m64_add (a b : Int) : m64 (m64 a + m64 b) = m64 (a + b) := by unfold m64; omega
theorem m64_mul (a b : Int) : m64 (m64 a * b) = m64 (a * b) := by unfold m64; simp [Int.mul_emod]
theorem m64_bd (a : Int) : 0 ≤ m64 a ∧ m64 a ≤ 18446744073709551615 := by unfold m64; omega

/-- the first k bytes' share of what l weighs -/
def part (l : List UInt8) (k : Nat) : Int := (weigh l : Int) - weigh (l.drop k)
theorem part_succ (l : List UInt8) (k : Nat) (x : UInt8) (hx : l[k]? = some x) : part l (k + 1) = part l k + x.toNat * 256 ^ (l.length - (k + 1)) := by
  obtain ⟨hk, rfl⟩ := List.getElem?_eq_some_iff.1 hx
  unfold part
  rw [List.drop_eq_getElem_cons hk, weigh]
  simp only [List.length_drop]
  have hc : (((l[k].toNat * 256 ^ (l.length - (k + 1)) + weigh (l.drop (k + 1))) : Nat) : Int) = (l[k].toNat : Int) * 256 ^ (l.length - (k + 1)) + weigh (l.drop (k + 1)) := by
    rw [Int.natCast_add, Int.natCast_mul, Int.natCast_pow]; rfl
  rw [hc]
  omega

theorem be_take_succ (n x k : Nat) (hk : k < n) : (be n x).take (k + 1) = (be n x).take k ++ [UInt8.ofNat (x / 256 ^ (n - 1 - k) % 256)] := by
  rw [List.take_add_one]
  congr 1
  simp [be, hk]
theorem BV_be (x o : Nat) : BV (UInt8.ofNat (x / o % 256)) = .int .u8 ((x : Int) / o % 256) := by
  unfold BV; congr 1
  simp

end Go.Proofs.Ytgibkbbabaenpaa
