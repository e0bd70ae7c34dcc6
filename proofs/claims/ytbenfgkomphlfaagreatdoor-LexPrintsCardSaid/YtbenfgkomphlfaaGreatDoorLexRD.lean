/-
  The reference: digits, Written, Print.
-/
import Derived.Test.YtbenfgkomphlfaaGreatDoorLexRA
import Derived.Test.YtbenfgkomphlfaaGreatDoorLexH
import Derived.Test.YtbenfgkomphlfaaGreatDoorLexQ
namespace Go.Proofs.YtbenfgkomphlfaaGreatDoor
open Go.RowKit
open Go.Lib hiding intOf
set_option linter.unusedVariables false

theorem one_text' (W : World) (z : Int) (c : UInt8) (hz : (c.toNat : Int) = z) : (convert 63 9 (.slice (some ⟨W.heap.size, 0, none⟩) 1 1)).run Tryz.prog (W.alloc (.cells #[.int .u8 z] 5)) = .ok (.string (B [c])) (W.alloc (.cells #[.int .u8 z] 5)) := by
  subst hz
  have e : strOfNums ([c].map fun x => (x.toNat : Int)) = B [c] := by
    unfold strOfNums
    simp
    rfl
  rw [← e]
  refine run_convert_bytes_arg (P := Tryz.prog) _ _ _ Tryz.underlying63 Tryz.underlying5 W.heap.size 0 1 1 _ (by simp) (fun i hi => ?_) _ Tryz.underlying9
  obtain rfl : i = 0 := by omega
  simp [go_sem]
theorem wrap_div (M : Nat) (h : M ≤ 9223372036854775807) : IntKind.u64.wrap ((M : Int) / 10) = ((M / 10 : Nat) : Int) := by
  have e : (M : Int) / 10 = ((M / 10 : Nat) : Int) := by omega
  rw [e]
  have hb : M / 10 < 18446744073709551616 := by omega
  generalize M / 10 = q at *
  simp [IntKind.wrap, IntKind.bits, IntKind.signed]
  omega
theorem dig_nat (m : Nat) : ((UInt8.ofNat (48 + m % 10)).toNat : Int) = 48 + (m : Int) % 10 := by
  rw [UInt8.toNat_ofNat', Nat.mod_eq_of_lt (by omega)]
  omega
def DigI (N k m : Nat) (x : List UInt8) : Prop := m * 10 ^ k ≤ N ∧ ((k = 0 ∧ x = [] ∧ m = N) ∨ (1 ≤ k ∧ (m = 0 → x = decDigits N) ∧ (0 < m → decDigits N = decDigits m ++ x)))
theorem DigI.step {N k m : Nat} {x : List UInt8} (h : DigI N k m x) (hm : 0 < m ∨ k = 0) : DigI N (k + 1) (m / 10) (UInt8.ofNat (48 + m % 10) :: x) := by
  obtain ⟨h1, h2⟩ := h
  refine ⟨?_, .inr ⟨by omega, fun h0 => ?_, fun h0 => ?_⟩⟩
  · rw [Nat.pow_succ, Nat.mul_comm (10 ^ k) 10, ← Nat.mul_assoc]
    exact Nat.le_trans (Nat.mul_le_mul_right _ (Nat.div_mul_le_self m 10)) h1
  · have hm10 : m < 10 := by omega
    have e : UInt8.ofNat (48 + m % 10) = UInt8.ofNat (48 + m) := by rw [Nat.mod_eq_of_lt hm10]
    rw [e]
    rcases h2 with ⟨_, rfl, rfl⟩ | ⟨_, _, h3⟩
    · exact (decDigits_one hm10).symm
    · have : 0 < m := by omega
      rw [h3 this, decDigits_one hm10]
      rfl
  · have hm10 : ¬ m < 10 := by omega
    have e : decDigits m = decDigits (m / 10) ++ [UInt8.ofNat (48 + m % 10)] := by rw [decDigits, dif_neg hm10]
    rcases h2 with ⟨_, rfl, rfl⟩ | ⟨_, _, h3⟩
    · exact e
    · rw [h3 (by omega), e, List.append_assoc]
      rfl
theorem DigI.far {N k m : Nat} {x : List UInt8} (h : DigI N k m x) (hN : N ≤ 9223372036854775807) (hk : 20 ≤ k) : m = 0 := by
  rcases Nat.eq_zero_or_pos m with h0 | h0
  · exact h0
  · have h2 : 10 ^ 20 ≤ 10 ^ k := Nat.pow_le_pow_right (by decide) hk
    have h3 := Nat.le_trans (Nat.le_mul_of_pos_left (10 ^ k) h0) h.1
    omega
set_option maxRecDepth 100000 in
set_option maxHeartbeats 1000000 in
theorem digits_any (w : World) (n : Int) (h0 : 0 ≤ n) (h1 : n ≤ 9223372036854775807) :
    Calls Tryz.prog 42 #[.int .u64 n] w fun e w' => e = .returned (.string (B (decDigits n.toNat))) ∧ Ext [] w w' := by
  obtain ⟨N, rfl⟩ : ∃ N : Nat, n = N := ⟨n.toNat, by omega⟩
  rw [Int.toNat_natCast]
  have hN := Lib.hid (show N ≤ 9223372036854775807 by omega)
  have hI0 : Hid (DigI N 0 N []) := ⟨by simp, .inl ⟨rfl, rfl, rfl⟩⟩
  have hR : Hid (∃ X, decDigits N = X) := ⟨_, rfl⟩
  clear h0 h1
  go_enter Tryz.func42, Tryz.ntmps42
  go_wp2
  go_loopw [0, 3, 4] (fun m s i wr => ∃ (k M : Nat) (x : List UInt8), m = .int .u64 M ∧ s = .string (B x) ∧ i = .int .i64 k ∧ k ≤ 20 ∧ (B x).size = k ∧ Ext [] w wr ∧ Hid (DigI N k M x)) (fun m s i _ => 20 - (intOf i).toNat)
  case atStart => exact ⟨0, N, [], rfl, rfl, rfl, by omega, rfl, Ext.refl _ _, hI0⟩
  case round =>
    obtain ⟨k, M, x, rfl, rfl, rfl, hk, hx, hX, hI⟩ := hrel
    have hMb : Hid (M ≤ 9223372036854775807) := by
      have h1 := hI.out.1
      have h2 : 1 ≤ 10 ^ k := Nat.one_le_pow _ _ (by decide)
      have := Nat.le_mul_of_pos_right M h2
      have := hN.out
      show _ ≤ _
      omega
    by_cases hgo : 0 < M ∨ k = 0
    · have hk20 : k < 20 := by
        rcases Nat.lt_or_ge k 20 with h | h
        · exact h
        · have := hI.out.far hN.out h
          omega
      have hI2 := Lib.hid (hI.out.step hgo)
      have hcv := fun W => one_text' W _ _ (dig_nat M)
      have hz := dig_nat M
      have ha2 : ∀ c : UInt8, B [c] ++ B x = B (c :: x) := fun c => L_inj.1 (by rw [L_append, L_B, L_B, L_B]; rfl)
      have hs2 : ∀ c : UInt8, (B (c :: x)).size = (B x).size + 1 := fun c => rfl
      have hs1 : ∀ c : UInt8, (B [c]).size = 1 := fun c => rfl
      generalize UInt8.ofNat (48 + M % 10) = c at *
      by_cases hM : 0 < M
      · clear hgo hI hz
        go_wp2
        go_roundw
        case rel => exact ⟨k + 1, M / 10, c :: x, by rw [wrap_div M hMb.out], rfl, by go_num, by omega, by rw [hs2, hx], hX.alloc _, hI2⟩
        case measure => simp [intOf]; omega
      · obtain rfl : M = 0 := by omega
        obtain rfl : k = 0 := by omega
        have hcv0 := fun W => one_text' W 48 c (by simpa using hz)
        clear hgo hI hMb hcv hz
        go_wp2
        go_roundw
        case rel => exact ⟨1, 0, c :: x, by rfl, rfl, by rfl, by omega, by rw [hs2, hx], hX.alloc _, hI2⟩
        case measure => simp [intOf]
    · have hM0 : M = 0 := by omega
      have hk0 : k ≠ 0 := by omega
      subst hM0
      have hq : ((k : Int) == 0) = false := by simp; omega
      have hE : Hid (x = decDigits N) := by
        rcases hI.out.2 with ⟨h, _⟩ | ⟨_, h, _⟩
        · exact absurd h hk0
        · exact h rfl
      clear hI hgo hk0
      by_cases h20 : k < 20
      · go_wp2
        go_ret
        exact ⟨by rw [← hE.out]; rfl, hX⟩
      · go_wp2
        go_ret
        exact ⟨by rw [← hE.out]; rfl, hX⟩
theorem Written_any (w : World) (k a n : Int) (s : ByteArray) (hs : s.size ≤ 1000000) (h3 : k = 3 → 0 ≤ n ∧ n ≤ 9223372036854775807) :
    Calls Tryz.prog 25 #[TV k a s n] w fun e w' => e = .returned (.string (B (written k (L s) n))) ∧ Ext [] w w' := by
  have hE := (Ext.refl [] w).alloc (.cells #[.int .i64 k, .int .i64 a, .string s, .int .u64 n] 29)
  by_cases k3 : k = 3
  · subst k3
    have hf := fun W => digits_any W n (h3 rfl).1 (h3 rfl).2
    rw [show written 3 (L s) n = decDigits n.toNat from rfl]
    generalize decDigits n.toNat = x at *
    go_enter Tryz.func25, Tryz.ntmps25
    go_wp2_with (go_at_call 42; (with_reducible refine (hf _).mono ?_); rintro e w1 ⟨rfl, h1⟩)
    go_ret
    exact ⟨rfl, hE.trans h1⟩
  clear h3
  have k3' : (k == 3) = false := by simpa using k3
  by_cases k4 : k = 4
  · subst k4
    rw [show written 4 (L s) n = [39] ++ esc (L s) ++ [39] from rfl]
    have hT := TB.new w 4 a s n
    go_enter Tryz.func25, Tryz.ntmps25
    go_wp2
    obtain ⟨t0, t1, t2, t3⟩ := hT.c4
    go_loopw [3, 4] (fun x i wr => ∃ (k : Nat) (tx : List UInt8), k ≤ s.size ∧ x = .string (B tx) ∧ i = .int .i64 k ∧ (B tx).size ≤ 2 * k + 1 ∧ Ext [] (w.alloc (.cells #[.int .i64 4, .int .i64 a, .string s, .int .u64 n] 29)) wr ∧ Hid (tx = [39] ++ esc ((L s).take k))) (fun x i _ => s.size - (intOf i).toNat)
    case atStart => exact ⟨0, [39], by omega, rfl, rfl, by decide, Ext.refl _ _, rfl⟩
    case round =>
      obtain ⟨k, tx, hk, rfl, rfl, hz, hX, hTx⟩ := hrel
      obtain ⟨d0, d1, d2, d3⟩ := (hT.ext hX (by simp)).c4
      clear t0 t1 t2 t3
      by_cases hlt : k < s.size
      · have hx : (L s)[k]? = some (s[k]'hlt) := List.getElem?_eq_getElem (show k < (L s).length from hlt)
        have b0 := (s[k]'hlt).toNat_lt
        have hsl : s.extract k (k + 1) = B [s[k]'hlt] := L_inj.1 (by
          rw [L_extract, L_B, show k + 1 - k = 1 by omega, List.take_one, List.head?_drop, hx]; rfl)
        have hes : esc ((L s).take (k + 1)) = esc ((L s).take k) ++ (if (s[k]'hlt) = 39 then [39, 39] else [s[k]'hlt]) := by
          unfold esc
          rw [List.take_add_one, hx, List.flatMap_append]
          simp
        by_cases h39 : (s[k]'hlt).toNat = 39
        · have he : (s[k]'hlt) = 39 := UInt8.toNat_inj.1 h39
          have q1 : (((s[k]'hlt).toNat : Int) == 39) = true := by simp; omega
          rw [if_pos he] at hes
          rw [he] at hsl
          have hTx2 : Hid (tx ++ [39, 39] = [39] ++ esc ((L s).take (k + 1))) := by show _ = _; rw [hes, hTx.out, List.append_assoc]
          have ha1 : B tx ++ B [39] = B (tx ++ [39]) := L_inj.1 (by rw [L_append, L_B, L_B, L_B])
          have ha2 : B (tx ++ [39]) ++ ⟨#[39]⟩ = B (tx ++ [39, 39]) := L_inj.1 (by rw [L_append, L_B, L_B]; simp [L])
          have hs1 : (B [39]).size = 1 := rfl
          have hs2 : (B (tx ++ [39])).size = (B tx).size + 1 := by show (tx ++ [39]).length = tx.length + 1; simp
          have hs3 : (B (tx ++ [39, 39])).size = (B tx).size + 2 := by show (tx ++ [39, 39]).length = tx.length + 2; simp
          clear hx hes he h39
          go_wp2
          go_roundw
          case rel => exact ⟨k + 1, _, by omega, rfl, by go_num, by omega, hX, hTx2⟩
          case measure => simp [intOf]; omega
        · have hne : (s[k]'hlt) ≠ 39 := fun e => h39 (by rw [e]; rfl)
          have q1 : (((s[k]'hlt).toNat : Int) == 39) = false := by simp; omega
          rw [if_neg hne] at hes
          have hTx2 : Hid (tx ++ [s[k]'hlt] = [39] ++ esc ((L s).take (k + 1))) := by show _ = _; rw [hes, hTx.out, List.append_assoc]
          have ha1 : B tx ++ B [s[k]'hlt] = B (tx ++ [s[k]'hlt]) := L_inj.1 (by rw [L_append, L_B, L_B, L_B])
          have hs1 : (B [s[k]'hlt]).size = 1 := rfl
          have hs2 : (B (tx ++ [s[k]'hlt])).size = (B tx).size + 1 := by show (tx ++ [s[k]'hlt]).length = tx.length + 1; simp
          clear hx hes hne h39
          go_wp2
          go_roundw
          case rel => exact ⟨k + 1, _, by omega, rfl, by go_num, by omega, hX, hTx2⟩
          case measure => simp [intOf]; omega
      · obtain rfl : k = s.size := by omega
        have hN : Hid (tx = [39] ++ esc (L s)) := by
          show _ = _
          rw [hTx.out, List.take_of_length_le (by rw [← size_L]; omega)]
        clear hTx
        go_wp2
        go_ret
        refine ⟨?_, hE.trans hX⟩
        show Ending.returned (Value.string (B tx ++ ⟨#[39]⟩)) = _
        congr 2
        exact L_inj.1 (by rw [L_append, L_B, L_B, hN.out]; simp [L])
  · have e : written k (L s) n = L s := by unfold written; rw [if_neg k3, if_neg k4]
    have k4' : (k != 4) = true := by simpa using k4
    rw [e, B_L]
    go_enter Tryz.func25, Tryz.ntmps25
    go_wp2
    go_ret
    exact ⟨rfl, hE⟩
theorem join_snoc (x : List UInt8) (r : List (List UInt8)) (y : List UInt8) : join ((x :: r) ++ [y]) [32] = join (x :: r) [32] ++ ([32] ++ y) := by
  rw [List.cons_append, join_cons, join_cons, List.append_assoc]
  congr 1
  simp [joinTail]
theorem print_succ (l : List Tok) (k : Nat) (t : Tok) (h : l[k]? = some t) : printL (l.take (k + 1)) = if k = 0 then t.w else printL (l.take k) ++ ([32] ++ t.w) := by
  unfold printL
  rw [List.take_add_one, h, List.map_append]
  split
  · rename_i h0
    subst h0
    simp [join_one]
  · rename_i h0
    have hk : k ≤ l.length := by have := (List.getElem?_eq_some_iff.1 h).1; omega
    cases he : (l.take k).map Tok.w with
    | nil =>
      have := congrArg List.length he
      simp at this
      rcases this with h1 | h1
      · omega
      · subst h1; simp at h
    | cons x r => exact join_snoc x r t.w
set_option maxRecDepth 100000 in
set_option maxHeartbeats 2000000 in
theorem rPrint_any (w : World) (v : Value) (ob : Nat) (l : List Tok) (hl : Ts w v ob l) (hn : l.length ≤ 1000) (hb : ∀ t ∈ l, t.s.size ≤ 1000 ∧ 0 ≤ t.n ∧ t.right = true) :
    Calls Tryz.prog 12 #[v] w fun e w' => e = .returned (.string (B (printL l))) ∧ Ext [] w w' := by
  obtain ⟨a, cap, rfl⟩ := hl.shape
  go_enter Tryz.func12, Tryz.ntmps12
  go_wp2
  go_loopw [3, 4] (fun x i wr => ∃ (k : Nat) (tx : List UInt8), k ≤ l.length ∧ x = .string (B tx) ∧ i = .int .i64 k ∧ (B tx).size ≤ 2100 * k ∧ Ext [] w wr ∧ Hid (tx = printL (l.take k))) (fun x i _ => l.length - (intOf i).toNat)
  case atStart => exact ⟨0, [], by omega, rfl, rfl, by decide, Ext.refl _ _, by simp [Hid, printL, join_nil]⟩
  case round =>
    obtain ⟨k, tx, hk, rfl, rfl, hz, hX, hTx⟩ := hrel
    by_cases hlt : k < l.length
    · obtain ⟨o, K, P, S, U, rfl, hx, c0, c1, c2, c3⟩ := (hl.ext hX (by simp)).at k hlt
      obtain ⟨hS, h0U, hr⟩ := hb _ (List.mem_of_getElem? hx)
      dsimp only at hS h0U
      have hn3 : K = 3 → 0 ≤ U ∧ U ≤ 9223372036854775807 := by
        rintro rfl
        refine ⟨h0U, ?_⟩
        unfold Tok.right isTok at hr
        rw [if_pos rfl] at hr
        simp at hr
        exact hr.2.2
      have wrt := fun W => Written_any W K P U S (by omega) hn3
      have hw := w_len ⟨K, P, S, U⟩ hr h0U
      have hps := print_succ l k _ hx
      dsimp only at hw
      have hw2 : (B (Tok.mk K P S U).w).size ≤ 2022 := by show (Tok.mk K P S U).w.length ≤ _; omega
      rw [show written K (L S) U = (Tok.mk K P S U).w from rfl] at wrt
      generalize (Tok.mk K P S U).w = y at *
      clear hb hx hr hn3 hw
      by_cases hk0 : k = 0
      · have q0 : decide (0 < k) = false := by simp; omega
        rw [if_pos hk0] at hps
        have htx : tx = [] := by rw [hTx.out, hk0]; simp [printL, join_nil]
        subst htx
        have ha : B [] ++ B y = B y := L_inj.1 (by rw [L_append, L_B, L_B]; rfl)
        have hP : Hid (y = printL (l.take (k + 1))) := hps.symm
        clear hps hTx hk0
        go_wp2_with (go_at_call 25; (with_reducible refine (wrt _).mono ?_); rintro e w1 ⟨rfl, x1⟩)
        go_roundw
        case rel => exact ⟨k + 1, y, by omega, rfl, by go_num, by omega, hX.trans x1, hP⟩
        case measure => simp [intOf]; omega
      · have q0 : decide (0 < k) = true := by simp; omega
        rw [if_neg hk0, ← hTx.out] at hps
        have ha1 : B tx ++ ⟨#[32]⟩ = B (tx ++ [32]) := L_inj.1 (by rw [L_append, L_B, L_B]; rfl)
        have ha2 : B (tx ++ [32]) ++ B y = B (tx ++ ([32] ++ y)) := L_inj.1 (by rw [L_append, L_B, L_B, L_B, List.append_assoc])
        have hs1 : (B (tx ++ [32])).size = (B tx).size + 1 := by show (tx ++ [32]).length = tx.length + 1; simp
        have hs2 : (B (tx ++ ([32] ++ y))).size = (B tx).size + 1 + (B y).size := by show (tx ++ ([32] ++ y)).length = tx.length + 1 + y.length; simp; omega
        have hP : Hid (tx ++ ([32] ++ y) = printL (l.take (k + 1))) := hps.symm
        clear hps hTx hk0
        go_wp2_with (go_at_call 25; (with_reducible refine (wrt _).mono ?_); rintro e w1 ⟨rfl, x1⟩)
        go_roundw
        case rel => exact ⟨k + 1, tx ++ ([32] ++ y), by omega, rfl, by go_num, by show (tx ++ ([32] ++ y)).length ≤ _; have e1 : (B tx).size = tx.length := rfl; have e2 : (B y).size = y.length := rfl; simp; omega, hX.trans x1, hP⟩
        case measure => simp [intOf]; omega
    · obtain rfl : k = l.length := by omega
      rw [List.take_length] at hTx
      have hN := Lib.hid hTx.out
      clear hTx hb
      go_wp2
      go_ret
      exact ⟨by rw [← hN.out]; rfl, hX⟩
end Go.Proofs.YtbenfgkomphlfaaGreatDoor
