/-
  PROVED: bowspritlaw01.OctetAhead: for every number the call returns true: 256 times it stands one byte further ahead; of it and the next one the bytes are the same up to one place. No condition.
-/
import Derived.Test.YtcahdillpdekmaaOctG
import Derived.OpenShut
import Derived.ChangeOld
import Derived.Test.YtcahdillpdekmaaEqual
import Derived.Shelf.Bytes.SlCountOne
namespace Go.Proofs.Ytcahdillpdekmaa
open Go.RowKit
set_option linter.unusedVariables false

/-! ## bytes.Count -/
theorem Count_255 (w : World) (g cap n : Nat) (h : Bs w (.slice (some ⟨g, 0, none⟩) 8 cap) g (List.replicate 8 255)) (hs : w.cell? ⟨n, 0, none⟩ = some (.int .u8 255)) :
    Calls Try.prog 29 #[.slice (some ⟨g, 0, none⟩) 8 cap, .slice (some ⟨n, 0, none⟩) 1 1] w fun e w' => e = .returned (.int .i64 8) ∧ w = w' := by
  have hcf : (callFunc 41 #[.slice (some ⟨g, 0, none⟩) 8 cap, .int .u8 255]).run Try.prog w = .ok (.value (.int .i64 8)) w := by
    rw [run_callFunc_extern Try.func41 (by kernel_rfl) (by kernel_rfl) (by kernel_rfl) (e := Extern.BytealgCount.count) (by kernel_rfl),
      Lib.run_countSlice w g 0 8 cap (List.replicate 8 255) (by simp) (fun i hi => by
        obtain ⟨o, x, e1, e2, e3⟩ := h.at i (by simpa using hi)
        simp only [Option.some.injEq, Addr.mk.injEq, true_and, and_true] at e1
        subst e1
        rw [e3]
        have h8 : i = 0 ∨ i = 1 ∨ i = 2 ∨ i = 3 ∨ i = 4 ∨ i = 5 ∨ i = 6 ∨ i = 7 := by omega
        rcases h8 with rfl | rfl | rfl | rfl | rfl | rfl | rfl | rfl <;> (simp at e2; subst e2; rfl)) 255]
    rfl
  clear h
  go_enter Try.func29, Try.ntmps29
  go_wp2
  go_ret
  exact ⟨rfl, rfl⟩

/-! ## numbers and their bytes -/
theorem be_at (n x j : Nat) (hj : j < n) : (be n x)[j]? = some (UInt8.ofNat (x / 256 ^ (n - 1 - j) % 256)) := by
  simp [be, hj]
theorem be_take_eq (x y k : Nat) (hk : k ≤ 8) (h : x / 256 ^ (8 - k) = y / 256 ^ (8 - k)) : (be 8 x).take k = (be 8 y).take k := by
  refine List.ext_getElem? fun j => ?_
  rw [List.getElem?_take, List.getElem?_take]
  split
  · rename_i hj
    rw [be_at 8 x j (by omega), be_at 8 y j (by omega)]
    have e : 256 ^ (8 - 1 - j) = 256 ^ (8 - k) * 256 ^ (k - 1 - j) := by rw [← Nat.pow_add]; congr 1; omega
    rw [e, ← Nat.div_div_eq_div_mul, ← Nat.div_div_eq_div_mul, h]
  · rfl
theorem be_far (x : Nat) : (be 8 (256 * x)).take 7 = (be 8 x).drop 1 := by
  refine List.ext_getElem? fun j => ?_
  rw [List.getElem?_take, List.getElem?_drop]
  split
  · rename_i hj
    rw [be_at 8 _ j (by omega), be_at 8 x (1 + j) (by omega)]
    have e : 256 ^ (8 - 1 - j) = 256 * 256 ^ (8 - 1 - (1 + j)) := by rw [Nat.mul_comm, ← Nat.pow_succ]; congr 1; omega
    rw [e, Nat.mul_div_mul_left _ _ (by decide)]
  · rename_i hj
    rw [List.getElem?_eq_none (by rw [be_length]; omega)]
theorem be_max : be 8 18446744073709551615 = List.replicate 8 255 := by decide

theorem put64_nil (w : World) (x : Nat) (hx : (x : Int) ≤ 18446744073709551615) :
    Calls Try.prog 13 #[.slice none 0 0, .int .u64 (x : Int)] w fun e w' => ∃ g c, e = .returned (.slice (some ⟨g, 0, none⟩) 8 c) ∧ 8 ≤ c ∧ Bs w' (.slice (some ⟨g, 0, none⟩) 8 c) g (be 8 x) ∧ w.heap.size ≤ g ∧ g < w'.heap.size ∧ Ext [] w w' := by
  refine (Put64_own w _ 0 [] x _ (w64 x hx) (.nothing' _ _) (by simp)).mono ?_
  rintro e w' ⟨g, c, rfl, hO, h1, h2, h3⟩
  rw [List.nil_append] at hO
  simp only [List.length_nil, Nat.zero_add] at hO ⊢
  obtain ⟨c', hc', hv⟩ := hO.shape
  rw [be_length] at hv hc'
  simp only [Value.slice.injEq, true_and] at hv
  exact ⟨g, c, rfl, by omega, hO.bs, h1, h2, h3⟩
theorem Bs.byte {w : World} {g n c : Nat} {x : Nat} (h : Bs w (.slice (some ⟨g, 0, none⟩) n c) g (be 8 x)) (j : Nat) (hj : j < 8) : w.cell? ⟨g, j, none⟩ = some (.int .u8 ((x / 256 ^ (7 - j) % 256 : Nat) : Int)) := by
  obtain ⟨o, y, e1, e2, e3⟩ := h.at j (by rw [be_length]; exact hj)
  simp only [Option.some.injEq, Addr.mk.injEq, true_and, and_true] at e1
  subst e1
  rw [be_at 8 x j hj, Option.some.injEq] at e2
  subst e2
  rw [Nat.zero_add] at e3
  rw [e3]; simp

/-- the places behind k are all 255 in x, all 0 in the next one -/
theorem inv_next (x k : Nat) (hk : k < 7) (h : (x + 1) / 256 ^ (7 - (k + 1)) = x / 256 ^ (7 - (k + 1)) + 1) (hb : x / 256 ^ (7 - (k + 1)) % 256 = 255) : (x + 1) / 256 ^ (7 - k) = x / 256 ^ (7 - k) + 1 := by
  have e : 256 ^ (7 - k) = 256 ^ (7 - (k + 1)) * 256 := by rw [← Nat.pow_succ]; congr 1; omega
  rw [e, ← Nat.div_div_eq_div_mul, ← Nat.div_div_eq_div_mul, h]
  omega
theorem inv_end (x k : Nat) (hk : k ≤ 7) (h : (x + 1) / 256 ^ (7 - k) = x / 256 ^ (7 - k) + 1) (hb : x / 256 ^ (7 - k) % 256 ≠ 255) : (be 8 (x + 1)).take k = (be 8 x).take k := by
  refine be_take_eq _ _ _ (by omega) ?_
  have e : 256 ^ (8 - k) = 256 ^ (7 - k) * 256 := by rw [← Nat.pow_succ]; congr 1; omega
  rw [e, ← Nat.div_div_eq_div_mul, ← Nat.div_div_eq_div_mul, h]
  omega

set_option maxHeartbeats 4000000 in
theorem walkAhead_max (w : World) :
    Calls Try.prog 7 #[.int .u64 18446744073709551615] w fun e w' => e = .returned (.bool true) ∧ Below w.heap.size w w' := by
  have hp := fun w => put64_nil w 18446744073709551615 (by decide)
  rw [be_max] at hp
  have hp' : ∀ w, Calls Try.prog 13 #[.slice none 0 0, .int .u64 18446744073709551615] w fun e w' => ∃ g c, e = .returned (.slice (some ⟨g, 0, none⟩) 8 c) ∧ 8 ≤ c ∧ Bs w' (.slice (some ⟨g, 0, none⟩) 8 c) g (List.replicate 8 255) ∧ w.heap.size ≤ g ∧ g < w'.heap.size ∧ Ext [] w w' := hp
  clear hp
  go_enter Try.func7, Try.ntmps7
  go_wp2_with (first
    | (go_at_call 9; refine (wakes_any _).mono ?_; rintro e w0 ⟨rfl, h0⟩)
    | (go_at_call 13; refine (hp' _).mono ?_; rintro e w1 ⟨g, c, rfl, hc8, hB, hg1, hg2, hE⟩)
    | (go_at_call 29; refine (Count_255 (w1.alloc _) g c w1.heap.size (hB.ext ((Ext.refl [] w1).alloc _) (by simp)) (by simp)).mono ?_; rintro e w2 ⟨rfl, rfl⟩))
  go_ret
  exact ⟨rfl, ((h0.trans hE).alloc _).below⟩

set_option maxHeartbeats 4000000 in
theorem walkAhead_big (w : World) (x : Nat) (hx : (x : Int) ≤ 18446744073709551614) (hxs : 72057594037927936 ≤ (x : Int)) :
    Calls Try.prog 7 #[.int .u64 (x : Int)] w fun e w' => e = .returned (.bool true) ∧ Below w.heap.size w w' := by
  have hp := fun w => put64_nil w x (by omega)
  have hpn : ∀ w, Calls Try.prog 13 #[.slice none 0 0, .int .u64 ((x : Int) + 1)] w fun e w' => ∃ g c, e = .returned (.slice (some ⟨g, 0, none⟩) 8 c) ∧ 8 ≤ c ∧ Bs w' (.slice (some ⟨g, 0, none⟩) 8 c) g (be 8 (x + 1)) ∧ w.heap.size ≤ g ∧ g < w'.heap.size ∧ Ext [] w w' := fun w => put64_nil w (x + 1) (by omega)
  have hlt : decide ((x : Int) < 72057594037927936) = false := by simp; omega
  have hn2 : ((x : Int) + 1 == 0) = false := by simp; omega
  clear hxs
  go_enter Try.func7, Try.ntmps7
  go_wp2_with (first
    | (go_at_call 9; refine (wakes_any _).mono ?_; rintro e w0 ⟨rfl, h0⟩)
    | (go_at_call 13; with_reducible refine (hp w0).mono ?_; rintro e W ⟨g, c, rfl, hc8, hBW, hg1, hg2, hE⟩; have hEW := h0.trans hE; clear hp h0 hE))
  obtain ⟨hbyte, hW⟩ : (∀ W', Ext [] W W' → Bs W' (.slice (some ⟨g, 0, none⟩) 8 c) g (be 8 x)) ∧ Ext [] w W := ⟨fun W' he => hBW.ext he (by simp), hEW⟩
  clear hBW hEW
  go_wp2_with (go_at_call 13; refine (hpn W).mono ?_; rintro e w3 ⟨gn, cn, rfl, hn8, hBn, hg3, hg4, hEn⟩)
  have hB3 := hbyte w3 hEn
  have hE3 := hW.trans hEn
  clear hbyte hW hEn hpn hn2
  go_loop [6] (fun i => ∃ k : Nat, k ≤ 7 ∧ i = .int .i64 k ∧ Hid ((x + 1) / 256 ^ (7 - k) = x / 256 ^ (7 - k) + 1)) (fun i => (intOf i).toNat)
  case atStart => exact ⟨7, by omega, rfl, by simp [Hid]⟩
  case round =>
    obtain ⟨k, hk, rfl, hinv⟩ := hrel
    have cb := hB3.byte k (by omega)
    have cn1 := hBn.byte k (by omega)
    have hy : x / 256 ^ (7 - k) % 256 < 256 := Nat.mod_lt _ (by decide)
    have hcn : (x + 1) / 256 ^ (7 - k) % 256 = (x / 256 ^ (7 - k) % 256 + 1) % 256 := by rw [hinv.out]; omega
    rw [hcn] at cn1
    clear hcn
    by_cases h255 : x / 256 ^ (7 - k) % 256 = 255
    · rw [h255] at cb cn1
      have cn2 : w3.cell? ⟨gn, k, none⟩ = some (.int .u8 0) := cn1
      have cb2 : w3.cell? ⟨g, k, none⟩ = some (.int .u8 255) := cb
      clear cn1 cb hy
      by_cases hk0 : 0 < k
      · obtain ⟨j, rfl⟩ : ∃ j, k = j + 1 := ⟨k - 1, by omega⟩
        have hnx := Lib.hid (inv_next x j (by omega) hinv.out h255)
        have hH := Lib.hid h255
        clear h255 hinv
        have hkp : (0 : Int) < ((j + 1 : Nat) : Int) := by omega
        go_wp2
        go_round
        case rel => exact ⟨j, by omega, by go_num, hnx⟩
        case measure => simp [intOf] <;> omega
      · obtain rfl : k = 0 := by omega
        have := hinv.out
        have hlt : (x + 1) / 256 ^ (7 - 0) < 256 := Nat.div_lt_of_lt_mul (by simp; omega)
        have hlt2 : x / 256 ^ (7 - 0) < 256 := Nat.div_lt_of_lt_mul (by simp; omega)
        omega
    · have heq := Lib.hid (inv_end x k hk hinv.out h255)
      have hm : (x / 256 ^ (7 - k) % 256 + 1) % 256 = x / 256 ^ (7 - k) % 256 + 1 := by omega
      rw [hm] at cn1
      clear hinv hm
      generalize x / 256 ^ (7 - k) % 256 = y at *
      have hy255 : ((y : Int) == 255) = false := by simp; omega
      have hyb : (y : Int) < 255 := by omega
      have cn2 : w3.cell? ⟨gn, k, none⟩ = some (.int .u8 ((y : Int) + 1)) := cn1
      have hq : ∀ n, Calls Try.prog 28 #[.slice (some ⟨gn, 0, none⟩) k cn, .slice (some ⟨g, 0, none⟩) k c] (w3.drewN n) fun e w' => e = .returned (.bool true) ∧ w' = w3.drewN n := by
        intro n
        have b1 := (hBn.drewN n).cut1 (pos := 0) (m := k) (by rw [be_length]; omega)
        have b2 := (hB3.drewN n).cut1 (pos := 0) (m := k) (by rw [be_length]; omega)
        simp only [Option.map_some, Addr.add, if_true, Nat.sub_zero, List.drop_zero] at b1 b2
        refine (Equal_any _ _ _ _ _ _ _ b1 b2).mono ?_
        rintro e w' ⟨rfl, rfl⟩
        exact ⟨ret_bool (by rw [heq.out]; simp), rfl⟩
      clear cn1 hy h255 hB3 hBn heq
      have hkc : (k : Int) ≤ c ∧ (k : Int) ≤ cn := by omega
      by_cases hk0 : 0 < k
      all_goals
        go_wp2
        go_quiet ((go_at_call 28; exact Calls.quiet_of_same (hq _)))
        go_wp2
        go_ret
        exact ⟨rfl, (hE3.drewN _).below⟩


set_option maxHeartbeats 4000000 in
theorem walkAhead_small (w : World) (x : Nat) (hx : (x : Int) < 72057594037927936) :
    Calls Try.prog 7 #[.int .u64 (x : Int)] w fun e w' => e = .returned (.bool true) ∧ Below w.heap.size w w' := by
  have hx0 : 0 ≤ (x : Int) := by omega
  have hp := fun w => put64_nil w x (by omega)
  have hpf : ∀ w, Calls Try.prog 13 #[.slice none 0 0, .int .u64 (256 * (x : Int))] w fun e w' => ∃ g c, e = .returned (.slice (some ⟨g, 0, none⟩) 8 c) ∧ 8 ≤ c ∧ Bs w' (.slice (some ⟨g, 0, none⟩) 8 c) g (be 8 (256 * x)) ∧ w.heap.size ≤ g ∧ g < w'.heap.size ∧ Ext [] w w' := by
    intro w
    have := put64_nil w (256 * x) (by omega)
    rwa [Int.natCast_mul] at this
  have hpn : ∀ w, Calls Try.prog 13 #[.slice none 0 0, .int .u64 ((x : Int) + 1)] w fun e w' => ∃ g c, e = .returned (.slice (some ⟨g, 0, none⟩) 8 c) ∧ 8 ≤ c ∧ Bs w' (.slice (some ⟨g, 0, none⟩) 8 c) g (be 8 (x + 1)) ∧ w.heap.size ≤ g ∧ g < w'.heap.size ∧ Ext [] w w' := fun w => put64_nil w (x + 1) (by omega)
  have hn2 : ((x : Int) + 1 == 0) = false := by simp; omega
  go_enter Try.func7, Try.ntmps7
  go_wp2_with (first
    | (go_at_call 9; refine (wakes_any _).mono ?_; rintro e w0 ⟨rfl, h0⟩)
    | (go_at_call 13; with_reducible refine (hp w0).mono ?_; rintro e w1 ⟨g, c, rfl, hc8, hB, hg1, hg2, hE⟩)
    | (go_at_call 13; with_reducible refine (hpf w1).mono ?_; rintro e w2 ⟨gf, cf, rfl, hf8, hBf, hf1, hf2, hEf⟩))
  have hBW0 := hB.ext hEf (by simp)
  have f7 : w2.cell? ⟨gf, 7, none⟩ = some (.int .u8 0) := by
    have := hBf.byte 7 (by decide)
    simpa using this
  have hq : ∀ n, Calls Try.prog 28 #[.slice (some ⟨gf, 0, none⟩) 7 cf, .slice (some ⟨g, 1, none⟩) 7 (c - 1)] (w2.drewN n) fun e w' => e = .returned (.bool true) ∧ w' = w2.drewN n := by
    intro n
    have b1 := (hBf.drewN n).cut1 (pos := 0) (m := 7) (by rw [be_length]; omega)
    have b2 := (hBW0.drewN n).cut1 (pos := 1) (m := 7) (by rw [be_length]; omega)
    simp only [Option.map_some, Addr.add, if_true, Nat.sub_zero, List.drop_zero] at b1 b2
    refine (Equal_any _ _ _ _ _ _ _ b1 b2).mono ?_
    rintro e w' ⟨rfl, rfl⟩
    refine ⟨ret_bool ?_, rfl⟩
    rw [be_far, List.take_of_length_le (by simp [be_length])]; simp
  have hc1 : ¬ c = 1 := by omega
  have hcc : (7 : Int) ≤ cf ∧ (1 : Int) ≤ c ∧ (8 : Int) ≤ c := by omega
  have hEW0 := (h0.trans hE).trans hEf
  clear hp hpf hB hBf h0 hE hEf
  go_quiet ((go_at_call 28; exact Calls.quiet_of_same (hq _)))
  have hBW := hBW0.drewN nq
  have hEW := hEW0.drewN nq
  clear hBW0 hEW0 hq f7
  generalize w2.drewN nq = W at *
  obtain ⟨hbyte, hW⟩ : (∀ W', Ext [] W W' → Bs W' (.slice (some ⟨g, 0, none⟩) 8 c) g (be 8 x)) ∧ Ext [] w W := ⟨fun W' he => hBW.ext he (by simp), hEW⟩
  clear hBW hEW
  go_wp2_with (go_at_call 13; refine (hpn W).mono ?_; rintro e w3 ⟨gn, cn, rfl, hn8, hBn, hg3, hg4, hEn⟩)
  have hB3 := hbyte w3 hEn
  have hE3 := hW.trans hEn
  clear hbyte hW hEn hpn hn2
  go_loop [6] (fun i => ∃ k : Nat, k ≤ 7 ∧ i = .int .i64 k ∧ Hid ((x + 1) / 256 ^ (7 - k) = x / 256 ^ (7 - k) + 1)) (fun i => (intOf i).toNat)
  case atStart => exact ⟨7, by omega, rfl, by simp [Hid]⟩
  case round =>
    obtain ⟨k, hk, rfl, hinv⟩ := hrel
    have cb := hB3.byte k (by omega)
    have cn1 := hBn.byte k (by omega)
    have hy : x / 256 ^ (7 - k) % 256 < 256 := Nat.mod_lt _ (by decide)
    have hcn : (x + 1) / 256 ^ (7 - k) % 256 = (x / 256 ^ (7 - k) % 256 + 1) % 256 := by rw [hinv.out]; omega
    rw [hcn] at cn1
    clear hcn
    by_cases h255 : x / 256 ^ (7 - k) % 256 = 255
    · rw [h255] at cb cn1
      have cn2 : w3.cell? ⟨gn, k, none⟩ = some (.int .u8 0) := cn1
      have cb2 : w3.cell? ⟨g, k, none⟩ = some (.int .u8 255) := cb
      clear cn1 cb hy
      by_cases hk0 : 0 < k
      · obtain ⟨j, rfl⟩ : ∃ j, k = j + 1 := ⟨k - 1, by omega⟩
        have hnx := Lib.hid (inv_next x j (by omega) hinv.out h255)
        have hH := Lib.hid h255
        clear h255 hinv
        have hkp : (0 : Int) < ((j + 1 : Nat) : Int) := by omega
        go_wp2
        go_round
        case rel => exact ⟨j, by omega, by go_num, hnx⟩
        case measure => simp [intOf] <;> omega
      · obtain rfl : k = 0 := by omega
        have := hinv.out
        have hlt : (x + 1) / 256 ^ (7 - 0) < 256 := Nat.div_lt_of_lt_mul (by simp; omega)
        have hlt2 : x / 256 ^ (7 - 0) < 256 := Nat.div_lt_of_lt_mul (by simp; omega)
        omega
    · have heq := Lib.hid (inv_end x k hk hinv.out h255)
      have hm : (x / 256 ^ (7 - k) % 256 + 1) % 256 = x / 256 ^ (7 - k) % 256 + 1 := by omega
      rw [hm] at cn1
      clear hinv hm
      generalize x / 256 ^ (7 - k) % 256 = y at *
      have hy255 : ((y : Int) == 255) = false := by simp; omega
      have hyb : (y : Int) < 255 := by omega
      have cn2 : w3.cell? ⟨gn, k, none⟩ = some (.int .u8 ((y : Int) + 1)) := cn1
      have hq : ∀ n, Calls Try.prog 28 #[.slice (some ⟨gn, 0, none⟩) k cn, .slice (some ⟨g, 0, none⟩) k c] (w3.drewN n) fun e w' => e = .returned (.bool true) ∧ w' = w3.drewN n := by
        intro n
        have b1 := (hBn.drewN n).cut1 (pos := 0) (m := k) (by rw [be_length]; omega)
        have b2 := (hB3.drewN n).cut1 (pos := 0) (m := k) (by rw [be_length]; omega)
        simp only [Option.map_some, Addr.add, if_true, Nat.sub_zero, List.drop_zero] at b1 b2
        refine (Equal_any _ _ _ _ _ _ _ b1 b2).mono ?_
        rintro e w' ⟨rfl, rfl⟩
        exact ⟨ret_bool (by rw [heq.out]; simp), rfl⟩
      clear cn1 hy h255 hB3 hBn heq
      have hkc : (k : Int) ≤ c ∧ (k : Int) ≤ cn := by omega
      by_cases hk0 : 0 < k
      all_goals
        go_wp2
        go_quiet ((go_at_call 28; exact Calls.quiet_of_same (hq _)))
        go_wp2
        go_ret
        exact ⟨rfl, (hE3.drewN _).below⟩



open Go.ChangeShapes Go.WideShapes Go.ChangeAt in
theorem walk_OctetAhead {H : Type} {enc : TypeId × Value → H} (W : World) (v0 : Value) (d0 : DataW H) (p0 : List MemPlace) (base0 : Nat) (h0 : DataW.Trod enc Try.prog W 0 (fun _ => true) true 23 v0 d0 p0) (k0 : Value.okWide Try.prog W .any base0 23 v0) :
    Calls Try.prog 7 #[v0] W fun e w' => e = .returned (.bool true) ∧ Below W.heap.size W w' := by
  obtain ⟨x, rfl, rfl, rfl, w1⟩ := open_int Try.underlying23 k0 h0
  obtain ⟨hx0, hx1⟩ := bounds_u64 w1
  obtain ⟨y, rfl⟩ := Int.eq_ofNat_of_zero_le hx0
  by_cases hs : (y : Int) < 72057594037927936
  · exact walkAhead_small W y hs
  · by_cases hm : y = 18446744073709551615
    · subst hm; exact walkAhead_max W
    · exact walkAhead_big W y (by omega) (by omega)

namespace octetAhead
open Go.ChangeShapes Go.WideShapes Go.ChangeAt Go.RowKit
theorem own : ownKnob Try.prog.godebug = none := by kernel_rfl
theorem laidOut : laidOutB Try.prog = true := by kernel_rfl
set_option maxRecDepth 100000 in
theorem lifted (os : Os) (started : os.Started) (H : Type) (enc : TypeId × Value → H) :
    ReturnsInHanded {} Try.checked os 7 .any (Rows.octetAheadSpec.pre6 enc Try.prog Try.f7 Rows.octetAheadRow.domain false) (Rows.octetAheadSpec.post enc Try.prog Try.f7 false true false false) := by
  refine returnsInHanded_of_change (C := Try.checked) own started (by kernel_rfl) Try.func7
    (ChangeSpec.witness6 (enc := enc) (C := Try.checked) false ⟨#[], #[.int .u64 0], []⟩ 8 (by kernel_rfl) (by kernel_rfl) (by kernel_rfl) (by kernel_rfl)) ?_
  intro W base args ds gs before hval0 hW hcnd _
  have hval : ∀ (j : Nat) t v, Try.f7.params[j]? = some t → args[j]? = some v → Value.okWide Try.prog W .any base t v := hval0
  have hW' := hW
  obtain ⟨p, q, hA0, hV, rfl, hfz, hnd⟩ := hW
  have hA : DataW.TrodAll enc Try.prog W 0 (fun _ => true) true Try.f7.params.toList args.toList ds p := hA0
  rw [Try.params7] at hA hval
  obtain ⟨v0, vs0, d0, ds0, p0, q0, hargs, rfl, rfl, h0, r0⟩ := trodAll_cons hA
  obtain ⟨rfl, rfl, rfl⟩ := trodAll_nil r0
  obtain rfl : args = #[v0] := by cases args; simp_all
  obtain ⟨rfl, rfl⟩ := trodVars_none hV
  have lt0 : ∀ x ∈ p0, x.block < W.heap.size := by obtain ⟨m, hm⟩ := h0; exact DataW.trod_lt m _ _ _ hm
  have k0 := hval 0 23 v0 rfl rfl
  clear hA0 hval0
  refine (walk_OctetAhead W v0 d0 p0 base h0 k0).mono fun e W' ⟨he, bel⟩ => ?_
  subst he
  exact ⟨_, rfl, _, _, _, [], _, [], hW', trodAll_mk1 (shut_bool Try.underlying4 _), (trodAll_cons_mk (Below.trod laidOut (by kernel_rfl) (of_decide_eq_true (by kernel_rfl)) h0 bel lt0) trodAll_mk0), rfl, bel.frame _, fun h => by cases h⟩
theorem over : Rows.octetAheadRow.holds Try.pinned (OpenSpec.ofChange Rows.octetAheadSpec) :=
  OpenClaim.holds_of_wide 7 Try.f7 rfl rfl rfl rfl rfl rfl rfl ⟨rfl, rfl, rfl, rfl, rfl⟩ rfl rfl rfl rfl rfl (by kernel_rfl) Try.func7 (by kernel_rfl)
    (of_decide_eq_true (by kernel_rfl)) (by unfold Func.isWrapper; first | (rw [if_pos (by decide +kernel)]; kernel_rfl) | (rw [if_neg (by decide +kernel)]; exact ⟨rfl, rfl⟩))
    (fun os started H enc _ => lifted os started H enc)
theorem proved : Rows.OctetAheadSaid := over
#print axioms proved
end octetAhead
end Go.Proofs.Ytcahdillpdekmaa
