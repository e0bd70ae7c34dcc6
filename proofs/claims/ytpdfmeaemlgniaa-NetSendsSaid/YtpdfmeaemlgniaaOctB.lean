
import Derived.Test.YtpdfmeaemlgniaaOctA
import Derived.Test.YtpdfmeaemlgniaaRun
namespace Go.Proofs.Ytpdfmeaemlgniaa
open Go.RowKit
set_option linter.unusedVariables false

/-! ## numbers -/

/-- what bytes weigh together -/
def weigh : List UInt8 → Nat
  | [] => 0
  | x :: l => x.toNat * 256 ^ l.length + weigh l
theorem weigh_lt : ∀ l : List UInt8, weigh l < 256 ^ l.length
  | [] => by simp [weigh]
  | x :: l => by
    have h := weigh_lt l
    have hx := x.toNat_lt
    have : x.toNat * 256 ^ l.length ≤ 255 * 256 ^ l.length := Nat.mul_le_mul_right _ (by omega)
    simp only [weigh, List.length_cons, Nat.pow_succ]
    omega
/-- the last k+1 bytes weigh what the last k do, and the one ahead of them -/
theorem weigh_drop (l : List UInt8) (k : Nat) (h : k < l.length) : weigh (l.drop (l.length - (k + 1))) = (l[l.length - 1 - k]'(by omega)).toNat * 256 ^ k + weigh (l.drop (l.length - k)) := by
  have e : l.drop (l.length - (k + 1)) = l[l.length - 1 - k]'(by omega) :: l.drop (l.length - k) := by
    rw [List.drop_eq_getElem_cons (by omega)]
    have : l.length - (k + 1) + 1 = l.length - k := by omega
    rw [this]
    congr 2; omega
  rw [e, weigh]
  have : (l.drop (l.length - k)).length = k := by simp; omega
  rw [this]

theorem wrap_u8_mod (n : Int) : IntKind.u8.wrap n = n % 256 := by simp [IntKind.wrap, IntKind.signed, IntKind.bits]
theorem wrap_u16_mod (n : Int) : IntKind.u16.wrap n = n % 65536 := by simp [IntKind.wrap, IntKind.signed, IntKind.bits]
theorem wrap_u32_mod (n : Int) : IntKind.u32.wrap n = n % 4294967296 := by simp [IntKind.wrap, IntKind.signed, IntKind.bits]
theorem wrap_u64_mod (n : Int) : IntKind.u64.wrap n = n % 18446744073709551616 := by simp [IntKind.wrap, IntKind.signed, IntKind.bits]

theorem width_uint32 (w : World) : Calls Try.prog 80 #[] w fun e w' => e = .returned (.int .i64 4) ∧ w = w' := calls_run 60 (by kernel_rfl)
/-- the n bytes of a number, the weightiest first -/
def be (n : Nat) (x : Nat) : List UInt8 := (List.range n).map fun i => UInt8.ofNat (x / 256 ^ (n - 1 - i) % 256)
theorem be_length (n x : Nat) : (be n x).length = n := by simp [be]

/-- what the bytes are behind k rounds of put -/
def putCells (l : List UInt8) (n x k : Nat) : List Value := l.map BV ++ (List.replicate (n - k) (Value.int .u8 0) ++ ((be n x).drop (n - k)).map BV)
theorem putCells_length (l : List UInt8) (n x k : Nat) (hk : k ≤ n) : (putCells l n x k).length = l.length + n := by simp [putCells, be_length] <;> omega
theorem putCells_zero (l : List UInt8) (n x : Nat) : putCells l n x 0 = l.map BV ++ List.replicate n (Value.int .u8 0) := by simp [putCells, be]
theorem putCells_all (l : List UInt8) (n x : Nat) : putCells l n x n = (l ++ be n x).map BV := by simp [putCells]
theorem putCells_set (l : List UInt8) (n x k : Nat) (hk : k < n) : (putCells l n x k).set (l.length + (n - 1) - k) (BV (UInt8.ofNat (x / 256 ^ k % 256))) = putCells l n x (k + 1) := by
  have e1 : (be n x).drop (n - (k + 1)) = UInt8.ofNat (x / 256 ^ k % 256) :: (be n x).drop (n - k) := by
    rw [List.drop_eq_getElem_cons (by rw [be_length]; omega)]
    congr 1
    · simp only [be, List.getElem_map, List.getElem_range]
      congr 4; omega
    · congr 1; omega
  have e2 : List.replicate (n - k) (Value.int .u8 0) = List.replicate (n - (k + 1)) (Value.int .u8 0) ++ [Value.int .u8 0] := by
    rw [← List.replicate_succ']; congr 1; omega
  unfold putCells
  rw [e1, e2, List.set_append_right _ _ (by simp; omega)]
  congr 1
  rw [List.append_assoc, List.set_append_right _ _ (by simp; omega)]
  congr 1
  have : l.length + (n - 1) - k - (l.map BV).length - (List.replicate (n - (k + 1)) (Value.int .u8 0)).length = 0 := by simp; omega
  rw [this]
  simp

theorem byte_of (x k : Nat) : ((x : Int) / 2 ^ (8 * k) % 256) = ((UInt8.ofNat (x / 256 ^ k % 256)).toNat : Int) := by
  rw [Int.pow_mul]
  simp

set_option maxHeartbeats 400000 in
theorem put_uint32 (w : World) (v : Value) (ob : Nat) (l : List UInt8) (x : Nat) (h : Bs w v ob l) (hl : l.length ≤ 1000000) :
    Calls Try.prog 73 #[v, .int .u32 (x : Int)] w fun e w' => ∃ v', e = .returned v' ∧ NewB w w' v' (l ++ be 4 x) ∧ Ext [] w w' := by
  obtain ⟨av, cv, rfl⟩ := h.shape
  go_enter Try.func73, Try.ntmps73
  go_wp2_with (first
    | (go_at_call 80; refine (width_uint32 _).mono ?_; rintro e w' ⟨rfl, rfl⟩)
    | (at_make; refine wpList_make_sl T22 rfl rfl _ _ rfl (l.length + 4) rfl rfl (by omega) (by omega) (by omega) (by unfold maxLen; omega) ?_; intro w1 hb1 he1)
    | ((with_reducible refine at_copy ?_); refine wpList_copy_sl T22 rfl _ _ rfl rfl hb1 rfl (h.ext he1 (by simp)) (BV_one l) (by omega) (by simp) ?_; intro w2 hb2 he2))
  have hb3 : Blk w2 w.heap.size 5 (putCells l 4 x 0) := by rw [putCells_zero]; simpa using hb2
  have he3 : Ext [] w w2 := he1.trans' he2 (by simp)
  have hlb : l.length ≤ 1000000 := hl
  clear hb1 he1 hb2 he2 h hl
  go_loopw [18] (fun i wr => ∃ k : Nat, k ≤ 4 ∧ i = .int .i64 k ∧ Blk wr w.heap.size 5 (putCells l 4 x k) ∧ Ext [] w wr) (fun i _ => 4 - (intOf i).toNat)
  case atStart => exact ⟨0, by omega, rfl, hb3, he3⟩
  case round =>
    obtain ⟨k, hk, rfl, hbk, hek⟩ := hrel
    clear hb3 he3
    by_cases hlt : k < 4
    · obtain ⟨u, hu⟩ : ∃ u, wr.cell? ⟨w.heap.size, l.length + 3 - k, none⟩ = some u := by
        rw [hbk.cell]; exact ⟨_, List.getElem?_eq_getElem (by rw [putCells_length _ _ _ _ hk]; omega)⟩
      have hf : wr.frozen? ⟨w.heap.size, l.length + 3 - k, none⟩ = false := hbk.frozen _
      have hB : Blk (wr.setCell ⟨w.heap.size, l.length + 3 - k, none⟩ (.int .u8 ((x : Int) / 2 ^ (8 * k) % 256))) w.heap.size 5 (putCells l 4 x (k + 1)) := by
        rw [← putCells_set _ _ _ _ hlt, byte_of]; exact hbk.set (l.length + 3 - k) _
      go_wp2
      go_roundw
      case rel => exact ⟨k + 1, by omega, by go_num, hB, hek.setCell (by simp) _⟩
      case measure => simp [intOf]; omega
    · obtain rfl : k = 4 := by omega
      rw [putCells_all] at hbk
      go_wp2
      go_ret
      exact ⟨_, rfl, by
        have := hbk.owns (base := w.heap.size) (size := 1) (n := l.length + 4) (cap := l.length + 4) (Nat.le_refl _) (by simp [be_length]) (Nat.le_refl _) (by unfold maxLen; omega)
        rw [List.take_of_length_le (by simp [be_length])] at this
        simpa [NewB, be_length] using this, hek⟩
/-! ## take: what the next bytes weigh -/
set_option maxHeartbeats 400000 in
theorem weight_uint32 (w : World) (c ob off cap k : Nat) (l : List UInt8) (hc : w.cell? ⟨c, 0, none⟩ = some (.slice (some ⟨ob, off, none⟩) l.length cap)) (hk : k < l.length) (hl : l.length = 4)
    (hb : ∀ j (hj : j < l.length), w.cell? ⟨ob, off + j, none⟩ = some (BV l[j])) :
    Calls Try.prog 84 #[.int .i64 k, .pointer (some ⟨c, 0, none⟩)] w fun e w' => e = .returned (.int .u32 (IntKind.u32.wrap ((l.getD (l.length - 1 - k) 0).toNat * 256 ^ k))) ∧ w = w' := by
  have hgd : l.getD (l.length - 1 - k) 0 = l[l.length - 1 - k]'(by omega) := by rw [List.getD_eq_getElem?_getD, List.getElem?_eq_getElem (by omega)]; rfl
  rw [hgd]
  clear hgd
  have hx := hb (l.length - 1 - k) (by omega)
  unfold BV at hx
  have h256 : ∀ y : Nat, ((y : Int) * 2 ^ (8 * k)) = y * 256 ^ k := fun y => by rw [Int.pow_mul]; rfl
  have hy : ((l[l.length - 1 - k]'(by omega)).toNat : Int) < 256 := by have := (l[l.length - 1 - k]'(by omega)).toNat_lt; omega
  generalize (l[l.length - 1 - k]'(by omega)).toNat = y at hx hy ⊢
  have h256y := Lib.hid (h256 y)
  have hl' : l.length ≤ 4 := by omega
  have hk' : (k : Int) < 4 := by omega
  clear hb h256 hl
  go_enter Try.func84, Try.ntmps84
  go_wp2
  go_ret
  exact ⟨ret_int (by rw [wrap_u32_mod, ← h256y.out]; try rw [wrap_u32_mod]), rfl⟩
theorem R.got_length (r : R) (n : Nat) : (r.got n).length = 0 ∨ (r.got n).length = n := by
  unfold R.got
  split
  · exact .inl rfl
  · rename_i h
    have := R.go_good (Bool.eq_false_iff.2 h)
    exact .inr (by simp; omega)

theorem weigh_step_uint8 (l : List UInt8) (k : Nat) (hk : k < l.length) (hl : l.length = 1) :
    IntKind.u8.wrap ((weigh (l.drop (l.length - k)) : Int) + IntKind.u8.wrap ((l.getD (l.length - 1 - k) 0).toNat * 256 ^ k)) = (weigh (l.drop (l.length - (k + 1))) : Nat) := by
  have hgd : l.getD (l.length - 1 - k) 0 = l[l.length - 1 - k]'(by omega) := by rw [List.getD_eq_getElem?_getD, List.getElem?_eq_getElem (by omega)]; rfl
  rw [hgd]
  clear hgd
  have h := weigh_drop l k hk
  have hlt := weigh_lt (l.drop (l.length - (k + 1)))
  have hp : 256 ^ (l.drop (l.length - (k + 1))).length ≤ 256 ^ 1 := Nat.pow_le_pow_right (by decide) (by simp; omega)
  rw [wrap_u8_mod, wrap_u8_mod, h]
  rw [h] at hlt
  have e : (256 : Nat) ^ 1 = 256 := by decide
  have hc : ((l[l.length - 1 - k]'(by omega)).toNat : Int) * 256 ^ k = (((l[l.length - 1 - k]'(by omega)).toNat * 256 ^ k : Nat) : Int) := by rw [Int.natCast_mul, Int.natCast_pow]; rfl
  rw [hc]
  generalize (l[l.length - 1 - k]'(by omega)).toNat * 256 ^ k = y at *
  generalize weigh (l.drop (l.length - k)) = z at *
  omega

theorem weigh_step_uint16 (l : List UInt8) (k : Nat) (hk : k < l.length) (hl : l.length = 2) :
    IntKind.u16.wrap ((weigh (l.drop (l.length - k)) : Int) + IntKind.u16.wrap ((l.getD (l.length - 1 - k) 0).toNat * 256 ^ k)) = (weigh (l.drop (l.length - (k + 1))) : Nat) := by
  have hgd : l.getD (l.length - 1 - k) 0 = l[l.length - 1 - k]'(by omega) := by rw [List.getD_eq_getElem?_getD, List.getElem?_eq_getElem (by omega)]; rfl
  rw [hgd]
  clear hgd
  have h := weigh_drop l k hk
  have hlt := weigh_lt (l.drop (l.length - (k + 1)))
  have hp : 256 ^ (l.drop (l.length - (k + 1))).length ≤ 256 ^ 2 := Nat.pow_le_pow_right (by decide) (by simp; omega)
  rw [wrap_u16_mod, wrap_u16_mod, h]
  rw [h] at hlt
  have e : (256 : Nat) ^ 2 = 65536 := by decide
  have hc : ((l[l.length - 1 - k]'(by omega)).toNat : Int) * 256 ^ k = (((l[l.length - 1 - k]'(by omega)).toNat * 256 ^ k : Nat) : Int) := by rw [Int.natCast_mul, Int.natCast_pow]; rfl
  rw [hc]
  generalize (l[l.length - 1 - k]'(by omega)).toNat * 256 ^ k = y at *
  generalize weigh (l.drop (l.length - k)) = z at *
  omega

theorem weigh_step_uint32 (l : List UInt8) (k : Nat) (hk : k < l.length) (hl : l.length = 4) :
    IntKind.u32.wrap ((weigh (l.drop (l.length - k)) : Int) + IntKind.u32.wrap ((l.getD (l.length - 1 - k) 0).toNat * 256 ^ k)) = (weigh (l.drop (l.length - (k + 1))) : Nat) := by
  have hgd : l.getD (l.length - 1 - k) 0 = l[l.length - 1 - k]'(by omega) := by rw [List.getD_eq_getElem?_getD, List.getElem?_eq_getElem (by omega)]; rfl
  rw [hgd]
  clear hgd
  have h := weigh_drop l k hk
  have hlt := weigh_lt (l.drop (l.length - (k + 1)))
  have hp : 256 ^ (l.drop (l.length - (k + 1))).length ≤ 256 ^ 4 := Nat.pow_le_pow_right (by decide) (by simp; omega)
  rw [wrap_u32_mod, wrap_u32_mod, h]
  rw [h] at hlt
  have e : (256 : Nat) ^ 4 = 4294967296 := by decide
  have hc : ((l[l.length - 1 - k]'(by omega)).toNat : Int) * 256 ^ k = (((l[l.length - 1 - k]'(by omega)).toNat * 256 ^ k : Nat) : Int) := by rw [Int.natCast_mul, Int.natCast_pow]; rfl
  rw [hc]
  generalize (l[l.length - 1 - k]'(by omega)).toNat * 256 ^ k = y at *
  generalize weigh (l.drop (l.length - k)) = z at *
  omega

set_option maxHeartbeats 400000 in
theorem take_uint32 (w : World) (b ob : Nat) (own : Value) (r : R) (h : RdAt w b ob own r) :
    Calls Try.prog 76 #[.pointer (some ⟨b, 0, none⟩)] w fun e w' => e = .returned (.int .u32 (weigh (r.got 4) : Nat)) ∧ RdAt w' b ob own (r.go 4) ∧ Ext [b] w w' := by
  have hn := next_any w b ob own r 4 h
  have hgl : (r.got (4 : Nat)).length = 0 ∨ (r.got (4 : Nat)).length = 4 := R.got_length r 4
  rw [show ((4 : Nat) : Int) = 4 from rfl] at hgl
  generalize r.got 4 = l at *
  generalize r.go 4 = r' at *
  have hbl := h.blk
  clear h
  go_enter Try.func76, Try.ntmps76
  go_wp2_with (first
    | (go_at_call 80; refine (width_uint32 _).mono ?_; rintro e w' ⟨rfl, rfl⟩)
    | (go_at_call 83; refine hn.mono ?_; rintro e w1 ⟨v, rfl, hB, hr, he⟩; obtain ⟨av, cv, rfl⟩ := hB.shape))
  have hW : Ext [b] w (w1.alloc (Obj.cells #[Value.slice av l.length cv] 29)) := he.alloc _
  have hr2 := hr.ext ((Ext.refl [] w1).alloc (Obj.cells #[Value.slice av l.length cv] 29)) (by simp) (by simp)
  have hB2 := hB.ext ((Ext.refl [] w1).alloc (Obj.cells #[Value.slice av l.length cv] 29)) (by simp)
  have hc : (w1.alloc (Obj.cells #[Value.slice av l.length cv] 29)).cell? ⟨w1.heap.size, 0, none⟩ = some (Value.slice av l.length cv) := by simp
  generalize hW2 : w1.alloc (Obj.cells #[Value.slice av l.length cv] 29) = W2 at *
  generalize w1.heap.size = c at *
  clear hW2 hB hr he hn hbl
  go_loop [5, 13] (fun x i => ∃ k : Nat, k ≤ l.length ∧ i = .int .i64 k ∧ x = .int .u32 (weigh (l.drop (l.length - k)) : Nat)) (fun _ i => l.length - (intOf i).toNat)
  case atStart => exact ⟨0, by omega, rfl, by simp [weigh]⟩
  case round =>
    obtain ⟨k, hk, rfl, rfl⟩ := hrel
    have hll : l.length ≤ 4 := by omega
    by_cases hlt : k < l.length
    · have hl : l.length = 4 := by omega
      rcases hB2.cases with ⟨h0, rfl⟩ | ⟨off, sp, cap, h0, h1, h2, hsp, h3⟩
      · simp at hl
      · obtain rfl : sp = none := by rcases hsp with h | h; omega; exact h
        simp only [Value.slice.injEq, true_and] at h0
        obtain ⟨rfl, rfl⟩ := h0
        clear hsp
        have hw := weight_uint32 W2 c ob off cv k l hc hlt hl h3
        have hst0 := weigh_step_uint32 l k hlt hl
        generalize IntKind.u32.wrap ((l.getD (l.length - 1 - k) 0).toNat * 256 ^ k) = y at hw hst0
        generalize weigh (l.drop (l.length - k)) = X at hst0 ⊢
        have hst := Lib.hid hst0
        clear hst0 hB2 h3 hl hgl
        go_wp2_with (go_at_call 84; refine hw.mono ?_; rintro e w' ⟨rfl, rfl⟩)
        go_round
        case rel => exact ⟨k + 1, by omega, by go_num, by rw [← hst.out]; try rw [wrap_u32_mod]⟩
        case measure => simp [intOf]; omega
    · have hkl : k = l.length := by omega
      clear hc hB2
      go_wp2
      go_ret
      exact ⟨ret_int (by first | rfl | (rw [hkl]; simp)), hr2, hW⟩
theorem weigh_step_uint64 (l : List UInt8) (k : Nat) (hk : k < l.length) (hl : l.length = 8) :
    IntKind.u64.wrap ((weigh (l.drop (l.length - k)) : Int) + IntKind.u64.wrap ((l.getD (l.length - 1 - k) 0).toNat * 256 ^ k)) = (weigh (l.drop (l.length - (k + 1))) : Nat) := by
  have hgd : l.getD (l.length - 1 - k) 0 = l[l.length - 1 - k]'(by omega) := by rw [List.getD_eq_getElem?_getD, List.getElem?_eq_getElem (by omega)]; rfl
  rw [hgd]
  clear hgd
  have h := weigh_drop l k hk
  have hlt := weigh_lt (l.drop (l.length - (k + 1)))
  have hp : 256 ^ (l.drop (l.length - (k + 1))).length ≤ 256 ^ 8 := Nat.pow_le_pow_right (by decide) (by simp; omega)
  rw [wrap_u64_mod, wrap_u64_mod, h]
  rw [h] at hlt
  have e : (256 : Nat) ^ 8 = 18446744073709551616 := by decide
  have hc : ((l[l.length - 1 - k]'(by omega)).toNat : Int) * 256 ^ k = (((l[l.length - 1 - k]'(by omega)).toNat * 256 ^ k : Nat) : Int) := by rw [Int.natCast_mul, Int.natCast_pow]; rfl
  rw [hc]
  generalize (l[l.length - 1 - k]'(by omega)).toNat * 256 ^ k = y at *
  generalize weigh (l.drop (l.length - k)) = z at *
  omega

end Go.Proofs.Ytpdfmeaemlgniaa
