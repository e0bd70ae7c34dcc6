
import Derived.Test.YtdiachkimgkkbaaSumA
import Derived.Test.YtdiachkimgkkbaaEqual
namespace Go.Proofs.Ytdiachkimgkkbaa
open Go.RowKit
set_option linter.unusedVariables false

theorem and_shl (x y k : Nat) : x &&& (y * 2 ^ k) = (x / 2 ^ k &&& y) * 2 ^ k := by
  refine Nat.eq_of_testBit_eq fun i => ?_
  rw [Nat.testBit_and, Nat.testBit_mul_two_pow, Nat.testBit_mul_two_pow, Nat.testBit_and, Nat.testBit_div_two_pow]
  by_cases h : k ≤ i
  · simp only [h, decide_true, Bool.true_and]
    congr 2; omega
  · simp [h]
theorem mask_two (x : Nat) : x &&& 16711935 = x / 65536 % 256 * 65536 + x % 256 := by
  have e : (16711935 : Nat) = 255 * 2 ^ 16 ||| 255 := by decide
  rw [e, Nat.and_or_distrib_left, and_shl, nat_mask8, nat_mask8]
  exact nat_join 16 _ _ (by omega) (by omega)

/-- a number's four bytes in the other order -/
def rev (x : Nat) : Nat := x % 256 * 16777216 + x / 256 % 256 * 65536 + x / 65536 % 256 * 256 + x / 16777216 % 256
theorem rev_lt (x : Nat) : rev x < 4294967296 := by unfold rev; omega
theorem be_rev (x : Nat) : be 4 (rev x) = le4 x := by
  have e : ∀ y, be 4 y = [UInt8.ofNat (y / 16777216 % 256), UInt8.ofNat (y / 65536 % 256), UInt8.ofNat (y / 256 % 256), UInt8.ofNat (y / 1 % 256)] := fun y => rfl
  rw [e]
  unfold le4 rev
  have ha : x % 256 < 256 := by omega
  have hb : x / 256 % 256 < 256 := by omega
  have hc : x / 65536 % 256 < 256 := by omega
  have hd : x / 16777216 % 256 < 256 := by omega
  generalize x % 256 = a at *
  generalize x / 256 % 256 = b at *
  generalize x / 65536 % 256 = c at *
  generalize x / 16777216 % 256 = d at *
  rw [show (a * 16777216 + b * 65536 + c * 256 + d) / 16777216 % 256 = a by omega, show (a * 16777216 + b * 65536 + c * 256 + d) / 65536 % 256 = b by omega, show (a * 16777216 + b * 65536 + c * 256 + d) / 256 % 256 = c by omega, show (a * 16777216 + b * 65536 + c * 256 + d) / 1 % 256 = d by omega]
theorem or_byte (a b : Nat) (ha : a < 256) : a ||| b * 256 = b * 256 + a := by rw [Nat.or_comm]; exact nat_join 8 _ _ (by omega) (by omega)
theorem or_pair (a1 a0 b1 b0 : Nat) (h : a0 < 65536) (k : b0 < 65536) : (a1 * 65536 + a0) ||| (b1 * 65536 + b0) = (a1 ||| b1) * 65536 + (a0 ||| b0) := by
  rw [← nat_join 16 (a1 * 65536) a0 (by omega) (by omega), ← nat_join 16 (b1 * 65536) b0 (by omega) (by omega)]
  have e : (a1 ||| b1) * 65536 = a1 * 65536 ||| b1 * 65536 := by
    have := Nat.shiftLeft_or_distrib (i := 16) (a := a1) (b := b1)
    simpa [Nat.shiftLeft_eq] using this
  have l : a0 ||| b0 < 65536 := Nat.or_lt_two_pow (n := 16) h k
  rw [← nat_join 16 ((a1 ||| b1) * 65536) (a0 ||| b0) (by omega) (by omega), e]
  rw [Nat.or_assoc, ← Nat.or_assoc a0, Nat.or_comm a0, Nat.or_assoc, Nat.or_assoc]
theorem rev_nat (x : Nat) (h : x < 4294967296) :
    (x / 256 &&& 16711935) ||| ((x &&& 16711935) * 256 % 4294967296) = (x / 65536 % 256 * 256 + x / 16777216 % 256) * 65536 + (x % 256 * 256 + x / 256 % 256) := by
  rw [mask_two, mask_two]
  have e1 : x / 256 / 65536 % 256 = x / 16777216 % 256 := by omega
  have e2 : (x / 65536 % 256 * 65536 + x % 256) * 256 % 4294967296 = (x / 65536 % 256 * 256) * 65536 + x % 256 * 256 := by omega
  rw [e1, e2, or_pair _ _ _ _ (by omega) (by omega), or_byte _ _ (by omega), or_byte _ _ (by omega)]
theorem and_u32 (a b : Nat) (ha : a < 4294967296) (hb : b < 4294967296) : bits .and .u32 (a : Int) (b : Int) = ((a &&& b : Nat) : Int) := u32_and_nat a b ha hb
theorem or_u32 (a b : Nat) (ha : a < 4294967296) (hb : b < 4294967296) : bits .or .u32 (a : Int) (b : Int) = ((a ||| b : Nat) : Int) := u32_or_nat a b ha hb

theorem rev_bits (x : Nat) (h : x < 4294967296) :
    bits .or .u32 (bits .or .u32 (bits .and .u32 ((x : Int) / 256) 16711935) (bits .and .u32 (x : Int) 16711935 * 256 % 4294967296) / 65536)
      (bits .or .u32 (bits .and .u32 ((x : Int) / 256) 16711935) (bits .and .u32 (x : Int) 16711935 * 256 % 4294967296) * 65536 % 4294967296) = (rev x : Nat) := by
  have a1 : bits .and .u32 ((x : Int) / 256) 16711935 = ((x / 256 &&& 16711935 : Nat) : Int) := and_u32 (x / 256) 16711935 (by omega) (by decide)
  have a2 : bits .and .u32 (x : Int) 16711935 = ((x &&& 16711935 : Nat) : Int) := and_u32 x 16711935 h (by decide)
  have l1 : x / 256 &&& 16711935 < 4294967296 := Nat.lt_of_le_of_lt Nat.and_le_right (by decide)
  have o : bits .or .u32 ((x / 256 &&& 16711935 : Nat) : Int) (((x &&& 16711935 : Nat) : Int) * 256 % 4294967296) = (((x / 65536 % 256 * 256 + x / 16777216 % 256) * 65536 + (x % 256 * 256 + x / 256 % 256) : Nat) : Int) := by
    rw [← rev_nat x h]
    exact or_u32 _ ((x &&& 16711935) * 256 % 4294967296) l1 (by omega)
  rw [a1, a2, o]
  unfold rev
  have ha : x % 256 < 256 := by omega
  have hb : x / 256 % 256 < 256 := by omega
  have hc : x / 65536 % 256 < 256 := by omega
  have hd : x / 16777216 % 256 < 256 := by omega
  generalize x % 256 = a at *
  generalize x / 256 % 256 = b at *
  generalize x / 65536 % 256 = c at *
  generalize x / 16777216 % 256 = d at *
  have q := or_u32 (((c * 256 + d) * 65536 + (a * 256 + b)) / 65536) (((c * 256 + d) * 65536 + (a * 256 + b)) * 65536 % 4294967296) (by omega) (by omega)
  refine Eq.trans q ?_
  rw [show ((c * 256 + d) * 65536 + (a * 256 + b)) / 65536 = c * 256 + d by omega, show ((c * 256 + d) * 65536 + (a * 256 + b)) * 65536 % 4294967296 = (a * 256 + b) * 65536 by omega, Nat.or_comm,
    nat_join 16 _ _ (by omega) (by omega)]
  omega

set_option maxHeartbeats 400000 in
theorem reverse_any (w : World) (x : Nat) (h : x < 4294967296) :
    Calls Try.prog 75 #[.int .u32 (x : Int)] w fun e w' => e = .returned (.int .u32 (rev x : Nat)) ∧ w = w' := by
  go_enter Try.func75, Try.ntmps75
  go_wp2
  go_ret
  exact ⟨ret_int (rev_bits x h), rfl⟩

theorem laid_any (w : World) (v : Value) (ob : Nat) (l : List UInt8) (h : Bs w v ob l) (hl : l.length ≤ 1000000) :
    Calls Try.prog 60 #[v] w fun e w' => e = .returned (.int .u32 (rev (crc l) : Nat)) ∧ Ext [] w w' := by
  have hs := Sum32_any w v ob l h hl
  have hr := fun w => reverse_any w (crc l) (crc_lt l)
  clear h
  generalize crc l = C at *
  go_enter Try.func60, Try.ntmps60
  go_wp2_with (first
    | (go_at_call 76; refine hs.mono ?_; rintro e w1 ⟨rfl, hE1⟩)
    | (go_at_call 75; refine (hr _).mono ?_; rintro e w1 ⟨rfl, rfl⟩))
  go_ret
  exact ⟨rfl, hE1⟩

theorem Seal_any (w : World) (v : Value) (ob : Nat) (l : List UInt8) (h : Bs w v ob l) (hl : l.length ≤ 1000000) :
    Calls Try.prog 36 #[v] w fun e w' => ∃ v', e = .returned v' ∧ NewB w w' v' (l ++ le4 (crc l)) ∧ Ext [] w w' := by
  have hs := laid_any w v ob l h hl
  have hp := fun w1 (he : Ext [] w w1) => Put32_any w1 v ob l (rev (crc l)) (h.ext he (by simp)) hl
  rw [be_rev] at hp
  go_enter Try.func36, Try.ntmps36
  go_wp2_with (first
    | (go_at_call 60; refine hs.mono ?_; rintro e w1 ⟨rfl, hE1⟩)
    | (go_at_call 59; refine (hp _ hE1).mono ?_; rintro e w2 ⟨v2, rfl, hN, hE2⟩))
  go_ret
  exact ⟨_, rfl, hN.mono hE1.size, hE1.trans hE2⟩

/-- what is opened, and why it is not -/
def opened (l : List UInt8) : Option (List UInt8) := if l.drop (l.length - 4) = le4 (crc (l.take (l.length - 4))) then some (l.take (l.length - 4)) else none

theorem Open_short (w : World) (v : Value) (ob : Nat) (l : List UInt8) (h : Bs w v ob l) (hl : l.length < 4) :
    Calls Try.prog 39 #[v] w fun e w' => e = .returned (.tuple #[.slice none 0 0, .int .i64 7]) ∧ w = w' := by
  obtain ⟨av, cv, rfl⟩ := h.shape
  clear h
  generalize l.length = n at *
  go_enter Try.func39, Try.ntmps39
  go_wp2
  go_ret2
  exact ⟨rfl, rfl⟩

theorem weigh4 (t : List UInt8) (ht : t.length = 4) (C : Nat) (hC : C < 4294967296) : weigh t = rev C ↔ t = le4 C := by
  match t, ht with
  | [a, b, c, d], _ =>
    have ha := a.toNat_lt
    have hb := b.toNat_lt
    have hc := c.toNat_lt
    have hd := d.toNat_lt
    have e : weigh [a, b, c, d] = a.toNat * 16777216 + b.toNat * 65536 + c.toNat * 256 + d.toNat := by simp [weigh]; omega
    rw [e]
    unfold rev le4
    simp only [List.cons.injEq, and_true]
    have k : ∀ (x : UInt8) (y : Nat), x = UInt8.ofNat (y % 256) ↔ x.toNat = y % 256 := fun x y => by
      constructor
      · rintro rfl; simp
      · intro h; exact UInt8.toNat_inj.1 (by simpa using h)
    rw [k, k, k, k]
    have h0 : C % 256 < 256 := by omega
    have h1 : C / 256 % 256 < 256 := by omega
    have h2 : C / 65536 % 256 < 256 := by omega
    have h3 : C / 16777216 % 256 < 256 := by omega
    generalize C % 256 = x0 at *
    generalize C / 256 % 256 = x1 at *
    generalize C / 65536 % 256 = x2 at *
    generalize C / 16777216 % 256 = x3 at *
    clear hC k e
    omega

/-- what Open32 hands back: opened, or ErrSum -/
def OpenOut (l : List UInt8) (w : World) (e : Ending) (w' : World) : Prop := Ext [] w w' ∧ match opened l with
  | some m => ∃ v', e = .returned (.tuple #[v', .int .i64 0]) ∧ NewB w w' v' m
  | none => e = .returned (.tuple #[.slice none 0 0, .int .i64 130])
theorem OpenOut.some_ {l m : List UInt8} {w w' : World} {v' : Value} (h : opened l = some m) (hE : Ext [] w w') (hN : NewB w w' v' m) : OpenOut l w (.returned (.tuple #[v', .int .i64 0])) w' := by
  unfold OpenOut; rw [h]; exact ⟨hE, _, rfl, hN⟩
theorem OpenOut.none_ {l : List UInt8} {w w' : World} (h : opened l = none) (hE : Ext [] w w') : OpenOut l w (.returned (.tuple #[.slice none 0 0, .int .i64 130])) w' := by
  unfold OpenOut; rw [h]; exact ⟨hE, rfl⟩

set_option maxHeartbeats 400000 in
theorem Open_long (w : World) (v : Value) (ob : Nat) (l : List UInt8) (h : Bs w v ob l) (hl : 4 ≤ l.length) (hs : l.length ≤ 1000000) :
    Calls Try.prog 39 #[v] w (OpenOut l w) := by
  rcases h.cases with ⟨_, rfl⟩ | ⟨off, sp, cap, rfl, h1, h2, hsp, h3⟩
  · simp at hl
  obtain rfl : sp = none := by rcases hsp with h | h; omega; exact h
  have hm : maxLen = 9223372036854775807 := rfl
  have hd : Bs w (.slice (some ⟨ob, off + (l.length - 4), none⟩) (l.length - (l.length - 4)) (cap - (l.length - 4))) ob (l.drop (l.length - 4)) := by
    have := h.cut1 (pos := l.length - 4) (m := l.length - (l.length - 4)) (by omega)
    rw [List.take_of_length_le (by simp)] at this
    simpa only [Option.map_some, add_off] using this
  have ht : Bs w (.slice (some ⟨ob, off, none⟩) (l.length - 4) (l.length - 4)) ob (l.take (l.length - 4)) := by
    have e : (l.take (l.length - 4)).length = l.length - 4 := by rw [List.length_take]; omega
    have := Bs.mk (w := w) (ob := ob) (off := off) (cap := l.length - 4) (l := l.take (l.length - 4)) (by omega) (by rw [hm]; omega) (fun j hj => by
      rw [h3 j (by omega)]; simp)
    rwa [e] at this
  have hdl : (l.drop (l.length - 4)).length = 4 := by rw [List.length_drop]; omega
  have htl : (l.take (l.length - 4)).length ≤ 1000000 := by rw [List.length_take]; omega
  have hw4 := weigh4 _ hdl (crc (l.take (l.length - 4))) (crc_lt _)
  have hgot : (⟨l.drop (l.length - 4), 0, 0⟩ : R).got 4 = l.drop (l.length - 4) := by
    have hb : (⟨l.drop (l.length - 4), 0, 0⟩ : R).bad 4 = false := by simp [R.bad, hdl]
    unfold R.got
    rw [if_neg (by rw [hb]; simp)]
    exact List.take_of_length_le (by show (List.drop 0 (l.drop (l.length - 4))).length ≤ 4; rw [List.drop_zero, hdl]; exact Nat.le_refl _)
  have hrd := Read_any w _ ob _ hd (by omega)
  have hu : ∀ w b ob own, RdAt w b ob own ⟨l.drop (l.length - 4), 0, 0⟩ → Calls Try.prog 65 #[.pointer (some ⟨b, 0, none⟩)] w fun e w' => e = .returned (.int .u32 (weigh (l.drop (l.length - 4)) : Nat)) ∧ Ext [b] w w' := fun w b ob own hR => (U32_any w b ob own _ hR).mono fun e w' ⟨a1, _, a3⟩ => ⟨by rw [a1, hgot], a3⟩
  have hld : ∀ w1, Ext [] w w1 → Calls Try.prog 60 #[.slice (some ⟨ob, off, none⟩) (l.length - 4) (l.length - 4)] w1 fun e w' => e = .returned (.int .u32 (rev (crc (l.take (l.length - 4))) : Nat)) ∧ Ext [] w1 w' := fun w1 hE => laid_any w1 _ ob _ (ht.ext hE (by simp)) htl
  have hcn : ∀ w1, Ext [] w w1 → Calls Try.prog 66 #[.slice (some ⟨ob, off, none⟩) (l.length - 4) (l.length - 4)] w1 fun e w' => ∃ v', e = .returned v' ∧ NewB w1 w' v' (l.take (l.length - 4)) ∧ Ext [] w1 w' := fun w1 hE => clone_any w1 _ ob _ (ht.ext hE (by simp)) (by omega)
  have hrb := rev_lt (crc (l.take (l.length - 4)))
  have HO : opened l = (if l.drop (l.length - 4) = le4 (crc (l.take (l.length - 4))) then some (l.take (l.length - 4)) else none) := rfl
  generalize rev (crc (l.take (l.length - 4))) = V at *
  generalize le4 (crc (l.take (l.length - 4))) = t at *
  generalize weigh (l.drop (l.length - 4)) = U at *
  have HO := Lib.hid HO
  have HW := Lib.hid hw4
  rw [hm] at h2
  clear hgot hdl htl hd ht hw4 hm h h3
  by_cases heq : U = V
  · subst heq
    have HO2 : Hid (opened l = some (l.take (l.length - 4))) := by rw [HO.out, if_pos (HW.out.1 rfl)]; exact Lib.hid rfl
    have hne : ((U : Int) != (U : Int)) = false := by simp
    clear HW HO
    go_enter Try.func39, Try.ntmps39
    go_wp2_with (first
      | (go_at_call 64; refine hrd.mono ?_; rintro e w1 ⟨b, orb, own, rfl, hR1, hb1, _, _, hE1⟩)
      | (go_at_call 65; refine (hu _ _ _ _ hR1).mono ?_; rintro e w2 ⟨rfl, hE2⟩)
      | (go_at_call 60; refine (hld _ (hE1.trans' hE2 (by simp; omega))).mono ?_; rintro e w3 ⟨rfl, hE3⟩)
      | (go_at_call 66; refine (hcn _ ((hE1.trans' hE2 (by simp; omega)).trans hE3)).mono ?_; rintro e w4 ⟨v4, rfl, hN, hE4⟩))
    go_ret2
    exact .some_ HO2.out (((hE1.trans' hE2 (by simp; omega)).trans hE3).trans hE4) (hN.mono ((hE1.trans' hE2 (by simp; omega)).trans hE3).size)
  · have HO2 : Hid (opened l = none) := by rw [HO.out, if_neg (fun h => heq (HW.out.2 h))]; exact Lib.hid rfl
    have hne : ((U : Int) != (V : Int)) = true := by simp; omega
    clear HW HO heq hcn
    go_enter Try.func39, Try.ntmps39
    go_wp2_with (first
      | (go_at_call 64; refine hrd.mono ?_; rintro e w1 ⟨b, orb, own, rfl, hR1, hb1, _, _, hE1⟩)
      | (go_at_call 65; refine (hu _ _ _ _ hR1).mono ?_; rintro e w2 ⟨rfl, hE2⟩)
      | (go_at_call 60; refine (hld _ (hE1.trans' hE2 (by simp; omega))).mono ?_; rintro e w3 ⟨rfl, hE3⟩))
    go_ret2
    exact .none_ HO2.out ((hE1.trans' hE2 (by simp; omega)).trans hE3)
end Go.Proofs.Ytdiachkimgkkbaa
