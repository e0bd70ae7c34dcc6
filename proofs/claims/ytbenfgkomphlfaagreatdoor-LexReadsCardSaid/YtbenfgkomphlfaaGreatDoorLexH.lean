/-
  quoted: a text between quotes.
-/
import Derived.Test.YtbenfgkomphlfaaGreatDoorLexF
namespace Go.Proofs.YtbenfgkomphlfaaGreatDoor
open Go.RowKit
open Go.Lib hiding intOf
set_option linter.unusedVariables false

def BV (x : UInt8) : Value := .int .u8 (x.toNat : Int)
theorem BV_one (l : List UInt8) : ∀ u ∈ l.map BV, u.oneCell' = true := by
  intro u hu
  obtain ⟨x, _, rfl⟩ := List.mem_map.1 hu
  rfl
theorem T8 : SliceTy Tryz.prog 63 5 1 1 (.int .u8 0) := .mk' Tryz.underlying63 (by kernel_rfl) rfl (by decide)
theorem empty_text (w : World) (a : Option Addr) (c : Nat) : (convert 63 9 (.slice a 0 c)).run Tryz.prog w = .ok (.string (B [])) w := by
  have h := run_convert_bytes_string (P := Tryz.prog) w 63 9 5 a 0 c Tryz.underlying63 Tryz.underlying5 Tryz.underlying9
  rw [h]
  cases a <;> (simp [Conv.bytesToString, loadCells]; rfl)
theorem own_text {w : World} {base : Nat} {v : Value} {l : List UInt8} (h : w.ownsRow base 5 1 v l.length (l.map BV)) : (convert 63 9 v).run Tryz.prog w = .ok (.string (B l)) w := by
  obtain ⟨ob, hs, -⟩ := Sl.of_own h
  have e : strOfNums (l.map fun x => (x.toNat : Int)) = B l := by
    unfold strOfNums
    rw [List.map_map]
    have : ((fun n => UInt8.ofNat n.toNat) ∘ fun (x : UInt8) => (x.toNat : Int)) = id := by funext x; simp
    rw [this, List.map_id]
    rfl
  rcases hs.2 with ⟨rfl, h0⟩ | ⟨off, sp, cap, rfl, h1, h2, h3, h4⟩
  · obtain rfl : l = [] := List.eq_nil_of_length_eq_zero h0
    exact empty_text w _ _
  · by_cases h0 : l = []
    · subst h0
      exact empty_text w _ _
    · have hl : 0 < l.length := List.length_pos_iff.2 h0
      obtain rfl : sp = none := by rcases h3 with h | h; omega; exact h
      rw [← e]
      refine run_convert_bytes_arg (P := Tryz.prog) w _ _ Tryz.underlying63 Tryz.underlying5 ob off l.length cap _ (by simp) (fun i hi => ?_) _ Tryz.underlying9
      have := h4 i (BV l[i]) (by simp [hi])
      rw [this, List.getD_eq_getElem?_getD, List.getElem?_map, List.getElem?_eq_getElem hi]; rfl

theorem own_drewN {w : World} {base e size n : Nat} {v : Value} {xs : List Value} (h : w.ownsRow base e size v n xs) (m : Nat) : (w.drewN m).ownsRow base e size v n xs := h
theorem run_next_byte (W : World) (s : ByteArray) (k : Nat) (h : k + 1 < s.size) : (Instr.index 9 (.string s) (.int .i64 ((k : Int) + 1))).run Tryz.prog W = .ok (.int .u8 ((s[k + 1]'h).toNat : Int)) W := by
  rw [run_index_string (P := Tryz.prog) (w := W) 9 s .i64 ((k : Int) + 1) Tryz.underlying9, dif_pos (by omega)]
  rfl
set_option maxRecDepth 100000 in
set_option maxHeartbeats 2000000 in
theorem quoted_any (w : World) (s : ByteArray) (hs : s.size ≤ 100000) :
    Calls Tryz.prog 47 #[.string s] w fun e w' => e = .returned (TN (quoted (L s))) ∧ Ext [] w w' := by
  have h0 := tb0 w
  have hE := (Ext.refl [] w).alloc (.cells #[.int .i64 0, .int .i64 0, .string E0, .int .u64 0] 29)
  go_enter Tryz.func47, Tryz.ntmps47
  go_wp2
  go_loopw [4, 5] (fun v i wr => ∃ (k : Nat) (acc : List UInt8), 1 ≤ k ∧ acc.length ≤ k ∧ i = .int .i64 k ∧ wr.ownsRow (w.heap.size + 1) 5 1 v acc.length (acc.map BV) ∧ TB wr w.heap.size 0 0 E0 0 ∧ Ext [] w wr ∧ Hid (qscan ((L s).drop k) acc k = qscan ((L s).drop 1) [] 1)) (fun v i _ => s.size - (intOf i).toNat)
  case atStart => exact ⟨1, [], by omega, by simp, rfl, World.ownsRow_nil _ _ _ _, h0, hE, rfl⟩
  case round =>
    obtain ⟨k, acc, hk, ha, rfl, hO, hT, hX, hK⟩ := hrel
    clear h0 hE
    by_cases hlt : k < s.size
    · have hd : (L s).drop k = (s[k]'hlt) :: (L s).drop (k + 1) := List.drop_eq_getElem_cons (show k < (L s).length from hlt)
      have b0 := (s[k]'hlt).toNat_lt
      by_cases h39 : (s[k]'hlt).toNat = 39
      · have he : (s[k]'hlt) = 39 := UInt8.toNat_inj.1 h39
        have t0 : (((s[k]'hlt).toNat : Int) == (((⟨#[39]⟩ : ByteArray)[0]'(by decide)).toNat : Int)) = true := by show (((s[k]'hlt).toNat : Int) == 39) = true; rw [h39]; rfl
        have hcv := fun n => own_text (own_drewN hO n)
        by_cases hend : k + 1 = s.size
        · have hq : quoted (L s) = ended acc (k + 1) := by
            unfold quoted
            rw [← hK.out, hd, he, List.drop_eq_nil_of_le (by have := size_L s; omega), qscan_end]
          have t1 : ((k : Int) + 1 == (s.size : Int)) = true := by simp; omega
          have hen := fun W => ended_any W (B acc) (k + 1) (by show acc.length ≤ _; omega)
          rw [L_B, show ((k + 1 : Nat) : Int) = (k : Int) + 1 by omega] at hen
          rw [← hq] at hen
          clear hq
          obtain ⟨⟨⟨tk, ta, ts, tn⟩, m⟩, hpp⟩ : ∃ p, quoted (L s) = p := ⟨_, rfl⟩
          rw [hpp] at hen
          simp only [TN] at hen
          have HQ := Lib.hid hpp
          clear hpp hd hK he hend h39
          go_wp2
          go_quiet (fail)
          go_wp2
          go_quiet (fail)
          go_wp2_with (first
            | (go_at_call 60; refine (hen _).mono ?_; rintro e w1 ⟨rfl, h1⟩; have hT1 := (hT.ext ((Ext.refl [] wr).drewN _) (by simp)).ext h1 (by simp))
            | ((with_reducible refine at_store_T ?_); refine wpList_store_T rfl _ _ rfl rfl rfl (hT1) ?_; intro w9 hT9 h9))
          exact ret_T Tryz.results47 rfl hT9 rfl ⟨by rw [HQ.out]; rfl, ((hX.drewN _).trans h1).trans' h9 (by simp)⟩
        · have hlt2 : k + 1 < s.size := by omega
          have hd2 : (L s).drop (k + 1) = (s[k + 1]'hlt2) :: (L s).drop (k + 2) := List.drop_eq_getElem_cons (show k + 1 < (L s).length from hlt2)
          have b1 := (s[k + 1]'hlt2).toNat_lt
          have t1 : ((k : Int) + 1 == (s.size : Int)) = false := by simp; omega
          have hix := fun W => run_next_byte W s k hlt2
          by_cases h2 : (s[k + 1]'hlt2).toNat = 39
          · have he2 : (s[k + 1]'hlt2) = 39 := UInt8.toNat_inj.1 h2
            have t2 : (((s[k + 1]'hlt2).toNat : Int) != (((⟨#[39]⟩ : ByteArray)[0]'(by decide)).toNat : Int)) = false := by show (((s[k + 1]'hlt2).toNat : Int) != 39) = false; rw [h2]; rfl
            have hq : Hid (qscan ((L s).drop (k + 2)) (acc ++ [s[k + 1]'hlt2]) (k + 2) = qscan ((L s).drop 1) [] 1) := by
              show _ = _
              rw [← hK.out, hd, hd2, he, he2, qscan_two]
            clear hd hd2 hK hcv he he2 hend h39 h2
            go_wp2
            go_quiet (fail)
            go_wp2
            go_quiet (fail)
            go_wp2_with (at_builtin; refine wpList_append_sl T8 rfl (.tmp 36) (.tmp 40) rfl rfl ((own_drewN hO _).alloc _) rfl (Sl.one (wr.drewN _) _ _) (by intro u hu; simp at hu; subst hu; rfl) (by unfold maxLen; omega) (by omega) (by have := hX.size; simp; omega) ?_; intro v' w3 hO' h3; have hX' := ((hX.drewN _).alloc (.cells #[.int .u8 ((s[k + 1]'hlt2).toNat : Int)] 5)).trans' h3 (fun i hi => .inr (by have := own_ge hO i hi; omega)); have hT' := (hT.ext (((Ext.refl [] wr).drewN _).alloc (.cells #[.int .u8 ((s[k + 1]'hlt2).toNat : Int)] 5)) (by simp)).ext h3 (fun m => by have := own_ge hO _ m; omega))
            go_roundw
            case rel => exact ⟨k + 2, acc ++ [s[k + 1]'hlt2], by omega, by simp; omega, by go_num, by simpa [BV] using hO', hT', hX', hq⟩
            case measure => simp [intOf]; omega
          · have hne2 : (s[k + 1]'hlt2) ≠ 39 := fun e => h2 (by rw [e]; rfl)
            have hq : quoted (L s) = ended acc (k + 1) := by
              unfold quoted
              rw [← hK.out, hd, hd2, he, qscan_stop _ _ _ hne2]
            have t2 : (((s[k + 1]'hlt2).toNat : Int) != (((⟨#[39]⟩ : ByteArray)[0]'(by decide)).toNat : Int)) = true := by show (((s[k + 1]'hlt2).toNat : Int) != 39) = true; simp; omega
            have hen := fun W => ended_any W (B acc) (k + 1) (by show acc.length ≤ _; omega)
            rw [L_B, show ((k + 1 : Nat) : Int) = (k : Int) + 1 by omega] at hen
            rw [← hq] at hen
            clear hq
            obtain ⟨⟨⟨tk, ta, ts, tn⟩, m⟩, hpp⟩ : ∃ p, quoted (L s) = p := ⟨_, rfl⟩
            rw [hpp] at hen
            simp only [TN] at hen
            have HQ := Lib.hid hpp
            clear hpp hd hK he hend h39 hd2 hne2 h2
            go_wp2
            go_quiet (fail)
            go_wp2
            go_quiet (fail)
            go_wp2_with (first
              | (go_at_call 60; refine (hen _).mono ?_; rintro e w1 ⟨rfl, h1⟩; have hT1 := (hT.ext ((Ext.refl [] wr).drewN _) (by simp)).ext h1 (by simp))
              | ((with_reducible refine at_store_T ?_); refine wpList_store_T rfl _ _ rfl rfl rfl (hT1) ?_; intro w9 hT9 h9))
            exact ret_T Tryz.results47 rfl hT9 rfl ⟨by rw [HQ.out]; rfl, ((hX.drewN _).trans h1).trans' h9 (by simp)⟩
      · have hne : (s[k]'hlt) ≠ 39 := fun e => h39 (by rw [e]; rfl)
        have hq : Hid (qscan ((L s).drop (k + 1)) (acc ++ [s[k]'hlt]) (k + 1) = qscan ((L s).drop 1) [] 1) := by
          show _ = _
          rw [← hK.out, hd, qscan_plain _ _ _ hne]
        have t1 : (((s[k]'hlt).toNat : Int) == (((⟨#[39]⟩ : ByteArray)[0]'(by decide)).toNat : Int)) = false := by show (((s[k]'hlt).toNat : Int) == 39) = false; simp; omega
        clear hd hne hK
        go_wp2
        go_quiet (fail)
        go_wp2_with (at_builtin; refine wpList_append_sl T8 rfl (.tmp 36) (.tmp 40) rfl rfl ((own_drewN hO nq).alloc _) rfl (Sl.one (wr.drewN nq) _ _) (by intro u hu; simp at hu; subst hu; rfl) (by unfold maxLen; omega) (by omega) (by have := hX.size; simp; omega) ?_; intro v' w3 hO' h3; have hX' := ((hX.drewN nq).alloc (.cells #[.int .u8 ((s[k]'hlt).toNat : Int)] 5)).trans' h3 (fun i hi => .inr (by have := own_ge hO i hi; omega)); have hT' := (hT.ext (((Ext.refl [] wr).drewN nq).alloc (.cells #[.int .u8 ((s[k]'hlt).toNat : Int)] 5)) (by simp)).ext h3 (fun m => by have := own_ge hO _ m; omega))
        go_roundw
        case rel => exact ⟨k + 1, acc ++ [s[k]'hlt], by omega, by simp; omega, by go_num, by simpa [BV] using hO', hT', hX', hq⟩
        case measure => simp [intOf]; omega
    · have hq : quoted (L s) = (Tok.zero, 0) := by
        unfold quoted
        rw [← hK.out, List.drop_eq_nil_of_le (by have := size_L s; omega)]
        rfl
      have HQ := Lib.hid hq
      clear hq hO hK
      go_wp2_with ((with_reducible refine at_store_T ?_); refine wpList_store_T rfl _ _ rfl rfl rfl (hT) ?_; intro w9 hT9 h9)
      exact ret_T Tryz.results47 rfl hT9 rfl ⟨by rw [HQ.out]; rfl, hX.trans' h9 (by simp)⟩
end Go.Proofs.YtbenfgkomphlfaaGreatDoor
