/-
  The reference of names: Upper, IsName (as LexRB, over the catalog's seats).
-/
import Derived.Test.YtjmfcjidhmaibaaGreatDoorCatRA
namespace Go.Proofs.YtjmfcjidhmaibaaGreatDoor
open Go.RowKit
open Go.Lib hiding intOf
set_option linter.unusedVariables false

def BV (x : UInt8) : Value := .int .u8 (x.toNat : Int)
theorem BV_one (l : List UInt8) : ∀ u ∈ l.map BV, u.oneCell' = true := by
  intro u hu
  obtain ⟨x, _, rfl⟩ := List.mem_map.1 hu
  rfl
theorem T8 : SliceTy Tryz.prog 47 5 1 1 (.int .u8 0) := .mk' Tryz.underlying47 (by kernel_rfl) rfl (by decide)
theorem empty_text (w : World) (a : Option Addr) (c : Nat) : (convert 47 9 (.slice a 0 c)).run Tryz.prog w = .ok (.string (B [])) w := by
  have h := run_convert_bytes_string (P := Tryz.prog) w 47 9 5 a 0 c Tryz.underlying47 Tryz.underlying5 Tryz.underlying9
  rw [h]
  cases a <;> (simp [Conv.bytesToString, loadCells]; rfl)
theorem own_text {w : World} {base : Nat} {v : Value} {l : List UInt8} (h : w.ownsRow base 5 1 v l.length (l.map BV)) : (convert 47 9 v).run Tryz.prog w = .ok (.string (B l)) w := by
  obtain ⟨ob, hs, -⟩ := Sl.of_own h
  have e : strOfNums (l.map fun x => (x.toNat : Int)) = B l := by
    unfold strOfNums
    rw [List.map_map]
    have : ((fun n => UInt8.ofNat n.toNat) ∘ fun (x : UInt8) => (x.toNat : Int)) = id := by funext x; simp
    rw [this, List.map_id]
    rfl
  rcases hs.2 with ⟨rfl, h0⟩ | ⟨off, sp, cap, rfl, h1, h2, h3, h4⟩
  · obtain rfl : l = [] := List.eq_nil_of_length_eq_zero h0
    exact empty_text w _ _
  · by_cases h0 : l = []
    · subst h0
      exact empty_text w _ _
    · have hl : 0 < l.length := List.length_pos_iff.2 h0
      obtain rfl : sp = none := by rcases h3 with h | h; omega; exact h
      rw [← e]
      refine run_convert_bytes_arg (P := Tryz.prog) w _ _ Tryz.underlying47 Tryz.underlying5 ob off l.length cap _ (by simp) (fun i hi => ?_) _ Tryz.underlying9
      have := h4 i (BV l[i]) (by simp [hi])
      rw [this, List.getD_eq_getElem?_getD, List.getElem?_map, List.getElem?_eq_getElem hi]; rfl

set_option maxRecDepth 100000 in
set_option maxHeartbeats 1000000 in
theorem Upper_any (w : World) (s : ByteArray) (hs : s.size ≤ 1000000) :
    Calls Tryz.prog 65 #[.string s] w fun e w' => e = .returned (.string (B (toUpperA (L s)))) ∧ Ext [] w w' := by
  have hlen : (toUpperA (L s)).length = s.size := by unfold toUpperA; rw [List.length_map, ← size_L]
  have hmap : ∀ (k : Nat) (hk : k < s.size), (toUpperA (L s))[k]? = some (upperB (s[k]'hk)) := by
    intro k hk
    unfold toUpperA
    rw [List.getElem?_map, List.getElem?_eq_getElem (show k < (L s).length from hk)]
    rfl
  generalize toUpperA (L s) = u at *
  go_enter Tryz.func65, Tryz.ntmps65
  go_wp2
  go_loopw [3, 4] (fun v i wr => ∃ k : Nat, k ≤ s.size ∧ i = .int .i64 k ∧ wr.ownsRow w.heap.size 5 1 v k ((u.take k).map BV) ∧ Ext [] w wr) (fun v i _ => s.size - (intOf i).toNat)
  case atStart => exact ⟨0, by omega, rfl, World.ownsRow_nil _ _ _ _, Ext.refl _ _⟩
  case round =>
    obtain ⟨k, hk, rfl, hO, hX⟩ := hrel
    by_cases hlt : k < s.size
    · have b0 := (s[k]'hlt).toNat_lt
      have hx := hmap k hlt
      have hu : (u.take (k + 1)).map BV = (u.take k).map BV ++ [.int .u8 ((upperB (s[k]'hlt)).toNat : Int)] := by
        rw [List.take_add_one, hx, List.map_append]
        rfl
      have sm := fun W => rsmall_any W (s[k]'hlt)
      cases hc : smallB (s[k]'hlt)
      · rw [hc] at sm
        have hup : upperB (s[k]'hlt) = s[k]'hlt := upperB_of_not _ (by rw [isLowerB_int]; exact hc)
        rw [hup] at hu
        clear hx hmap hc hup
        go_wp2_with (first
          | (go_at_call 63; refine (sm _).mono ?_; rintro e w1 ⟨rfl, rfl⟩)
          | (at_builtin; refine wpList_append_sl T8 rfl (.tmp 20) (.tmp 22) rfl rfl (hO.alloc _) rfl (Sl.one wr _ _) (by intro u hu; simp at hu; subst hu; rfl) (by unfold maxLen; omega) (by omega) (by have := hX.size; simp; omega) ?_; intro v' w3 hO' h3; have hX3 := (hX.alloc (.cells #[.int .u8 ((s[k]'hlt).toNat : Int)] 5)).trans' h3 (fun i hi => .inr (own_ge hO i hi))))
        go_roundw
        case rel => exact ⟨k + 1, by omega, by go_num, by rw [hu]; exact hO', hX3⟩
        case measure => simp [intOf]; omega
      · rw [hc] at sm
        have hup := upperB_int (s[k]'hlt) (by rw [isLowerB_int]; exact hc)
        have hcb : 97 ≤ ((s[k]'hlt).toNat : Int) ∧ ((s[k]'hlt).toNat : Int) ≤ 122 := by unfold smallB at hc; simpa using hc
        obtain ⟨hc1, hc2⟩ := hcb
        rw [hup, show ((s[k]'hlt).toNat : Int) - 32 = ((s[k]'hlt).toNat : Int) - 97 + 65 by omega] at hu
        clear hx hmap hc hup
        go_wp2_with (first
          | (go_at_call 63; refine (sm _).mono ?_; rintro e w1 ⟨rfl, rfl⟩)
          | (at_builtin; refine wpList_append_sl T8 rfl (.tmp 20) (.tmp 22) rfl rfl (hO.alloc _) rfl (Sl.one wr _ _) (by intro u hu; simp at hu; subst hu; rfl) (by unfold maxLen; omega) (by omega) (by have := hX.size; simp; omega) ?_; intro v' w3 hO' h3; have hX3 := (hX.alloc (.cells #[.int .u8 (((s[k]'hlt).toNat : Int) - 97 + 65)] 5)).trans' h3 (fun i hi => .inr (own_ge hO i hi))))
        go_roundw
        case rel => exact ⟨k + 1, by omega, by go_num, by rw [hu]; exact hO', hX3⟩
        case measure => simp [intOf]; omega
    · obtain rfl : k = s.size := by omega
      rw [List.take_of_length_le (by omega)] at hO
      have hcv := own_text (show wr.ownsRow w.heap.size 5 1 _ u.length (u.map BV) by rw [hlen]; exact hO)
      go_wp2
      go_ret
      exact ⟨rfl, hX⟩

/-! ## IsName -/
def nameB (c : UInt8) : Bool := smallB c || digitB c || (c == 95)
theorem nameB_spans (c : UInt8) : nameB c = spans cName c := by
  rw [Bool.eq_iff_iff]
  simp [nameB, smallB, digitB, spans, ← UInt8.toNat_inj]
  omega
theorem smallB_spans (c : UInt8) : smallB c = spans cSmall c := by
  rw [Bool.eq_iff_iff]
  simp [smallB, spans]
  omega
theorem isName_long {l : List UInt8} (h : l.length < 1 ∨ 16 < l.length) : isName l = false := by
  unfold isName
  rcases h with h | h
  · have : l = [] := List.eq_nil_of_length_eq_zero (by omega)
    subst this
    rfl
  · rw [decide_eq_false (by omega)]
    simp
theorem isName_small {c : UInt8} {r : List UInt8} (h : smallB c = false) : isName (c :: r) = false := by
  unfold isName
  have : (List.take 1 (c :: r)).all (spans cSmall) = false := by simp [← smallB_spans, h]
  rw [this]
  simp
theorem isName_word {l : List UInt8} (h : isWord (toUpperA l) = true) : isName l = false := by
  unfold isName
  rw [h]
  simp
theorem isName_other {l : List UInt8} {c : UInt8} (hm : c ∈ l) (h : nameB c = false) : isName l = false := by
  unfold isName
  have : l.all (spans cName) = false := List.all_eq_false.2 ⟨c, hm, by rw [← nameB_spans, h]; simp⟩
  rw [this]
  simp
theorem isName_yes {c : UInt8} {r : List UInt8} (h1 : (c :: r).length ≤ 16) (h2 : smallB c = true) (h3 : isWord (toUpperA (c :: r)) = false) (h4 : (c :: r).all nameB = true) : isName (c :: r) = true := by
  unfold isName
  have e1 : (List.take 1 (c :: r)).all (spans cSmall) = true := by simp [← smallB_spans, h2]
  have e2 : (c :: r).all (spans cName) = true := by rw [← h4]; congr 1; funext x; exact (nameB_spans x).symm
  rw [e1, e2, h3, decide_eq_true h1]
  rfl
theorem rIsName_out (w : World) (s : ByteArray) (h : (s.size : Int) < 1 ∨ 16 < (s.size : Int)) :
    Calls Tryz.prog 39 #[.string s] w fun e w' => e = .returned (.bool (isName (L s))) ∧ Ext [] w w' := by
  rw [isName_long (by rw [← size_L]; omega)]
  by_cases h1 : (s.size : Int) < 1
  · clear h
    go_enter Tryz.func39, Tryz.ntmps39
    go_wp2
    go_ret
    exact ⟨rfl, Ext.refl _ _⟩
  · have h2 : 16 < (s.size : Int) := by omega
    clear h
    go_enter Tryz.func39, Tryz.ntmps39
    go_wp2
    go_ret
    exact ⟨rfl, Ext.refl _ _⟩
set_option maxRecDepth 100000 in
set_option maxHeartbeats 1000000 in
theorem rIsName_in (w : World) (s : ByteArray) (h1 : 1 ≤ (s.size : Int)) (h2 : (s.size : Int) ≤ 16) :
    Calls Tryz.prog 39 #[.string s] w fun e w' => e = .returned (.bool (isName (L s))) ∧ Ext [] w w' := by
  have hlt0 : 0 < s.size := by omega
  have hL : L s = (s[0]'hlt0) :: (L s).drop 1 := by
    exact List.drop_eq_getElem_cons (l := L s) (i := 0) hlt0
  have b0 := (s[0]'hlt0).toNat_lt
  have sm0 := fun W => rsmall_any W (s[0]'hlt0)
  have up := fun W => Upper_any W s (by omega)
  have iw := fun W => rIsWord_any W (toUpperA (L s))
  cases hc : smallB (s[0]'hlt0)
  · rw [hc] at sm0
    have hN : isName (L s) = false := by rw [hL]; exact isName_small hc
    rw [hN]
    clear hL hN hc
    go_enter Tryz.func39, Tryz.ntmps39
    go_wp2_with (go_at_call 63; refine (sm0 _).mono ?_; rintro e w1 ⟨rfl, rfl⟩)
    go_ret
    exact ⟨rfl, Ext.refl _ _⟩
  · rw [hc] at sm0
    cases hw : isWord (toUpperA (L s))
    · rw [hw] at iw
      have hyes : (L s).all nameB = true → isName (L s) = true := fun h => by
        rw [hL] at hw h ⊢
        exact isName_yes (by rw [← hL, ← size_L]; omega) hc hw h
      have hno : ∀ c ∈ L s, nameB c = false → isName (L s) = false := fun c hm h => isName_other hm h
      have HH := Lib.hid (And.intro hyes hno)
      clear hyes hno hL hw hc
      generalize isName (L s) = R at *
      generalize toUpperA (L s) = u at *
      go_enter Tryz.func39, Tryz.ntmps39
      go_wp2_with (first
        | (go_at_call 63; refine (sm0 _).mono ?_; rintro e w1 ⟨rfl, rfl⟩)
        | (go_at_call 65; refine (up _).mono ?_; rintro e w2 ⟨rfl, x2⟩)
        | (go_at_call 64; refine (iw _).mono ?_; rintro e w3 ⟨rfl, x3⟩))
      have hX := x2.trans x3
      clear sm0 up iw
      go_loop [3] (fun i => ∃ k : Nat, k ≤ s.size ∧ i = .int .i64 k ∧ Hid (((L s).take k).all nameB = true)) (fun i => s.size - (intOf i).toNat)
      case atStart => exact ⟨0, by omega, rfl, by simp [Hid]⟩
      case round =>
        obtain ⟨k, hk, rfl, hK⟩ := hrel
        by_cases hlt : k < s.size
        · have hx : (L s)[k]? = some (s[k]'hlt) := List.getElem?_eq_getElem (show k < (L s).length from hlt)
          have b1 := (s[k]'hlt).toNat_lt
          have sm := fun W => rsmall_any W (s[k]'hlt)
          have dg := fun W => digit_any W (s[k]'hlt)
          have hK2 : nameB (s[k]'hlt) = true → Hid (((L s).take (k + 1)).all nameB = true) := fun h => by
            show _ = _
            rw [List.take_add_one, hx, List.all_append, hK.out]
            simp [h]
          have hm := List.mem_of_getElem? hx
          have hq : (((s[k]'hlt).toNat : Int) != 95) = !((s[k]'hlt) == 95) := by
            rw [Bool.eq_iff_iff]
            simp [← UInt8.toNat_inj]
            omega
          unfold nameB at hK2
          have hno := HH.out.2 _ hm
          unfold nameB at hno
          clear hx hm
          cases e1 : smallB (s[k]'hlt)
          · cases e2 : digitB (s[k]'hlt)
            · cases e3 : ((s[k]'hlt) == 95)
              · rw [e1] at sm
                rw [e2] at dg
                rw [e3] at hq
                have hN : Hid (R = false) := hno (by rw [e1, e2, e3]; rfl)
                clear hK2 hno e1 e2 e3
                go_wp2_with (first
                  | (go_at_call 63; refine (sm _).mono ?_; rintro e w4 ⟨rfl, rfl⟩)
                  | (go_at_call 66; refine (dg _).mono ?_; rintro e w5 ⟨rfl, rfl⟩))
                go_ret
                exact ⟨ret_bool hN.out.symm, hX⟩
              · rw [e1] at sm
                rw [e2] at dg
                rw [e3] at hq
                have hN := hK2 (by rw [e1, e2, e3]; rfl)
                clear hK2 hno e1 e2 e3
                go_wp2_with (first
                  | (go_at_call 63; refine (sm _).mono ?_; rintro e w4 ⟨rfl, rfl⟩)
                  | (go_at_call 66; refine (dg _).mono ?_; rintro e w5 ⟨rfl, rfl⟩))
                go_round
                case rel => exact ⟨k + 1, by omega, by go_num, hN⟩
                case measure => simp [intOf]; omega
            · rw [e1] at sm
              rw [e2] at dg
              have hN := hK2 (by rw [e1, e2]; rfl)
              clear hK2 hno e1 e2
              go_wp2_with (first
                | (go_at_call 63; refine (sm _).mono ?_; rintro e w4 ⟨rfl, rfl⟩)
                | (go_at_call 66; refine (dg _).mono ?_; rintro e w5 ⟨rfl, rfl⟩))
              go_round
              case rel => exact ⟨k + 1, by omega, by go_num, hN⟩
              case measure => simp [intOf]; omega
          · rw [e1] at sm
            have hN := hK2 (by rw [e1]; rfl)
            clear hK2 hno e1
            go_wp2_with (first
              | (go_at_call 63; refine (sm _).mono ?_; rintro e w4 ⟨rfl, rfl⟩)
              | (go_at_call 66; refine (dg _).mono ?_; rintro e w5 ⟨rfl, rfl⟩))
            go_round
            case rel => exact ⟨k + 1, by omega, by go_num, hN⟩
            case measure => simp [intOf]; omega
        · have hN : Hid (R = true) := by
            obtain rfl : k = s.size := by omega
            have := hK.out
            rw [List.take_of_length_le (by rw [← size_L]; omega)] at this
            exact HH.out.1 this
          go_wp2
          go_ret
          exact ⟨ret_bool hN.out.symm, hX⟩
    · rw [hw] at iw
      rw [isName_word hw]
      clear hw hc hL
      generalize toUpperA (L s) = u at *
      go_enter Tryz.func39, Tryz.ntmps39
      go_wp2_with (first
        | (go_at_call 63; refine (sm0 _).mono ?_; rintro e w1 ⟨rfl, rfl⟩)
        | (go_at_call 65; refine (up _).mono ?_; rintro e w2 ⟨rfl, x2⟩)
        | (go_at_call 64; refine (iw _).mono ?_; rintro e w3 ⟨rfl, x3⟩))
      go_ret
      exact ⟨rfl, x2.trans x3⟩
theorem rIsName_any (w : World) (s : ByteArray) :
    Calls Tryz.prog 39 #[.string s] w fun e w' => e = .returned (.bool (isName (L s))) ∧ Ext [] w w' := by
  by_cases h : 1 ≤ (s.size : Int) ∧ (s.size : Int) ≤ 16
  · exact rIsName_in w s h.1 h.2
  · exact rIsName_out w s (by omega)
end Go.Proofs.YtjmfcjidhmaibaaGreatDoor
