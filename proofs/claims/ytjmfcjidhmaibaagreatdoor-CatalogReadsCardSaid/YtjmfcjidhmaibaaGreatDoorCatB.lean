/-
  As LexB, over the catalog's seat: strings.Join, ToUpper; class, the byte's class, ahead.
-/
import Derived.Test.YtjmfcjidhmaibaaGreatDoorCatA
import Derived.Shelf.Strings.OnBuilder
namespace Go.Proofs.YtjmfcjidhmaibaaGreatDoor
open Go.RowKit
open Go.Lib hiding intOf
set_option linter.unusedVariables false

def ren156 : Go.Shelf.Ren := ⟨fun | 156 => 38 | 165 => 62 | 166 => 18 | 169 => 20 | 240 => 36 | 241 => 80 | 276 => 61 | 277 => 94 | n => n, fun | 31 => 71 | 9 => 9 | 3 => 3 | 4 => 4 | 0 => 0 | 20 => 20 | 72 => 49 | 76 => 52 | 70 => 46 | 37 => 47 | 75 => 51 | 127 => 74 | 164 => 98 | 5 => 5 | 80 => 55 | n => n, fun | n => n⟩
theorem lays156 : Go.Proofs.Lays.n156 Tryz.prog ren156 := by
  constructor <;> first | kernel_rfl | (intro w; kernel_rfl)
theorem extra156 : Go.Proofs.Builder.Extra Tryz.prog ren156 := by
  constructor <;> first | kernel_rfl | (intro w; kernel_rfl) | decide | (constructor <;> kernel_rfl)
def ren158 : Go.Shelf.Ren := ⟨fun | 158 => 76 | 165 => 62 | 166 => 18 | 167 => 91 | 169 => 20 | 230 => 92 | 203 => 93 | 240 => 36 | 241 => 80 | 197 => 98 | 118 => 100 | 168 => 101 | 270 => 102 | 262 => 103 | 276 => 61 | 277 => 94 | 260 => 104 | 242 => 105 | 313 => 106 | 278 => 107 | 274 => 108 | 275 => 109 | n => n, fun | 9 => 9 | 4 => 4 | 3 => 3 | 5 => 5 | 72 => 49 | 0 => 0 | 76 => 52 | 75 => 51 | 107 => 121 | 70 => 46 | 20 => 20 | 37 => 47 | 127 => 74 | 21 => 21 | 105 => 126 | 164 => 98 | 162 => 135 | 203 => 133 | 119 => 136 | 46 => 115 | 139 => 139 | 138 => 138 | 51 => 123 | 160 => 140 | 208 => 146 | 206 => 144 | 80 => 55 | n => n, fun | 13 => 3 | 3 => 4 | 4 => 5 | n => n⟩
theorem lays158 : Go.Proofs.Lays.n158 Tryz.prog ren158 := by
  constructor <;> first | kernel_rfl | (intro w; kernel_rfl)
theorem extra158 : Go.Proofs.Builder.Extra Tryz.prog ren158 := by
  constructor <;> first | kernel_rfl | (intro w; kernel_rfl) | decide | (constructor <;> kernel_rfl)

def ascii (l : List UInt8) : Bool := l.all fun b => decide (b.toNat < 128)
theorem ToUpper_any (w : World) (s : ByteArray) (hl : s.size ≤ 1000000) (ha : ascii (L s) = true) :
    Calls Tryz.prog 76 #[.string s] w fun e w' => e = .returned (.string (B (toUpperA (L s)))) ∧ Ext [] w w' :=
  (Any.strings_ToUpper_ascii lays158 extra158 s w (by omega) (fun j b hb => by
    have := List.all_eq_true.1 ha b (List.mem_of_getElem? hb)
    simpa using this)).mono fun e w' h => ⟨h.1, Ext.ofBelow h.2⟩
theorem Join_any (w : World) (v : Value) (ob : Nat) (xs : List ByteArray) (sep : ByteArray) (h : Sl w v ob 1 xs.length (xs.map Value.string)) (hn : xs.length ≤ 1000000) (hl : (join (xs.map L) (L sep)).length ≤ 140737488355328) :
    Calls Tryz.prog 38 #[v, .string sep] w fun e w' => e = .returned (.string (B (join (xs.map L) (L sep)))) ∧ Ext [] w w' := by
  have none : ∀ a c, Calls Tryz.prog 38 #[.slice a 0 c, .string sep] w fun e w' => e = .returned (.string (B (join ([].map L) (L sep)))) ∧ Ext [] w w' := fun a c =>
    (Any.strings_Join_none lays156 extra156 a c sep w).mono fun e w' h => ⟨h.1, by rw [h.2]; exact Ext.refl _ _⟩
  rcases h.2 with ⟨rfl, h0⟩ | ⟨off, sp, cap, rfl, h1, h2, h3, h4⟩
  · obtain rfl : xs = [] := List.eq_nil_of_length_eq_zero h0
    exact none _ _
  · by_cases h0 : xs = []
    · subst h0; exact none _ _
    · obtain rfl : sp = Option.none := by
        rcases h3 with h3 | h3
        · exact absurd (List.eq_nil_of_length_eq_zero h3) h0
        · exact h3
      have hc : ∀ (j : Nat) x, xs[j]? = some x → w.cell? ⟨ob, off + j, Option.none⟩ = some (.string x) := fun j x hx => h4 j _ (by simp [hx])
      have hlt : ob < w.heap.size := by
        obtain ⟨x, r, rfl⟩ := List.exists_cons_of_ne_nil h0
        exact World.block_lt_of_cell? _ _ (hc 0 x rfl)
      refine (Any.strings_Join lays156 extra156 ob off cap xs sep w hc hlt (by omega) h1 hl).mono fun e w' h => ⟨h.1, Ext.ofBelow h.2⟩

/-! ## class -/
/-- f is the class whose spans all is -/
def ClassF (w : World) (f : Value) (all : List UInt8) : Prop := ∃ b, f = .func (.func 90) #[] #[.pointer (some ⟨b, 0, none⟩)] ∧ w.cell? ⟨b, 0, none⟩ = some (.string (B all))
theorem ClassF.ext {w w' : World} {f : Value} {all : List UInt8} (h : ClassF w f all) (e : Ext [] w w') : ClassF w' f all := by
  obtain ⟨b, h1, h2⟩ := h
  exact ⟨b, h1, e.read h2 (by simp)⟩
theorem class_any (w : World) (v : Value) (ob : Nat) (xs : List ByteArray) (all : List UInt8) (h : Sl w v ob 1 xs.length (xs.map Value.string)) (hx : join (xs.map L) [] = all) (hn : xs.length ≤ 1000000) (hl : all.length ≤ 1000000) :
    Calls Tryz.prog 74 #[v] w fun e w' => (∃ f, e = .returned f ∧ ClassF w' f all) ∧ Ext [] w w' := by
  subst hx
  have hj := Join_any w v ob xs (B []) h hn (by rw [L_B]; omega)
  rw [L_B] at hj
  generalize join (xs.map L) [] = all at *
  go_enter Tryz.func74, Tryz.ntmps74
  go_wp2_with (go_at_call 38; refine hj.mono ?_; rintro e w1 ⟨rfl, h1⟩)
  go_ret
  exact ⟨⟨_, rfl, _, rfl, by simp⟩, h1.alloc _⟩
theorem bit_any (w : World) (b : Nat) (r : Int) (s : ByteArray) (hr : -2147483648 ≤ r) (hr2 : r ≤ 2147483647) (hl : s.size ≤ 1000000) (hc : w.cell? ⟨b, 0, none⟩ = some (.string s)) :
    Calls Tryz.prog 90 #[.int .i32 r, .pointer (some ⟨b, 0, none⟩)] w fun e w' => e = .returned (.bool (spansI (L s) r)) ∧ w = w' := by
  go_enter Tryz.func90, Tryz.ntmps90
  go_wp2
  go_loop [4] (fun i => ∃ k : Nat, k ≤ s.size ∧ i = .int .i64 k ∧ Hid (spansI (L s) r = spansI ((L s).drop k) r)) (fun i => s.size - (intOf i).toNat)
  case atStart => exact ⟨0, by omega, rfl, rfl⟩
  case round =>
    obtain ⟨k, hk, rfl, hK⟩ := hrel
    by_cases hlt : k + 1 < s.size
    · have h0 : k < s.size := by omega
      have hd : spansI ((L s).drop k) r = ((decide (((s[k]'h0).toNat : Int) ≤ r) && decide (r ≤ ((s[k + 1]'hlt).toNat : Int))) || spansI ((L s).drop (k + 2)) r) := by
        rw [List.drop_eq_getElem_cons (show k < (L s).length from h0), List.drop_eq_getElem_cons (show k + 1 < (L s).length from hlt)]
        rfl
      have HD := Lib.hid hd; clear hd
      have b0 := (s[k]'h0).toNat_lt
      have b1 := (s[k + 1]'hlt).toNat_lt
      go_wp2
      · go_ret
        exact ⟨ret_bool (by rw [hK.out, HD.out]; simp [*]), rfl⟩
      all_goals exact ⟨⟨k + 2, by omega, by go_num, by show _ = _; rw [hK.out, HD.out]; first | (simp [*]; done) | (simp [*]; omega)⟩, by simp [intOf]; omega⟩
    · have hd : spansI ((L s).drop k) r = false := by
        have : ((L s).drop k).length ≤ 1 := by rw [List.length_drop]; have := size_L s; omega
        match h : (L s).drop k, this with
        | [], _ => rfl
        | [x], _ => rfl
      have HD := Lib.hid hd; clear hd
      go_wp2
      go_ret
      exact ⟨ret_bool (by rw [hK.out, HD.out]), rfl⟩
theorem ClassF.asks {w : World} {f : Value} {all : List UInt8} (h : ClassF w f all) (hl : all.length ≤ 1000000) : ∃ b, f = .func (.func 90) #[] #[.pointer (some ⟨b, 0, none⟩)] ∧
    (∀ c : UInt8, Calls Tryz.prog 90 #[.int .i32 (c.toNat : Int), .pointer (some ⟨b, 0, none⟩)] w fun e w' => e = .returned (.bool (spans all c)) ∧ w = w') ∧
    (∀ r : Int, 127 < r → r ≤ 1114111 → (∀ b ∈ all, b.toNat < 128) → Calls Tryz.prog 90 #[.int .i32 r, .pointer (some ⟨b, 0, none⟩)] w fun e w' => e = .returned (.bool false) ∧ w = w') := by
  obtain ⟨b, rfl, hc⟩ := h
  refine ⟨b, rfl, fun c => ?_, fun r h1 h2 h3 => ?_⟩
  · have := c.toNat_lt
    have := bit_any w b (c.toNat : Int) (B all) (by omega) (by omega) hl hc
    rwa [L_B, spansI_byte] at this
  · have := bit_any w b r (B all) (by omega) (by omega) hl hc
    rwa [L_B, spansI_far all r (fun x hx => by have := h3 x hx; omega)] at this
theorem ahead_here (c l : List UInt8) (k : Nat) (h1 : (l.take k).all (spans c) = true) (h2 : ∀ x, l[k]? = some x → spans c x = false) (hk : k ≤ l.length) : ahead c l = k := by
  unfold ahead
  have e : l.takeWhile (spans c) = l.take k := by
    conv => lhs; rw [← List.take_append_drop k l]
    rw [List.takeWhile_append_of_pos (fun a ha => List.all_eq_true.1 h1 a ha)]
    cases hd : l.drop k with
    | nil => simp
    | cons x r =>
      have hx : l[k]? = some x := by
        have := congrArg (·[0]?) hd
        simpa using this
      rw [List.takeWhile_cons, h2 x hx]
      simp
  rw [e, List.length_take]
  omega
theorem ahead_any (w : World) (s : ByteArray) (f : Value) (all : List UInt8) (hf : ClassF w f all) (hl : all.length ≤ 1000000) (hs : s.size ≤ 1000000) :
    Calls Tryz.prog 73 #[.string s, f] w fun e w' => e = .returned (.int .i64 (ahead all (L s))) ∧ w = w' := by
  obtain ⟨b, rfl, hb, -⟩ := hf.asks hl
  go_enter Tryz.func73, Tryz.ntmps73
  go_wp2
  go_loop [5] (fun i => ∃ k : Nat, k ≤ s.size ∧ i = .int .i64 k ∧ Hid (((L s).take k).all (spans all) = true)) (fun i => s.size - (intOf i).toNat)
  case atStart => exact ⟨0, by omega, rfl, by simp [Hid]⟩
  case round =>
    obtain ⟨k, hk, rfl, hK⟩ := hrel
    by_cases hlt : k < s.size
    · have hx : (L s)[k]? = some (s[k]'hlt) := List.getElem?_eq_getElem (show k < (L s).length from hlt)
      have hB := hb (s[k]'hlt)
      have b0 := (s[k]'hlt).toNat_lt
      cases hc : spans all (s[k]'hlt)
      · have he := ahead_here all (L s) k hK.out (fun x h => by rw [hx] at h; cases h; exact hc) hk
        rw [hc] at hB
        have HE := Lib.hid he
        clear he hc hx
        go_wp2_with (go_at_call 90; refine hB.mono ?_; rintro e w1 ⟨rfl, rfl⟩)
        go_ret
        exact ⟨ret_int (by rw [HE.out]), rfl⟩
      · have hk' : Hid (((L s).take (k + 1)).all (spans all) = true) := by
          show _ = _
          rw [List.take_add_one, hx, List.all_append, hK.out]
          simp [hc]
        rw [hc] at hB
        clear hc hx
        go_wp2_with (go_at_call 90; refine hB.mono ?_; rintro e w1 ⟨rfl, rfl⟩)
        go_round
        case rel => exact ⟨k + 1, by omega, by go_num, hk'⟩
        case measure => simp [intOf]; omega
    · have he := ahead_here all (L s) k hK.out (fun x h => by rw [List.getElem?_eq_none (by have := size_L s; omega)] at h; cases h) hk
      have HE := Lib.hid he
      clear he
      go_wp2
      go_ret
      exact ⟨ret_int (by rw [HE.out]), rfl⟩
end Go.Proofs.YtjmfcjidhmaibaaGreatDoor
