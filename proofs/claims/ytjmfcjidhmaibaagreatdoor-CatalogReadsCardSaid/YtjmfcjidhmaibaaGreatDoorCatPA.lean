
/-
  A line's parts: kindOf, keysOf.
-/
import Derived.Test.YtjmfcjidhmaibaaGreatDoorCatZ
import Derived.Test.YtjmfcjidhmaibaaGreatDoorCatRA
namespace Go.Proofs.YtjmfcjidhmaibaaGreatDoor
open Go.RowKit
open Go.Lib hiding intOf
set_option linter.unusedVariables false

theorem run_kind (w : World) (k : Nat) (hk : k < 4) : (Instr.index 100 (.agg kindsV) (.int .i64 (k : Int))).run Tryz.prog w = .ok (.string (B (kw k))) w :=
  run_index_arr w _ 4 _ k _ Tryz.underlying100 hk (kindsV_at k hk) rfl
theorem at_load_kinds {P : Program} {ops : Array Oper} {rest : List Oper} {a : Act} {w : World} {Q : Exit → Act → World → Prop} {dst : Option Tmp} {x : Operand} {ty : TypeId} {pos : String} {after : Array Edge} {g : Option (Nat × Bool)}
    (h : wpList P ops Q ({ dst, op := .load 100 x, type := ty, pos, after, guard := g } :: rest) a w) :
    wpList P ops Q ({ dst, op := .load 100 x, type := ty, pos, after, guard := g } :: rest) a w := h
theorem kindW_at {k : Nat} (hk : k < 4) : kindW (kw k) = k := by
  match k, hk with
  | 0, _ => decide
  | 1, _ => decide
  | 2, _ => decide
  | 3, _ => decide
theorem kindW_out {s : W8} (h : ∀ j : Nat, j < 4 → s ≠ kw j) : kindW s = 0 := by
  unfold kindW
  have h1 : s ≠ [98, 111, 111, 108] := h 1 (by decide)
  have h2 : s ≠ [105, 110, 116] := h 2 (by decide)
  have h3 : s ≠ [116, 101, 120, 116] := h 3 (by decide)
  rw [if_neg h1, if_neg h2, if_neg h3]
set_option maxHeartbeats 1000000 in
theorem kindOf_any (w : World) (s : W8) (hG : Glob w) :
    Calls Tryz.prog 46 #[.string (B s)] w fun e w' => e = .returned (.int .i64 (kindW s)) ∧ w = w' := by
  obtain ⟨t, fr, hg⟩ := hG.kinds
  go_enter Tryz.func46, Tryz.ntmps46
  go_wp2_with ((with_reducible refine at_load_kinds ?_); refine wpList_load_row rfl _ _ rfl 0 rfl t kindsV fr _ hg Tryz.underlying100 rfl (by kernel_rfl) ?_)
  clear hg
  go_loop [6] (fun i => ∃ k : Nat, k ≤ 4 ∧ i = .int .i64 k ∧ Hid (∀ j : Nat, j < k → s ≠ kw j)) (fun i => 4 - (intOf i).toNat)
  case atStart => exact ⟨0, by omega, rfl, fun j hj => by omega⟩
  case round =>
    obtain ⟨k, hk, rfl, hK⟩ := hrel
    by_cases hlt : k < 4
    · have hix := fun w => run_kind w k hlt
      by_cases he : s = kw k
      · have hb : ((B (kw k)).toList == (B s).toList) = true := by rw [toList_beq, he]; simp
        have hw : Hid (kindW s = k) := by show _ = _; rw [he]; exact kindW_at hlt
        clear he
        go_wp2
        go_ret
        exact ⟨ret_int hw.out.symm, rfl⟩
      · have hb : ((B (kw k)).toList == (B s).toList) = false := by rw [toList_beq]; simpa using fun e => he e.symm
        have hs : Hid (∀ j : Nat, j < k + 1 → s ≠ kw j) := by
          show ∀ j : Nat, _
          intro j hj
          by_cases e : j = k
          · subst e; exact he
          · exact hK.out j (by omega)
        clear he
        go_wp2
        go_round
        case rel => exact ⟨k + 1, by omega, by go_num, hs⟩
        case measure => simp [intOf]; omega
    · have hw : Hid (kindW s = 0) := by
        obtain rfl : k = 4 := by omega
        show _ = _
        exact kindW_out hK.out
      go_wp2
      go_ret
      exact ⟨ret_int hw.out.symm, rfl⟩
theorem Is.own {w : World} {base e : Nat} {v : Value} {ks : List Int} (h : w.ownsRow base e 1 v ks.length (ks.map IV)) : ∃ o, base ≤ o ∧ Is w v o ks := by
  obtain ⟨o, h1, h2⟩ := Sl.of_own h
  rcases h2 with rfl | ⟨h2, -⟩
  · exact ⟨base, Nat.le_refl _, Sl.any_none h1 base⟩
  · exact ⟨o, h2, h1⟩
theorem keysW_take {cs : List Col} {b : List W8} {k : Nat} {w : W8} {ks : List Int} (h : keysW cs (b.take k) = some ks) (hw : b[k]? = some w) :
    keysW cs (b.take (k + 1)) = if fnd (cs.map Col.n) (B w) < cs.length then some (ks ++ [(fnd (cs.map Col.n) (B w) : Int)]) else none := by
  induction k generalizing b ks with
  | zero =>
    cases b with
    | nil => simp at hw
    | cons x r =>
      obtain rfl : x = w := by simpa using hw
      obtain rfl : ks = [] := by simpa [keysW] using h.symm
      simp [keysW]
  | succ k ih =>
    cases b with
    | nil => simp at hw
    | cons x r =>
      rw [List.take_succ_cons, keysW] at h
      split at h
      · rename_i hlt
        rw [Option.map_eq_some_iff] at h
        obtain ⟨ls, h1, rfl⟩ := h
        rw [List.take_succ_cons, keysW, if_pos hlt, ih h1 (by simpa using hw)]
        split <;> simp
      · cases h
theorem keysW_fail {cs : List Col} : ∀ {b : List W8} {k : Nat}, keysW cs (b.take k) = none → keysW cs b = none
  | [], k, h => by simp [keysW] at h
  | x :: r, 0, h => by simp [keysW] at h
  | x :: r, k + 1, h => by
    rw [List.take_succ_cons, keysW] at h
    rw [keysW]
    split at h
    · rename_i hlt
      rw [if_pos hlt]
      rw [Option.map_eq_none_iff] at h ⊢
      exact keysW_fail h
    · rename_i hlt
      rw [if_neg hlt]
/-- what comes of keysOf -/
def keysEnd (n : Nat) (r : Option (List Int)) (e : Ending) (w' : World) : Prop := match r with
  | some ks => ∃ a c ok, n ≤ ok ∧ e = .returned (.tuple #[.slice a ks.length c, .bool true]) ∧ Is w' (.slice a ks.length c) ok ks
  | none => e = .returned (.tuple #[.slice none 0 0, .bool false])
set_option maxRecDepth 100000 in
set_option maxHeartbeats 2000000 in
theorem keysOf_any (w : World) (n : ByteArray) (a1 : Option Addr) (c1 : Nat) (a2 : Option Addr) (n2 c2 : Nat) (oc : Nat) (cs : List Col) (vs : Value) (on : Nat) (b : List W8) (hC : Cs w (.slice a1 cs.length c1) oc cs) (hl : cs.length ≤ 100000) (hN : Ss w vs on b) (hb : b.length ≤ 100000) :
    Calls Tryz.prog 47 #[TV n (.slice a1 cs.length c1) (.slice a2 n2 c2), vs] w fun e w' => keysEnd w.heap.size (keysW cs b) e w' ∧ Ext [] w w' := by
  obtain ⟨an, mn, rfl⟩ := hN.shape
  have hE := (Ext.refl [] w).alloc (.cells #[.string n, .slice a1 cs.length c1, .slice a2 n2 c2] 41)
  have d0 := new_cells w [.string n, .slice a1 cs.length c1, .slice a2 n2 c2] 41 0 _ rfl
  have d1 := new_cells w [.string n, .slice a1 cs.length c1, .slice a2 n2 c2] 41 1 _ rfl
  have d2 := new_cells w [.string n, .slice a1 cs.length c1, .slice a2 n2 c2] 41 2 _ rfl
  go_enter Tryz.func47, Tryz.ntmps47
  go_wp2_with (fail)
  have htb := Lib.hid hE.size
  generalize w.alloc (.cells #[.string n, .slice a1 cs.length c1, .slice a2 n2 c2] 41) = W at *
  generalize w.heap.size = tb at d0 d1 d2 ⊢
  go_loopw [6, 13] (fun v i wr => ∃ (k : Nat) (ks : List Int), k ≤ b.length ∧ i = .int .i64 k ∧ ks.length = k ∧ wr.ownsRow W.heap.size 3 1 v ks.length (ks.map IV) ∧ Ext [] W wr ∧ Hid (keysW cs (b.take k) = some ks)) (fun _ i _ => b.length - (intOf i).toNat)
  case atStart => exact ⟨0, [], by omega, rfl, rfl, World.ownsRow_nil _ _ _ _, Ext.refl _ _, by simp [Hid, keysW]⟩
  case round =>
    obtain ⟨k, ks, hk, rfl, hks, hO, hX, hS⟩ := hrel
    have g0 := cells_ext hX d0
    have g1 := cells_ext hX d1
    have g2 := cells_ext hX d2
    by_cases hlt : k < b.length
    · obtain ⟨o, x, rfl, hx, c0⟩ := (Ss.at (Sl.ext hN (hE.trans hX) (by simp)) k hlt)
      have hkt := keysW_take hS.out hx
      have cl := fun U (e : Ext [] wr U) => Column_any U n a1 c1 a2 n2 c2 oc cs (B x) (Cs.ext hC ((hE.trans hX).trans e) (by simp)) (by unfold maxLen; omega)
      have hfle := fnd_le (cs.map Col.n) (B x)
      rw [List.length_map] at hfle
      unfold fnd0 at cl
      by_cases hf : fnd (cs.map Col.n) (B x) < cs.length
      · rw [if_pos hf] at hkt
        simp only [if_pos hf, decide_eq_true hf] at cl
        generalize fnd (cs.map Col.n) (B x) = q at *
        have HK := Lib.hid hkt
        clear hkt hx hS
        go_wp2_with (first
          | (go_at_call 15; (with_reducible refine (cl _ (Ext.refl _ _)).mono ?_); rintro e w1 ⟨rfl, x1⟩)
          | (at_builtin; refine wpList_append_sl TInt rfl (.tmp 25) (.tmp 27) rfl rfl ((own_ext hO x1 (by simp)).alloc _) rfl (Sl.one w1 _ _) (by intro u hu; simp at hu; subst hu; rfl) (by unfold maxLen; omega) (by omega) (by have := hX.size; have := x1.size; simp; omega) ?_; intro v' w3 hO' h3; have hX3 := ((hX.trans x1).alloc (.cells #[.int .i64 q] 3)).trans' h3 (fun i hi => .inr (own_ge hO i hi))))
        go_roundw
        case rel => exact ⟨k + 1, ks ++ [(q : Int)], by omega, by go_num, by simp [hks], by rw [List.length_append, List.map_append]; exact hO', hX3, HK⟩
        case measure => simp [intOf]; omega
      · rw [if_neg hf] at hkt
        simp only [if_neg hf, decide_eq_false hf] at cl
        have HF : Hid (keysW cs b = none) := keysW_fail (k := k + 1) hkt
        clear hkt hx hS hf hfle
        go_wp2_with (go_at_call 15; (with_reducible refine (cl _ (Ext.refl _ _)).mono ?_); rintro e w1 ⟨rfl, x1⟩)
        go_ret2
        rw [HF.out]
        exact ⟨rfl, (hE.trans hX).trans x1⟩
    · have HF : Hid (keysW cs b = some ks) := by
        have := hS.out
        rwa [List.take_of_length_le (by omega)] at this
      obtain ⟨ok, hok, hI⟩ := Is.own hO
      obtain ⟨a, c, rfl⟩ := hI.shape
      clear hS hO
      go_wp2_with (fail)
      go_ret2
      rw [HF.out]
      exact ⟨⟨a, c, ok, Nat.le_trans htb.out hok, rfl, hI⟩, hE.trans hX⟩
end Go.Proofs.YtjmfcjidhmaibaaGreatDoor
