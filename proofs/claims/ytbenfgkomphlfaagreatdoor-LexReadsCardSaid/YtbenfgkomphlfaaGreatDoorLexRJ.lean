/-
  The reference: One.
-/
import Derived.Test.YtbenfgkomphlfaaGreatDoorLexRI
import Derived.Test.YtbenfgkomphlfaaGreatDoorLexRA
import Derived.Test.YtbenfgkomphlfaaGreatDoorLexRB
import Derived.Deep.RegionWith
namespace Go.Proofs.YtbenfgkomphlfaaGreatDoor
open Go.RowKit
open Go.Lib hiding intOf
set_option linter.unusedVariables false

theorem ret_T2 {fn : Func} {R : Ending → World → Prop} {a : Act} {w : World} {p q r : Tmp} {b : Nat} {k c n : Int} {s : ByteArray} (hres : fn.results = #[.cell p 29, .tmp q, .tmp r]) (hp : a.tmps.getD p undef = .pointer (some ⟨b, 0, none⟩)) (hb : TB w b k c s n) (hdf : a.defers = [])
    (hR : R (.returned (.tuple #[TV k c s n, a.tmps.getD q undef, a.tmps.getD r undef])) w) : bodyPost Tryz.prog fn R .ret a w := by
  refine bodyPost_ret (v := .tuple #[TV k c s n, a.tmps.getD q undef, a.tmps.getD r undef]) ?_ hdf hR
  have := run_loadVar_row (P := Tryz.prog) w b 29 29 #[.int .i64 k, .int .i64 c, .string s, .int .u64 n] (0, 0) _ hb Tryz.underlying29 rfl (by simpa using token_info)
  have hp' : a.tmps[p]?.getD undef = .pointer (some ⟨b, 0, none⟩) := by simpa using hp
  simp only [results, hres]
  simp [Result.andThen, hp', asAddr, this]

/-- what One tells -/
def OneEnd (l : List UInt8) (k : Nat) (w : World) (e : Ending) (w' : World) : Prop :=
  ∃ (t : Tok) (j : Nat), e = .returned (.tuple #[t.v, .int .i64 (j : Int), .bool (decide ((first l).2 ≠ 0))]) ∧ ((first l).2 ≠ 0 → t = (first l).1.at k ∧ j = k + (first l).2) ∧ Ext [] w w'
theorem OneEnd.yes {l : List UInt8} {k : Nat} {w w' : World} {e : Ending} {K n : Int} {s : ByteArray} {m j : Nat} (hf : first l = (⟨K, 0, s, n⟩, m)) (hm : m ≠ 0) (hj : j = k + m) (he : e = .returned (.tuple #[TV K k s n, .int .i64 (j : Int), .bool true])) (hx : Ext [] w w') : OneEnd l k w e w' := by
  refine ⟨⟨K, k, s, n⟩, j, ?_, ?_, hx⟩
  · rw [he, hf]
    simp [hm]
  · rw [hf]
    exact fun _ => ⟨rfl, hj⟩
theorem OneEnd.no {l : List UInt8} {k : Nat} {w w' : World} {e : Ending} {K a n : Int} {s : ByteArray} {j : Nat} (hf : (first l).2 = 0) (he : e = .returned (.tuple #[TV K a s n, .int .i64 (j : Int), .bool false])) (hx : Ext [] w w') : OneEnd l k w e w' := by
  refine ⟨⟨K, a, s, n⟩, j, ?_, fun h => absurd hf h, hx⟩
  rw [he, hf]
  simp
set_option maxHeartbeats 1000000 in
theorem one_quote (w : World) (s : ByteArray) (k : Nat) (hk : k < s.size) (hs : s.size ≤ 10000) (h39 : (s[k]'hk).toNat = 39) :
    Calls Tryz.prog 14 #[.string s, .int .i64 (k : Int)] w (OneEnd ((L s).drop k) k w) := by
  have h0 := tb0 w
  have hE := (Ext.refl [] w).alloc (.cells #[.int .i64 0, .int .i64 0, .string E0, .int .u64 0] 29)
  have q1 : (((s[k]'hk).toNat : Int) == 39) = true := by simp; omega
  have he : (s[k]'hk) = 39 := UInt8.toNat_inj.1 h39
  have hd : (L s).drop k = 39 :: (L s).drop (k + 1) := by rw [← he]; exact List.drop_eq_getElem_cons (show k < (L s).length from hk)
  have hf := first_quoted ((L s).drop (k + 1))
  rw [← hd] at hf
  have rq := fun W => rquoted_any W s k hk hs
  clear h39 he hd
  cases hz : qscan ((L s).drop (k + 1)) [] 1 with
  | none =>
    rw [hz] at rq hf
    have HQ : Hid ((first ((L s).drop k)).2 = 0) := by show _ = _; rw [hf]
    clear hf hz
    generalize (L s).drop k = l at *
    go_enter Tryz.func14, Tryz.ntmps14
    go_wp2_with (first
      | (go_at_call 29; (with_reducible refine (rq _).mono ?_); rintro e w1 ⟨rfl, rfl⟩)
      | ((with_reducible refine at_store_T ?_); refine wpList_store_T rfl _ _ rfl rfl rfl (h0) ?_; intro w9 hT9 h9))
    exact ret_T2 Tryz.results14 rfl hT9 rfl (OneEnd.no (j := 0) HQ.out rfl (hE.trans' h9 (by simp)))
  | some p =>
    obtain ⟨t, m⟩ := p
    have hm := (qscan_bytes _ _ _ _ _ hz).1
    rw [hz] at rq hf
    simp only at rq hf
    unfold ended at hf
    cases ht : isText t
    · rw [ht] at rq hf
      have HQ : Hid ((first ((L s).drop k)).2 = 0) := by show _ = _; rw [hf]; rfl
      clear hf hz ht
      generalize (L s).drop k = l at *
      go_enter Tryz.func14, Tryz.ntmps14
      go_wp2_with (first
        | (go_at_call 29; (with_reducible refine (rq _).mono ?_); rintro e w1 ⟨rfl, rfl⟩)
        | ((with_reducible refine at_store_T ?_); refine wpList_store_T rfl _ _ rfl rfl rfl (h0) ?_; intro w9 hT9 h9))
      exact ret_T2 Tryz.results14 rfl hT9 rfl (OneEnd.no (j := k + m) HQ.out rfl (hE.trans' h9 (by simp)))
    · rw [ht] at rq hf
      have HQ : Hid (first ((L s).drop k) = (⟨4, 0, B t, 0⟩, m)) := hf
      clear hf hz ht
      generalize (L s).drop k = l at *
      go_enter Tryz.func14, Tryz.ntmps14
      go_wp2_with (first
        | (go_at_call 29; (with_reducible refine (rq _).mono ?_); rintro e w1 ⟨rfl, rfl⟩)
        | ((with_reducible refine at_store_T ?_); refine wpList_store_T rfl _ _ rfl rfl rfl (h0) ?_; intro w9 hT9 h9))
      exact ret_T2 Tryz.results14 rfl hT9 rfl (OneEnd.yes HQ.out (by omega) rfl rfl (hE.trans' h9 (by simp)))
end Go.Proofs.YtbenfgkomphlfaaGreatDoor
