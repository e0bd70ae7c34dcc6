
/-
  A map from numbers to truths, as what is true in it; how many bytes are other ones; lists of ops of the call's own.
-/
import Derived.Test.YtpdfmeaemlgniaaNetSeM
import Derived.Test.YtpdfmeaemlgniaaNetOps
import Derived.Test.YtpdfmeaemlgniaaNetRunD
import Derived.Test.YtpdfmeaemlgniaaNetR
import Derived.Test.YtpdfmeaemlgniaaNetW
import Derived.Maps.OwnSet
import Derived.Maps.OwnOps
import Derived.Maps.Views
namespace Go.Proofs.Ytpdfmeaemlgniaa
open Go.RowKit Go.Maps
open Go.Lib hiding intOf
set_option linter.unusedVariables false
set_option linter.unusedSimpArgs false
theorem lawU : Keyed Try.prog 22 := int_keyed Try.underlying22
theorem keyU (k : Nat) (h : k < 18446744073709551616) : keyOf Try.prog 22 (.int .u64 (k : Int)) = some (.int .u64 (k : Int)) := keyOf_int_mk Try.underlying22 (WalkArith.wf_u64 ⟨by omega, by omega⟩)
theorem zeroB (w : World) : (zeroValue 4).run Try.prog w = .ok (.bool false) w := by kernel_rfl
set_option maxRecDepth 100000 in
theorem plainElem_bool_inv {v : Value} {z : DataW Unit × List MemPlace} (h : plainElem Try.prog 4 v = some z) : ∃ x, v = .bool x ∧ z = (.lit (.bool x), []) := by
  unfold plainElem at h
  rw [Try.underlying4] at h
  split at h
  · rename_i x hx he; exact ⟨_, rfl, (Option.some.inj h).symm⟩
  · rename_i he; cases he
  · rename_i he; cases he
  · cases h
/-- block b is a map of at most n entries, true at the numbers of which ov holds -/
def OM (w : World) (b n : Nat) (ov : Nat → Bool) : Prop := ∃ D : DataW Unit, w.ownsMap Try.prog 22 (plainElem Try.prog 4) b n D ∧ ∀ k : Nat, k < 18446744073709551616 → D.atKey (.int .u64 (k : Int)) (.lit (.bool false)) = .lit (.bool (ov k))
theorem OM.made (w : World) : OM (w.alloc (.map #[] 0)) w.heap.size 0 (fun _ => false) := ⟨.map [], World.ownsMap_made _ _ _ _, fun k _ => rfl⟩
theorem OM.lt {w : World} {b n : Nat} {ov : Nat → Bool} (h : OM w b n ov) : b < w.heap.size := by obtain ⟨D, h1, _⟩ := h; exact h1.lt
theorem OM.mono {w : World} {b n m : Nat} {ov : Nat → Bool} (h : OM w b n ov) (hm : n ≤ m) : OM w b m ov := by obtain ⟨D, h1, h2⟩ := h; exact ⟨D, h1.mono hm, h2⟩
theorem OM.ext {X : List Nat} {w w' : World} {b n : Nat} {ov : Nat → Bool} (h : OM w b n ov) (he : Ext X w w') (hx : b ∉ X) : OM w' b n ov := by
  obtain ⟨D, ⟨es, clock, hb, F, hs, hD⟩, h2⟩ := h
  exact ⟨D, ⟨es, clock, he.heap hb hx, F, hs, hD⟩, h2⟩
theorem OM.congr {w : World} {b n : Nat} {ov ov' : Nat → Bool} (h : OM w b n ov) (e : ∀ k, ov k = ov' k) : OM w b n ov' := by
  have : ov = ov' := funext e
  rw [← this]; exact h
theorem OM.look {w : World} {b n : Nat} {ov : Nat → Bool} (h : OM w b n ov) (k : Nat) (hk : k < 18446744073709551616) : (Instr.lookup 55 (.map (some b)) (.int .u64 (k : Int)) false).run Try.prog w = .ok (.bool (ov k)) w := by
  obtain ⟨D, h1, h2⟩ := h
  obtain ⟨v, ps, hrun, hv⟩ := h1.lookup lawU Try.underlying55 (zeroB w) (plainElem_bool Try.underlying4 false) (keyU k hk)
  obtain ⟨x, rfl, hx⟩ := plainElem_bool_inv hv
  simp only [Prod.mk.injEq] at hx
  rw [h2 k hk] at hx
  have : ov k = x := by
    have := hx.1
    simpa using this
  rw [this]; exact hrun
theorem OM.put {w : World} {b n : Nat} {ov : Nat → Bool} (h : OM w b n ov) (hn : n < 1000000) (k : Nat) (hk : k < 18446744073709551616) : ∃ w', (Instr.mapUpdate 55 (.map (some b)) (.int .u64 (k : Int)) (.bool true)).run Try.prog w = .ok () w' ∧ OM w' b (n + 1) (fun j => j == k || ov j) ∧ Ext [b] w w' := by
  obtain ⟨D, h1, h2⟩ := h
  obtain ⟨w', hrun, r1, r2⟩ := h1.update lawU Try.underlying55 (by unfold maxLen; omega) (keyU k hk) (plainElem_bool Try.underlying4 true)
  refine ⟨w', hrun, ⟨_, r1, fun j hj => ?_⟩, Ext.ofGrown r2⟩
  by_cases e : j = k
  · subst e
    show _ = DataW.lit (Lit.bool (j == j || ov j))
    rw [atKey_put_same h1.isMap (by simp [WideAt.IsKeyLit])]
    simp
  · show _ = DataW.lit (Lit.bool (j == k || ov j))
    rw [atKey_put_other (by simp; omega), h2 j hj, show (j == k) = false by simpa using e]
    rfl
/-! ## other -/
theorem dist_take (a b : List UInt8) (j : Nat) (ha : j < a.length) (hb : j < b.length) : diff (a.take (j + 1)) (b.take (j + 1)) = diff (a.take j) (b.take j) + if a[j] = b[j] then 0 else 1 := by
  induction j generalizing a b with
  | zero =>
    match a, b with
    | x :: a, y :: b => simp [diff]
  | succ j ih =>
    match a, b with
    | x :: a, y :: b =>
      simp only [List.take_succ_cons, diff, List.getElem_cons_succ]
      rw [ih a b (by simpa using ha) (by simpa using hb)]
      omega
theorem diff_take : ∀ (a b : List UInt8), diff (a.take (min a.length b.length)) (b.take (min a.length b.length)) = diff a b
  | [], b => by simp [diff]
  | a :: x, [] => by simp [diff]
  | a :: x, b :: y => by
    have e : min (a :: x).length (b :: y).length = min x.length y.length + 1 := by simp only [List.length_cons]; omega
    rw [e, List.take_succ_cons, List.take_succ_cons, diff, diff, diff_take x y]
theorem Bs_at {w : World} {a : Option Addr} {n c ob : Nat} {l : List UInt8} (h : Bs w (.slice a n c) ob l) (k : Nat) (x : UInt8) (hx : l[k]? = some x) : ∃ o, a = some ⟨ob, o, none⟩ ∧ w.cell? ⟨ob, o + k, none⟩ = some (.int .u8 (x.toNat : Int)) := by
  have hk := (List.getElem?_eq_some_iff.1 hx).1
  rcases h.2 with ⟨h1, h2⟩ | ⟨off, sp, cap, h1, _, _, hsp, h3⟩
  · omega
  · simp only [Value.slice.injEq] at h1
    obtain ⟨rfl, rfl, rfl⟩ := h1
    obtain rfl : sp = none := by rcases hsp with h | h; omega; exact h
    exact ⟨off, rfl, h3 k _ (by rw [List.getElem?_map, hx]; rfl)⟩
set_option maxRecDepth 100000 in
set_option maxHeartbeats 4000000 in
theorem other_any (w : World) (a1 a2 : Option Addr) (c1 c2 o1 o2 : Nat) (l1 l2 : List UInt8) (h1 : Bs w (.slice a1 l1.length c1) o1 l1) (h2 : Bs w (.slice a2 l2.length c2) o2 l2) (hl1 : l1.length ≤ 100000) (hl2 : l2.length ≤ 100000) :
    Calls Try.prog 30 #[.slice a1 l1.length c1, .slice a2 l2.length c2] w fun e w' => e = .returned (.int .i64 (dist l1 l2 : Int)) ∧ Ext [] w w' := by
  have hmx : max (l1.length : Int) (l2.length : Int) = ((max l1.length l2.length : Nat) : Int) := by omega
  have hmn : min (l1.length : Int) (l2.length : Int) = ((min l1.length l2.length : Nat) : Int) := by omega
  have hD : Hid (dist l1 l2 = (max l1.length l2.length - min l1.length l2.length) + diff (l1.take (min l1.length l2.length)) (l2.take (min l1.length l2.length))) := by show _ = _; rw [diff_take]; rfl
  have hsub : ((max l1.length l2.length : Nat) : Int) - ((min l1.length l2.length : Nat) : Int) = ((max l1.length l2.length - min l1.length l2.length : Nat) : Int) := by omega
  have hM1 : min l1.length l2.length ≤ l1.length := Nat.min_le_left _ _
  have hM2 : min l1.length l2.length ≤ l2.length := Nat.min_le_right _ _
  have hS : max l1.length l2.length - min l1.length l2.length ≤ 100000 := by omega
  generalize max l1.length l2.length - min l1.length l2.length = S at *
  generalize max l1.length l2.length = MX at *
  generalize min l1.length l2.length = MN at *
  go_enter Try.func30, Try.ntmps30
  go_wp2_with (fail)
  go_loopw [5, 23] (fun x i wr => ∃ j : Nat, j ≤ MN ∧ i = .int .i64 (j : Int) ∧ x = .int .i64 ((S + diff (l1.take j) (l2.take j) : Nat) : Int) ∧ diff (l1.take j) (l2.take j) ≤ j ∧ Ext [] w wr) (fun _ i _ => MN - (intOf i).toNat)
  case atStart => exact ⟨0, by omega, rfl, by simp [diff], by simp [diff], Ext.refl _ _⟩
  case round =>
    obtain ⟨j, hj, rfl, rfl, hdj, xr⟩ := hrel
    by_cases hjl : j < MN
    · have q1 : l1[j]? = some (l1[j]'(by omega)) := List.getElem?_eq_getElem (by omega)
      have q2 : l2[j]? = some (l2[j]'(by omega)) := List.getElem?_eq_getElem (by omega)
      have hdt := dist_take l1 l2 j (by omega) (by omega)
      obtain ⟨f1, rfl, p1⟩ := Bs_at (h1.ext xr (by simp)) j _ q1
      obtain ⟨f2, rfl, p2⟩ := Bs_at (h2.ext xr (by simp)) j _ q2
      generalize l1[j]'(by omega) = x at *
      generalize l2[j]'(by omega) = y at *
      generalize hd0 : diff (l1.take j) (l2.take j) = d at *
      generalize hd1 : diff (l1.take (j + 1)) (l2.take (j + 1)) = d1 at *
      have hb1 : (j : Int) < (l1.length : Int) := by omega
      have hb2 : (j : Int) < (l2.length : Int) := by omega
      have HH := Lib.hid (And.intro hd1 hdt)
      clear hd0 hd1 hdt q1 q2
      by_cases hxy : x = y
      · subst hxy
        have hne : ((x.toNat : Int) != (x.toNat : Int)) = false := by simp
        go_upto_region 5 with (fail)
        go_region
        go_wp2_with (fail)
        go_roundw
        case rel =>
          have h9 := HH.out.2
          rw [if_pos rfl] at h9
          exact ⟨j + 1, by omega, by go_num, by rw [HH.out.1, h9]; rfl, by rw [HH.out.1]; omega, xr.drew⟩
        case measure => simp [intOf]; omega
      · have hne : ((x.toNat : Int) != (y.toNat : Int)) = true := by
          simp only [bne_iff_ne, ne_eq]
          intro e
          exact hxy (UInt8.toNat_inj.1 (by omega))
        go_upto_region 5 with (fail)
        go_region
        go_wp2_with (fail)
        go_roundw
        case rel =>
          have h9 := HH.out.2
          rw [if_neg hxy] at h9
          exact ⟨j + 1, by omega, by go_num, by rw [HH.out.1, h9]; go_num, by rw [HH.out.1]; omega, xr.drew⟩
        case measure => simp [intOf]; omega
    · obtain rfl : j = MN := by omega
      go_wp2_with (fail)
      go_ret
      exact ⟨by rw [hD.out]; rfl, xr⟩
end Go.Proofs.Ytpdfmeaemlgniaa
