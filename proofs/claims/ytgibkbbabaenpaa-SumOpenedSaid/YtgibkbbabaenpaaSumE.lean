import Derived.Test.YtgibkbbabaenpaaSumD
import Derived.Deep.RegionWith
namespace Go.Proofs.Ytgibkbbabaenpaa
open Go.RowKit
set_option linter.unusedVariables false

/-! ## a row turned in place -/
/-- the first k bytes turned, the others as they were -/
def mix (a t : List UInt8) (k : Nat) : List UInt8 := turned (a.take k) (t.take k) ++ a.drop k
theorem turned_length (a t : List UInt8) : (turned a t).length = min a.length t.length := by simp [turned]
theorem mix_length (a t : List UInt8) (k : Nat) (h : a.length = t.length) : (mix a t k).length = a.length := by
  unfold mix
  rw [List.length_append, turned_length, List.length_take, List.length_take, List.length_drop]
  omega
theorem mix_zero (a t : List UInt8) : mix a t 0 = a := by simp [mix, turned]
theorem mix_all (a t : List UInt8) (h : a.length = t.length) (k : Nat) (hk : k = a.length) : mix a t k = turned a t := by
  subst hk
  unfold mix
  rw [List.take_of_length_le (Nat.le_refl _), List.take_of_length_le (by omega), List.drop_of_length_le (Nat.le_refl _), List.append_nil]
theorem mix_at (a t : List UInt8) (k : Nat) (h : a.length = t.length) (hk : k < a.length) : (mix a t k)[k]? = a[k]? := by
  unfold mix
  have e : (turned (a.take k) (t.take k)).length = k := by rw [turned_length, List.length_take, List.length_take]; omega
  rw [List.getElem?_append_right (by omega), e, Nat.sub_self, List.getElem?_drop]
  simp
theorem mix_set (a t : List UInt8) (k : Nat) (x y : UInt8) (h : a.length = t.length) (hx : a[k]? = some x) (hy : t[k]? = some y) : (mix a t k).set k (x ^^^ y) = mix a t (k + 1) := by
  have hk : k < a.length := (List.getElem?_eq_some_iff.1 hx).1
  have e : (turned (a.take k) (t.take k)).length = k := by rw [turned_length, List.length_take, List.length_take]; omega
  have e2 : a.drop k = x :: a.drop (k + 1) := by rw [List.drop_eq_getElem_cons hk]; congr 1; exact (List.getElem?_eq_some_iff.1 hx).2
  unfold mix
  rw [List.set_append_right _ _ (by omega), e, Nat.sub_self, e2, List.set_cons_zero]
  have e3 : turned (a.take (k + 1)) (t.take (k + 1)) = turned (a.take k) (t.take k) ++ [x ^^^ y] := by
    rw [List.take_add_one, List.take_add_one, hx, hy]
    unfold turned
    rw [List.zipWith_append (by rw [List.length_take, List.length_take]; omega)]
    rfl
  rw [e3, List.append_assoc]; rfl

theorem OwnB.cell {w : World} {v : Value} {g : Nat} {l : List UInt8} (h : OwnB w v g l) (k : Nat) (x : UInt8) (hx : l[k]? = some x) : w.cell? ⟨g, k, none⟩ = some (.int .u8 (x.toNat : Int)) ∧ w.frozen? ⟨g, k, none⟩ = false := by
  obtain ⟨room, _, _, hb⟩ := h
  refine ⟨?_, hb.frozen k⟩
  rw [hb.cell, List.getElem?_append_left (by have := (List.getElem?_eq_some_iff.1 hx).1; simpa using this), List.getElem?_map, hx]; rfl
theorem OwnB.set {w : World} {v : Value} {g : Nat} {l : List UInt8} (h : OwnB w v g l) (k : Nat) (x : UInt8) (hk : k < l.length) : OwnB (w.setCell ⟨g, k, none⟩ (.int .u8 (x.toNat : Int))) v g (l.set k x) := by
  obtain ⟨room, hv, hm, hb⟩ := h
  refine ⟨room, by rw [List.length_set]; exact hv, by rw [List.length_set]; exact hm, ?_⟩
  have := hb.set k (.int .u8 (x.toNat : Int))
  rw [List.set_append_left _ _ (by simpa using hk)] at this
  rw [List.map_set]; exact this
theorem OwnB.drewN {w : World} {v : Value} {g : Nat} {l : List UInt8} (h : OwnB w v g l) (n : Nat) : OwnB (w.drewN n) v g l := h
theorem OwnB.new {w w' : World} {v : Value} {g : Nat} {l : List UInt8} (h : OwnB w' v g l) (hg : w.heap.size ≤ g) : NewB w w' v l := by
  obtain ⟨room, rfl, hm, hb⟩ := h
  have := hb.owns (base := w.heap.size) (size := 1) (n := l.length) (cap := l.length + room.length) hg (by simp) (Nat.le_add_right _ _) hm
  rw [Nat.mul_one, List.take_left' (by simp)] at this
  exact this
theorem xor_u8 (x y : UInt8) : bits .xor .u8 (x.toNat : Int) (y.toNat : Int) = ((x ^^^ y).toNat : Int) := by
  rw [UInt8.toNat_xor]; exact u8_xor_nat _ _ x.toNat_lt y.toNat_lt

theorem Bs.head {w : World} {v : Value} {ob : Nat} {l : List UInt8} (h : Bs w v ob l) (n : Nat) (hn : n ≤ l.length) : ∃ a m c, v = .slice a m c ∧ m = l.length ∧ n ≤ c ∧ (c : Int) ≤ 9223372036854775807 ∧ Bs w (.slice a n c) ob (l.take n) := by
  rcases h.cases with ⟨rfl, rfl⟩ | ⟨off, sp, cap, rfl, h1, h2, _⟩
  · obtain rfl : n = 0 := by simpa using hn
    exact ⟨none, 0, 0, rfl, rfl, by omega, by omega, by simpa using h⟩
  · have := h.cut1 (pos := 0) (m := n) (by omega)
    have hm : maxLen = 9223372036854775807 := rfl
    refine ⟨_, _, _, rfl, rfl, by omega, by omega, ?_⟩
    simpa [Addr.add] using this

set_option maxRecDepth 100000 in
set_option maxHeartbeats 1000000 in
theorem turned_some (w : World) (v tv : Value) (ob ot pn pt N : Nat) (l t : List UInt8) (h : Bs w v ob l) (ht : Bs w tv ot t) (cn : w.cell? ⟨pn, 0, none⟩ = some (.int .i64 (N : Int))) (ct : w.cell? ⟨pt, 0, none⟩ = some tv)
    (h0 : 0 < N) (h1 : N ≤ l.length) (h2 : N ≤ t.length) (h3 : N ≤ 1000) :
    Calls Try.prog 21 #[v, .pointer (some ⟨pn, 0, none⟩), .pointer (some ⟨pt, 0, none⟩)] w fun e w' => ∃ v', e = .returned v' ∧ NewB w w' v' (turned (l.take N) (t.take N)) ∧ Ext [] w w' := by
  obtain ⟨av, m, cv, rfl, hm, b1, b2, hh⟩ := h.head N h1
  have hcl := clone_any w _ ob _ hh (by rw [List.length_take]; omega)
  have hln : (l.take N).length = N := by rw [List.length_take]; omega
  have htn : (t.take N).length = N := by rw [List.length_take]; omega
  have hle : N ≤ m := by omega
  have hm2 : (m : Int) ≤ 9223372036854775807 := by
    rcases h.cases with ⟨hv, _⟩ | ⟨off, sp, cap, hv, k1, k2, _⟩
    · simp only [Value.slice.injEq] at hv; omega
    · simp only [Value.slice.injEq] at hv
      have hmx : maxLen = 9223372036854775807 := rfl
      omega
  obtain ⟨at_, nt, ct_, rfl, hnt, _, _, htt⟩ := ht.head N h2
  have hnt2 : N ≤ nt := by omega
  generalize hA : l.take N = A at *
  generalize hT : t.take N = T at *
  have HL := Lib.hid hln
  have HT := Lib.hid htn
  clear h hh hm hnt h1 h2 hln htn hA hT
  go_enter Try.func21, Try.ntmps21
  go_wp2_with (go_at_call 22; refine hcl.mono ?_; rintro e w1 ⟨v1, rfl, hN, hE⟩; obtain ⟨g, hO, hg1, hg2⟩ := hN.own (by rw [← List.length_pos_iff, HL.out]; exact h0); obtain ⟨c1, hc1, rfl⟩ := hO.shape; rw [HL.out] at hc1 hO hN ⊢)
  have hO0 : OwnB w1 (.slice (some ⟨g, 0, none⟩) N c1) g (mix A T 0) := by rw [mix_zero]; exact hO
  have hAT : Hid (A.length = T.length) := Lib.hid (by rw [HL.out, HT.out])
  clear hcl hO hN cn
  go_loopw [13] (fun i wr => ∃ k : Nat, k ≤ N ∧ i = .int .i64 k ∧ OwnB wr (.slice (some ⟨g, 0, none⟩) N c1) g (mix A T k) ∧ Ext [] w wr) (fun i _ => N - (intOf i).toNat)
  case atStart => exact ⟨0, Nat.zero_le _, rfl, hO0, hE⟩
  case round =>
    obtain ⟨k, hk, rfl, hOk, hEk⟩ := hrel
    clear hO0 hE
    by_cases hlt : k < N
    · obtain ⟨x, hx⟩ : ∃ x, A[k]? = some x := ⟨_, List.getElem?_eq_getElem (by rw [HL.out]; exact hlt)⟩
      have htt2 := htt.ext hEk (by simp)
      rw [← HT.out] at htt2
      obtain ⟨o, y, rfl, hy, hcy⟩ := htt2.at k (by rw [HT.out]; exact hlt)
      obtain ⟨c2, f2⟩ := hOk.cell k x (by rw [mix_at _ _ _ hAT.out (by rw [HL.out]; exact hlt)]; exact hx)
      have c3 := hEk.read ct (by simp)
      have hxy := xor_u8 x y
      have hset := hOk.set k (x ^^^ y) (by rw [mix_length _ _ _ hAT.out, HL.out]; exact hlt)
      rw [mix_set _ _ _ _ _ hAT.out hx hy] at hset
      have i1 : (k : Int) < N := by omega
      have i2 : (k : Int) < nt := by omega
      have i3 : (N : Int) ≤ 1000 := by omega
      generalize (x ^^^ y).toNat = z at *
      generalize x.toNat = x1 at *
      generalize y.toNat = y1 at *
      clear hx hy htt2 hOk ct htt ht
      go_wp2
      go_region
      go_wp2
      go_roundw
      case rel => exact ⟨k + 1, by omega, by go_num, hset.drewN 1, (hEk.setCell (.inr hg1) _).drewN 1⟩
      case measure => simp [intOf]; omega
    · obtain rfl : k = N := by omega
      rw [mix_all _ _ hAT.out k HL.out.symm] at hOk
      go_wp2
      go_ret
      exact ⟨_, rfl, hOk.new hg1, hEk⟩

set_option maxHeartbeats 400000 in
theorem turned_none (w : World) (v tv : Value) (ob pn pt : Nat) (l : List UInt8) (h : Bs w v ob l) (cn : w.cell? ⟨pn, 0, none⟩ = some (.int .i64 0)) :
    Calls Try.prog 21 #[v, .pointer (some ⟨pn, 0, none⟩), .pointer (some ⟨pt, 0, none⟩)] w fun e w' => ∃ v', e = .returned v' ∧ NewB w w' v' [] ∧ Ext [] w w' := by
  obtain ⟨av, m, cv, rfl, hm, b1, b2, hh⟩ := h.head 0 (Nat.zero_le _)
  have hcl := clone_any w _ ob _ hh (by simp)
  rw [List.take_zero] at hcl
  clear h hh hm
  go_enter Try.func21, Try.ntmps21
  go_wp2_with (go_at_call 22; refine hcl.mono ?_; rintro e w1 ⟨v1, rfl, hN, hE⟩; obtain ⟨a1, c1, rfl⟩ := hN.shape)
  go_loop [13] (fun i => i = .int .i64 0) (fun _ => 0)
  case atStart => rfl
  case round =>
    subst hrel
    go_wp2
    go_ret
    exact ⟨_, rfl, hN, hE⟩
/-- the closure: what it is given, cut and turned -/
theorem turned_any (w : World) (v tv : Value) (ob ot pn pt N : Nat) (l t : List UInt8) (h : Bs w v ob l) (ht : Bs w tv ot t) (cn : w.cell? ⟨pn, 0, none⟩ = some (.int .i64 (N : Int))) (ct : w.cell? ⟨pt, 0, none⟩ = some tv)
    (h1 : N ≤ l.length) (h2 : N ≤ t.length) (h3 : N ≤ 1000) :
    Calls Try.prog 21 #[v, .pointer (some ⟨pn, 0, none⟩), .pointer (some ⟨pt, 0, none⟩)] w fun e w' => ∃ v', e = .returned v' ∧ NewB w w' v' (turned (l.take N) (t.take N)) ∧ Ext [] w w' := by
  by_cases h0 : N = 0
  · subst h0
    have := turned_none w v tv ob pn pt l h cn
    simpa [turned] using this
  · exact turned_some w v tv ob ot pn pt N l t h ht cn ct (by omega) h1 h2 h3
end Go.Proofs.Ytgibkbbabaenpaa
