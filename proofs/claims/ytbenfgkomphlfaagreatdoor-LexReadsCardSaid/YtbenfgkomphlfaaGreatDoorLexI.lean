/-
  first: what a text begins with.
-/
import Derived.Test.YtbenfgkomphlfaaGreatDoorLexH
namespace Go.Proofs.YtbenfgkomphlfaaGreatDoor
open Go.RowKit
open Go.Lib hiding intOf
set_option linter.unusedVariables false

theorem ahead_alnum (l : List UInt8) : (l.take (ahead cAlnum l)).all (spans cAlnum) = true := by
  rw [ahead_take]
  exact List.all_takeWhile
theorem class_alnum' (w : World) (b : Nat) (hb : w.heap[b]? = some (.cells #[.string ⟨#[97, 122]⟩, .string ⟨#[65, 90]⟩, .string ⟨#[48, 57]⟩, .string ⟨#[95, 95]⟩] 9 (0, 0))) : Calls Tryz.prog 27 #[.slice (some ⟨b, 0, none⟩) 4 4] w fun e w' => (∃ f, e = .returned f ∧ ClassF w' f cAlnum) ∧ Ext [] w w' :=
  class_heap w b [B [97, 122], B [65, 90], B [48, 57], B [95, 95]] cAlnum hb (by decide) (by decide) (by decide)
set_option maxHeartbeats 2000000 in
theorem first_any (w : World) (s : ByteArray) (hG : Glob w) (hs : s.size ≤ 100000) :
    Calls Tryz.prog 28 #[.string s] w fun e w' => e = .returned (TN (first (L s))) ∧ Ext [] w w' := by
  have h0 := tb0 w
  have hE := (Ext.refl [] w).alloc (.cells #[.int .i64 0, .int .i64 0, .string E0, .int .u64 0] 29)
  have ah := fun W f (hf : ClassF W f cAlnum) => ahead_any W s f cAlnum hf (by decide) (by omega)
  have hle := ahead_le cAlnum (L s)
  rw [← size_L] at hle
  obtain ⟨n, hn⟩ : ∃ n, ahead cAlnum (L s) = n := ⟨_, rfl⟩
  rw [hn] at ah hle
  by_cases hp : 0 < n
  · have hx : L (s.extract 0 n) = (L s).take n := by rw [L_extract]; simp
    have tg := fun W (g : Glob W) => together_any W (s.extract 0 n) g (by rw [size_L, hx, List.length_take]; omega) (by rw [hx, ← hn]; exact ahead_alnum _)
    rw [hx] at tg
    have hf : first (L s) = together ((L s).take n) := by unfold first; rw [hn, if_pos hp]
    rw [← hf] at tg
    obtain ⟨⟨⟨tk, ta, ts, tn⟩, m⟩, hpp⟩ : ∃ p, first (L s) = p := ⟨_, rfl⟩
    rw [hpp] at tg
    simp only [TN] at tg
    have HQ := Lib.hid hpp
    clear hpp hf hx hn
    go_enter Tryz.func28, Tryz.ntmps28
    go_wp2_with (first
      | (go_at_call 27; (with_reducible refine (class_alnum' _ _ ?_).mono ?_); (repeat' (first | exact hp_new' _ _ _ rfl | (refine hp_new' _ _ _ ?_; (simp; done)) | refine hp_drew ?_ | refine hp_alloc ?_)); rintro e w1 ⟨⟨f, rfl, hf⟩, h1'⟩; have h1 := ((Ext.refl [] _).alloc _).trans h1'; have q1 := hE.trans h1)
      | (go_at_call 44; (with_reducible refine (ah _ f hf).mono ?_); rintro e w2 ⟨rfl, rfl⟩)
      | (go_at_call 45; (with_reducible refine (tg _ (hG.ext q1)).mono ?_); rintro e w3 ⟨rfl, h3⟩)
      | ((with_reducible refine at_store_T ?_); refine wpList_store_T rfl _ _ rfl rfl rfl ((h0.ext h1 (by simp)).ext h3 (by simp)) ?_; intro w9 hT9 h9))
    exact ret_T Tryz.results28 rfl hT9 rfl ⟨by rw [HQ.out]; rfl, (q1.trans h3).trans' h9 (by simp)⟩
  · obtain rfl : n = 0 := by omega
    have hpf := fun W => HasPrefix_any W s ⟨#[39]⟩
    cases hq : hasPrefix (L s) [39]
    · have hf : first (L s) = (⟨5, 0, B (signOf (L s)), 0⟩, (signOf (L s)).length) := by unfold first; rw [hn, if_neg (by omega), hq]; rfl
      have sg := fun W (g : Glob W) => signOf_any W s g
      rw [show L ⟨#[39]⟩ = [39] from rfl, hq] at hpf
      obtain ⟨g, hg⟩ : ∃ g, B (signOf (L s)) = g := ⟨_, rfl⟩
      have hgs : (signOf (L s)).length = g.size := by rw [← hg]; rfl
      rw [hg, hgs] at hf
      rw [hg] at sg
      have HF := Lib.hid hf
      clear hf hgs hg hq hn
      go_enter Tryz.func28, Tryz.ntmps28
      go_wp2_with (first
        | (go_at_call 27; (with_reducible refine (class_alnum' _ _ ?_).mono ?_); (repeat' (first | exact hp_new' _ _ _ rfl | (refine hp_new' _ _ _ ?_; (simp; done)) | refine hp_drew ?_ | refine hp_alloc ?_)); rintro e w1 ⟨⟨f, rfl, hf⟩, h1'⟩; have h1 := ((Ext.refl [] _).alloc _).trans h1'; have q1 := hE.trans h1)
        | (go_at_call 44; (with_reducible refine (ah _ f hf).mono ?_); rintro e w2 ⟨rfl, rfl⟩)
        | (go_at_call 46; (with_reducible refine (hpf _).mono ?_); rintro e w3 ⟨rfl, rfl⟩)
        | (go_at_call 48; (with_reducible refine (sg _ (hG.ext q1)).mono ?_); rintro e w4 ⟨rfl, rfl⟩)
        | ((with_reducible refine at_store_T ?_); refine wpList_store_T rfl _ _ rfl rfl rfl (h0.ext h1 (by simp)) ?_; intro w9 hT9 h9))
      exact ret_T Tryz.results28 rfl hT9 rfl ⟨by rw [HF.out]; rfl, q1.trans' h9 (by simp)⟩
    · have hf : first (L s) = quoted (L s) := by unfold first; rw [hn, if_neg (by omega), hq]; rfl
      have qt := fun W => quoted_any W s hs
      rw [show L ⟨#[39]⟩ = [39] from rfl, hq] at hpf
      rw [← hf] at qt
      obtain ⟨⟨⟨tk, ta, ts, tn⟩, m⟩, hpp⟩ : ∃ p, first (L s) = p := ⟨_, rfl⟩
      rw [hpp] at qt
      simp only [TN] at qt
      have HQ := Lib.hid hpp
      clear hpp hf hq hn
      go_enter Tryz.func28, Tryz.ntmps28
      go_wp2_with (first
        | (go_at_call 27; (with_reducible refine (class_alnum' _ _ ?_).mono ?_); (repeat' (first | exact hp_new' _ _ _ rfl | (refine hp_new' _ _ _ ?_; (simp; done)) | refine hp_drew ?_ | refine hp_alloc ?_)); rintro e w1 ⟨⟨f, rfl, hf⟩, h1'⟩; have h1 := ((Ext.refl [] _).alloc _).trans h1'; have q1 := hE.trans h1)
        | (go_at_call 44; (with_reducible refine (ah _ f hf).mono ?_); rintro e w2 ⟨rfl, rfl⟩)
        | (go_at_call 46; (with_reducible refine (hpf _).mono ?_); rintro e w3 ⟨rfl, rfl⟩)
        | (go_at_call 47; (with_reducible refine (qt _).mono ?_); rintro e w4 ⟨rfl, h4⟩)
        | ((with_reducible refine at_store_T ?_); refine wpList_store_T rfl _ _ rfl rfl rfl ((h0.ext h1 (by simp)).ext h4 (by simp)) ?_; intro w9 hT9 h9))
      exact ret_T Tryz.results28 rfl hT9 rfl ⟨by rw [HQ.out]; rfl, (q1.trans h4).trans' h9 (by simp)⟩
end Go.Proofs.YtbenfgkomphlfaaGreatDoor
