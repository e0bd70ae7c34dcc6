
import Derived.Test.YtdiachkimgkkbaaSumC
import Derived.Lib.SmallJoins
import Derived.Lib.SlBytesConst
namespace Go.Proofs.Ytdiachkimgkkbaa
open Go.RowKit
set_option linter.unusedVariables false

theorem le4_length (C : Nat) : (le4 C).length = 4 := rfl
theorem opened_seal (l : List UInt8) : opened (l ++ le4 (crc l)) = some l := by
  unfold opened
  have e : (l ++ le4 (crc l)).length - 4 = l.length := by simp [le4_length]
  rw [e]
  simp
theorem opened_iff (l m : List UInt8) (hl : 4 ≤ l.length) : opened l = some m ↔ l = m ++ le4 (crc m) := by
  constructor
  · intro h
    unfold opened at h
    split at h
    · rename_i h2
      obtain rfl := Option.some.inj h
      rw [← h2, List.take_append_drop]
    · cases h
  · rintro rfl; exact opened_seal m
theorem opened_take (l m : List UInt8) (h : opened l = some m) : m = l.take (l.length - 4) := by
  unfold opened at h
  split at h
  · exact (Option.some.inj h).symm
  · cases h

theorem Open_yes (w : World) (v : Value) (ob : Nat) (l m : List UInt8) (h : Bs w v ob l) (hl : 4 ≤ l.length) (hs : l.length ≤ 1000000) (ho : opened l = some m) :
    Calls Try.prog 39 #[v] w fun e w' => ∃ v', e = .returned (.tuple #[v', .int .i64 0]) ∧ NewB w w' v' m ∧ Ext [] w w' := by
  refine (Open_long w v ob l h hl hs).mono ?_
  intro e w' hO
  unfold OpenOut at hO
  rw [ho] at hO
  obtain ⟨h1, v', h2, h3⟩ := hO
  exact ⟨v', h2, h3, h1⟩
theorem Open_no (w : World) (v : Value) (ob : Nat) (l : List UInt8) (h : Bs w v ob l) (hl : 4 ≤ l.length) (hs : l.length ≤ 1000000) (ho : opened l = none) :
    Calls Try.prog 39 #[v] w fun e w' => e = .returned (.tuple #[.slice none 0 0, .int .i64 130]) ∧ Ext [] w w' := by
  refine (Open_long w v ob l h hl hs).mono ?_
  intro e w' hO
  unfold OpenOut at hO
  rw [ho] at hO
  exact ⟨hO.2, hO.1⟩

/-- what was sealed lies where nothing else did -/
theorem Seal_bs (w : World) (v : Value) (ob : Nat) (l : List UInt8) (h : Bs w v ob l) (hl : l.length ≤ 1000000) :
    Calls Try.prog 36 #[v] w fun e w' => ∃ g c, e = .returned (.slice (some ⟨g, 0, none⟩) (l.length + 4) c) ∧ OwnB w' (.slice (some ⟨g, 0, none⟩) (l.length + 4) c) g (l ++ le4 (crc l)) ∧ w.heap.size ≤ g ∧ Ext [] w w' := by
  refine (Seal_any w v ob l h hl).mono ?_
  rintro e w' ⟨v', rfl, hN, hE⟩
  obtain ⟨g, h1, h2, _⟩ := hN.own (by simp [le4])
  obtain ⟨c, _, rfl⟩ := h1.shape
  rw [List.length_append, le4_length] at *
  exact ⟨g, c, rfl, h1, h2, hE⟩

theorem same_opened (l : List UInt8) (hl : 4 ≤ l.length) : (l.take (l.length - 4) ++ le4 (crc (l.take (l.length - 4))) == l) = (opened l).isSome := by
  have h := opened_iff l (l.take (l.length - 4)) hl
  cases ho : opened l with
  | none =>
    rw [ho] at h
    simp only [Option.isSome_none, beq_eq_false_iff_ne]
    intro e
    exact absurd (h.2 e.symm) (by simp)
  | some m =>
    obtain rfl := opened_take l m ho
    rw [ho] at h
    simpa using (h.1 rfl).symm

/-! ## wakes -/
theorem wk_seal (w : World) : Calls Try.prog 36 #[.slice (some ⟨w.heap.size, 0, none⟩) 1 1] (w.alloc (.cells #[.int .u8 7] 5)) fun e w' =>
    ∃ g c, e = .returned (.slice (some ⟨g, 0, none⟩) 5 c) ∧ Bs w' (.slice (some ⟨g, 0, none⟩) 5 c) g ([7] ++ le4 (crc [7])) ∧ Ext [] w w' := by
  refine (Seal_bs _ _ w.heap.size [7] (Sl.one w (BV 7) _) (by simp)).mono ?_
  rintro e w' ⟨g, c, rfl, h1, h2, h3⟩
  exact ⟨g, c, rfl, h1.bs, ((Ext.refl [] w).alloc _).trans h3⟩
theorem wk_open (w : World) (g c : Nat) (h : Bs w (.slice (some ⟨g, 0, none⟩) 5 c) g ([7] ++ le4 (crc [7]))) :
    Calls Try.prog 39 #[.slice (some ⟨g, 0, none⟩) 5 c] w fun e w' => ∃ b d, e = .returned (.tuple #[.slice (some ⟨b, 0, none⟩) 1 d, .int .i64 0]) ∧ w'.cell? ⟨b, 0, none⟩ = some (.int .u8 7) ∧ Ext [] w w' := by
  refine (Open_yes w _ g _ [7] h (by simp [le4]) (by simp [le4]) (opened_seal [7])).mono ?_
  rintro e w' ⟨v', rfl, hN, hE⟩
  obtain ⟨b, h1, _⟩ := hN.own (by simp)
  obtain ⟨room, hv, _, hb⟩ := h1
  exact ⟨b, _, by rw [hv]; rfl, hb.cell 0, hE⟩
theorem wk_bad (w : World) : Calls Try.prog 39 #[.slice (some ⟨w.heap.size, 0, none⟩) 4 4] (w.alloc (.cells #[.int .u8 0, .int .u8 0, .int .u8 0, .int .u8 1] 5)) fun e w' =>
    e = .returned (.tuple #[.slice none 0 0, .int .i64 130]) ∧ Ext [] w w' := by
  refine (Open_no _ _ w.heap.size [0, 0, 0, 1] (Sl.lit w [.int .u8 0, .int .u8 0, .int .u8 0, .int .u8 1] _ 1 4 rfl (by decide)) (by simp) (by simp) (by decide +kernel)).mono ?_
  rintro e w' ⟨rfl, h3⟩
  exact ⟨rfl, ((Ext.refl [] w).alloc _).trans h3⟩
/-- a constant string's bytes, just laid: the block has the run-time's mark -/
theorem Bs.const (w : World) (l : List UInt8) (e : TypeId) (fr : Nat × Nat) (hl : l.length ≤ maxLen) : Bs (w.alloc (.cells (l.map BV).toArray e fr)) (.slice (some ⟨w.heap.size, 0, none⟩) l.length l.length) w.heap.size l :=
  Bs.mk (Nat.le_refl _) hl fun j hj => by rw [Nat.zero_add, World.cell?_alloc_mark]; simp [hj]
theorem wk_sum (w : World) : Calls Try.prog 76 #[.slice (some ⟨w.heap.size, 0, none⟩) 9 9] (w.alloc (.cells #[.int .u8 49, .int .u8 50, .int .u8 51, .int .u8 52, .int .u8 53, .int .u8 54, .int .u8 55, .int .u8 56, .int .u8 57] 5 (9, 10))) fun e w' =>
    e = .returned (.int .u32 3808858755) ∧ Ext [] w w' := by
  refine (Sum32_any _ _ w.heap.size [49, 50, 51, 52, 53, 54, 55, 56, 57] (Bs.const w [49, 50, 51, 52, 53, 54, 55, 56, 57] 5 (9, 10) (by decide)) (by simp)).mono ?_
  rintro e w' ⟨rfl, h3⟩
  have : crc [49, 50, 51, 52, 53, 54, 55, 56, 57] = 3808858755 := by decide +kernel
  exact ⟨by rw [this]; rfl, ((Ext.refl [] w).alloc _).trans h3⟩

end Go.Proofs.Ytdiachkimgkkbaa
