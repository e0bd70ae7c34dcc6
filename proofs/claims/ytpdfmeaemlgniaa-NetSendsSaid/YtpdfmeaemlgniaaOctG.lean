
import Derived.Test.YtpdfmeaemlgniaaOctF
import Derived.Deep.RegionHeld3
import Derived.ProofKit
import Derived.OpenShut
namespace Go.Proofs.Ytpdfmeaemlgniaa
open Go.RowKit
set_option linter.unusedVariables false

/-! ## slices of the call's own -/

/-- v is a slice from the head of block g, which is the call's own: the bytes l, and some room behind them -/
def OwnB (w : World) (v : Value) (g : Nat) (l : List UInt8) : Prop :=
  ∃ room : List Value, v = .slice (some ⟨g, 0, none⟩) l.length (l.length + room.length) ∧ l.length + room.length ≤ maxLen ∧ Blk w g 5 (l.map BV ++ room)
theorem NewB.own {w w' : World} {v : Value} {l : List UInt8} (h : NewB w w' v l) (hl : l ≠ []) : ∃ g, OwnB w' v g l ∧ w.heap.size ≤ g ∧ g < w'.heap.size := by
  rcases h.2 with ⟨rfl, h2⟩ | ⟨g, cap, cur, rfl, h1, h2, h3, h4, h5, h6⟩
  · exact absurd (List.eq_nil_of_length_eq_zero h2) hl
  · rw [Nat.mul_one] at h5 h6
    refine ⟨g, ⟨cur.toList.drop l.length, ?_, ?_, ?_⟩, h1, size_heap h2⟩
    · simp only [List.length_drop, Array.length_toList]; congr 1; omega
    · simp only [List.length_drop, Array.length_toList]; omega
    · rw [← h6, List.take_append_drop]; exact h2
theorem OwnB.bs {w : World} {v : Value} {g : Nat} {l : List UInt8} (h : OwnB w v g l) : Bs w v g l := by
  obtain ⟨room, rfl, h1, h2⟩ := h
  refine Bs.mk (Nat.le_add_right _ _) h1 fun j hj => ?_
  rw [Nat.zero_add, h2.cell, List.getElem?_append_left (by simpa using hj)]
  simp [hj]
theorem OwnB.ext {X : List Nat} {w w' : World} {v : Value} {g : Nat} {l : List UInt8} (h : OwnB w v g l) (he : Ext X w w') (hx : g ∉ X) : OwnB w' v g l := by
  obtain ⟨room, h0, h1, h2⟩ := h
  exact ⟨room, h0, h1, h2.ext he hx⟩
theorem OwnB.lt {w : World} {v : Value} {g : Nat} {l : List UInt8} (h : OwnB w v g l) : g < w.heap.size := by
  obtain ⟨room, h0, h1, h2⟩ := h; exact h2.lt
theorem OwnB.shape {w : World} {v : Value} {g : Nat} {l : List UInt8} (h : OwnB w v g l) : ∃ c, l.length ≤ c ∧ v = .slice (some ⟨g, 0, none⟩) l.length c := by
  obtain ⟨room, h0, h1, h2⟩ := h; exact ⟨_, Nat.le_add_right _ _, h0⟩

theorem NewB.alt {w w' : World} {v : Value} {l : List UInt8} (h : NewB w w' v l) (b : Nat) : ∃ ob, Bs w' v ob l ∧ (ob < w'.heap.size ∨ ob = b) := by
  have h0 := h
  rcases h0.2 with ⟨rfl, hl⟩ | ⟨g, cap, cur, rfl, h1, h2, _⟩
  · obtain rfl : l = [] := List.eq_nil_of_length_eq_zero hl
    exact ⟨b, .nil _ _ _, .inr rfl⟩
  · obtain ⟨ob, hs, h3⟩ := h.bs
    rcases hs.cases with ⟨hv, _⟩ | ⟨off, sp, cap', hv, _⟩
    · simp at hv
    · simp only [Value.slice.injEq, Option.some.injEq, Addr.mk.injEq] at hv
      have : g = ob := hv.1.1
      subst this
      exact ⟨g, hs, .inl (size_heap h2)⟩
theorem NewB.shape {w w' : World} {v : Value} {l : List UInt8} (h : NewB w w' v l) : ∃ a c, v = .slice a l.length c := by
  obtain ⟨ob, hb, _⟩ := h.bs; exact hb.shape

/-- the bytes 1 .. 8 -/
def eight : List UInt8 := [1, 2, 3, 4, 5, 6, 7, 8]
theorem eight_lit (w : World) : Bs (w.alloc (.cells #[.int .u8 1, .int .u8 2, .int .u8 3, .int .u8 4, .int .u8 5, .int .u8 6, .int .u8 7, .int .u8 8] 5)) (.slice (some ⟨w.heap.size, 0, none⟩) 8 8) w.heap.size eight :=
  Sl.lit w (eight.map BV) _ 1 8 rfl (by decide)

theorem be_mod (n x : Nat) : be n (x % 256 ^ n) = be n x := by
  unfold be
  refine List.map_congr_left fun i hi => ?_
  have hi' : i < n := by simpa using hi
  congr 1
  have h1 : 256 ^ n = 256 ^ (n - 1 - i) * 256 ^ (i + 1) := by rw [← Nat.pow_add]; congr 1; omega
  rw [h1, Nat.mod_mul_right_div_self, Nat.pow_succ, Nat.mod_mul_left_mod]

/-- the first bytes of a slice of one's own -/
theorem OwnB.head {w : World} {v : Value} {g : Nat} {l m : List UInt8} (h : OwnB w v g (l ++ m)) : ∃ c, l.length ≤ c ∧ v = .slice (some ⟨g, 0, none⟩) (l.length + m.length) c ∧ Bs w (.slice (some ⟨g, 0, none⟩) l.length c) g l := by
  have hb := h.bs
  obtain ⟨c, hc, rfl⟩ := h.shape
  rw [List.length_append] at *
  refine ⟨c, by omega, rfl, ?_⟩
  have := hb.cut1 (pos := 0) (m := l.length) (by simp)
  simpa [Addr.add] using this
theorem Put32_own (w : World) (v : Value) (ob : Nat) (l : List UInt8) (x : Nat) (y : Int) (hy : y = ((x % 256 ^ 4 : Nat) : Int)) (h : Bs w v ob l) (hl : l.length ≤ 1000000) :
    Calls Try.prog 58 #[v, .int .u32 y] w fun e w' => ∃ g c, e = .returned (.slice (some ⟨g, 0, none⟩) (l.length + 4) c) ∧ OwnB w' (.slice (some ⟨g, 0, none⟩) (l.length + 4) c) g (l ++ be 4 x) ∧ w.heap.size ≤ g ∧ g < w'.heap.size ∧ Ext [] w w' := by
  subst hy
  refine (Put32_any w v ob l _ h hl).mono ?_
  rintro e w' ⟨v', rfl, hN, hE⟩
  rw [be_mod] at hN
  obtain ⟨g, h1, h2, h3⟩ := hN.own (by rw [← List.length_pos_iff]; simp [be_length])
  obtain ⟨c, _, rfl⟩ := h1.shape
  rw [List.length_append, be_length] at *
  exact ⟨g, c, rfl, h1, h2, h3, hE⟩
theorem w16 (x : Nat) : IntKind.u16.wrap (x : Int) = ((x % 256 ^ 2 : Nat) : Int) := by rw [wrap_u16_mod]; simp
theorem w32 (x : Nat) : (x : Int) % 4294967296 = ((x % 256 ^ 4 : Nat) : Int) := by simp
theorem w64 (x : Nat) (h : (x : Int) ≤ 18446744073709551615) : (x : Int) = ((x % 256 ^ 8 : Nat) : Int) := by rw [Nat.mod_eq_of_lt (by simp; omega)]

/-- block g begins with n bytes, whatever they are -/
def Inc (w : World) (g n : Nat) : Prop := ∃ cells, Blk w g 5 cells ∧ ∀ j, j < n → ∃ z : Int, cells[j]? = some (.int .u8 z) ∧ 0 ≤ z ∧ z ≤ 255
theorem Inc.of {w : World} {v : Value} {g n : Nat} {l : List UInt8} (hn : l.length = n) (h : OwnB w v g l) : Inc w g n := by
  obtain ⟨room, _, _, hb⟩ := h
  refine ⟨_, hb, fun j hj => ⟨(l[j]'(by omega)).toNat, ?_, by omega, ?_⟩⟩
  · rw [List.getElem?_append_left (by simpa using (by omega : j < l.length)), List.getElem?_map, List.getElem?_eq_getElem (by omega)]; rfl
  · have := (l[j]'(by omega)).toNat_lt; omega
theorem Inc.at {w : World} {g n m : Nat} (h : Inc w g n) (hm : m < n) : ∃ z : Int, w.cell? ⟨g, m, none⟩ = some (.int .u8 z) ∧ w.frozen? ⟨g, m, none⟩ = false ∧ 0 ≤ z ∧ z ≤ 255 ∧
    ∀ y : Int, 0 ≤ y ∧ y ≤ 255 → Inc (w.setCell ⟨g, m, none⟩ (.int .u8 y)) g n := by
  obtain ⟨cells, hb, hc⟩ := h
  obtain ⟨z, hz, h0, h1⟩ := hc m hm
  refine ⟨z, (hb.cell m).trans hz, hb.frozen m, h0, h1, fun y hy => ⟨_, hb.set m _, fun j hj => ?_⟩⟩
  by_cases hjm : m = j
  · subst hjm
    exact ⟨y, by rw [List.getElem?_set_self (List.getElem?_eq_some_iff.1 hz).1], hy⟩
  · rw [List.getElem?_set_ne hjm]; exact hc j hj

theorem Inc.ext {X : List Nat} {w w' : World} {g n : Nat} (h : Inc w g n) (he : Ext X w w') (hx : g ∉ X) : Inc w' g n := by
  obtain ⟨cells, hb, hc⟩ := h
  exact ⟨cells, hb.ext he hx, hc⟩
theorem NewB.inc {w w' : World} {a : Option Addr} {n c : Nat} {l : List UInt8} (h : NewB w w' (.slice a n c) l) :
    ∃ X : List Nat, (∀ g ∈ X, w.heap.size ≤ g ∧ g < w'.heap.size) ∧ (l ≠ [] → ∃ g ∈ X, a = some ⟨g, 0, none⟩ ∧ Inc w' g l.length) := by
  by_cases hl : l = []
  · exact ⟨[], by simp, fun h => absurd hl h⟩
  · obtain ⟨g, ho, h1, h2⟩ := h.own hl
    refine ⟨[g], by simp [h1, h2], fun _ => ⟨g, by simp, ?_, Inc.of rfl ho⟩⟩
    obtain ⟨c', _, hv⟩ := ho.shape
    simp only [Value.slice.injEq] at hv
    exact hv.1

/-! ## what is read of a slice of bytes that came in -/
set_option maxRecDepth 100000 in
theorem read_bytes {H : Type} {enc : TypeId × Value → H} {W : World} {v : Value} {d : DataW H} {p : List MemPlace} {base : Nat} (h : DataW.Trod enc Try.prog W 0 (fun _ => true) true 29 v d p) (k : Value.okWide Try.prog W .any base 29 v) :
    ∃ a n c, v = .slice a n c ∧ ∃ ob l, l.length = n ∧ Bs W v ob l := by
  obtain ⟨a0, len0, cap0, rfl⟩ := WideShapes.okWide_slice Try.underlying29 k
  refine ⟨_, _, _, rfl, ?_⟩
  obtain ⟨fuel, hf⟩ := h
  rcases ChangeShapes.open_ints Try.underlying29 Try.underlying5 (by kernel_rfl) hf with ⟨hcs, _⟩ | ⟨x, l, c, zs, hcs, _, hl, hm, hz, _, hcell, hwz⟩
  · simp [Value.cells] at hcs
    obtain ⟨rfl, rfl, rfl⟩ := hcs
    exact ⟨0, [], rfl, .nothing' _ _⟩
  · simp [Value.cells] at hcs
    obtain ⟨rfl, rfl, rfl⟩ := hcs
    obtain ⟨b, off, spot⟩ := x
    simp at hz
    have hll : ((zs.take len0).map fun z => UInt8.ofNat z.toNat).length = len0 := by simp; omega
    refine ⟨b, (zs.take len0).map fun z => UInt8.ofNat z.toNat, hll, by simp, .inr ⟨off, spot, cap0, by rw [hll], by omega, hm, ?_, ?_⟩⟩
    · by_cases h0 : len0 = 0
      · exact .inl (by omega)
      · refine .inr ?_
        have := hcell 0 (by omega)
        simpa [Addr.add] using World.cell?_spot this
    · intro j u hu
      simp only [List.getElem?_map, Option.map_eq_some_iff] at hu
      obtain ⟨_, ⟨z, hz1, rfl⟩, rfl⟩ := hu
      rw [List.getElem?_take] at hz1
      split at hz1
      · rename_i hj
        obtain ⟨hj2, rfl⟩ := List.getElem?_eq_some_iff.1 hz1
        have hc := hcell j hj2
        have hsp : spot = none := by
          have := hcell 0 (by omega)
          simpa [Addr.add] using World.cell?_spot this
        subst hsp
        rw [add_off] at hc
        rw [hc]
        have hw := bounds_u8 (hwz _ (List.getElem_mem hj2))
        unfold BV
        simp only [List.getD_eq_getElem?_getD, List.getElem?_eq_getElem hj2, Option.getD_some]
        congr 2
        simp
        omega
      · cases hz1
end Go.Proofs.Ytpdfmeaemlgniaa
