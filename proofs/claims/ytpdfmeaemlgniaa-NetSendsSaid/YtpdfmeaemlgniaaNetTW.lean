
/-
  Lists of nets and of ints as an argument of a law.
-/
import Derived.Test.YtpdfmeaemlgniaaNetV
import Derived.Test.YtpdfmeaemlgniaaNetU
import Derived.Test.YtpdfmeaemlgniaaHeld
namespace Go.Proofs.Ytpdfmeaemlgniaa
open Go.RowKit
open Go.Lib
set_option linter.unusedVariables false

abbrev IntsSh : Sh := .slice (.int .i64)
/-- v reads as the ints l -/
def Zs (w : World) (a : Option Addr) (l : List Int) : Prop := ∀ (i : Nat) z, l[i]? = some z → (-9223372036854775808 ≤ z ∧ z < 9223372036854775808) ∧ ∃ ob o, a = some ⟨ob, o, none⟩ ∧ w.cell? ⟨ob, o + i, none⟩ = some (.int .i64 z)
set_option maxRecDepth 100000 in
theorem read_zs {H : Type} {enc : TypeId × Value → H} {W : World} {v : Value} {d : DataW H} {p : List MemPlace} {base : Nat} (h : DataW.Trod enc Try.prog W 0 (fun _ => true) true 42 v d p) (k : Value.okWide Try.prog W .any base 42 v) :
    ∃ a c l, v = .slice a (List.length l) c ∧ l.length ≤ maxLen ∧ Zs W a l := by
  obtain ⟨a0, len0, cap0, rfl⟩ := WideShapes.okWide_slice Try.underlying42 k
  obtain ⟨l, hl⟩ := trod_rep (s := IntsSh) 12 (by kernel_rfl) h
  have hl' : Rep W W.heap.size IntsSh [.slice a0 len0 cap0] l := rep_one hl rfl
  have l' : List Int := l
  rcases hl' with ⟨h1, h2⟩ | ⟨ob, off, sp, cap, h1, h2, h3, h4, h5⟩
  · simp only [List.cons.injEq, and_true, Value.slice.injEq] at h1
    obtain ⟨rfl, rfl, rfl⟩ := h1
    exact ⟨none, 0, [], rfl, by simp, fun i z h => by simp at h⟩
  · simp only [List.cons.injEq, and_true, Value.slice.injEq] at h1
    obtain ⟨rfl, rfl, rfl⟩ := h1
    refine ⟨_, _, l, rfl, Nat.le_trans h2 h3, fun i z hz => ?_⟩
    obtain ⟨cs', a1, a2, a3⟩ := h5 i z hz
    obtain ⟨rfl, hw⟩ := a3
    have hb := bounds_i64 hw
    refine ⟨by omega, ob, off, ?_, ?_⟩
    · have hlen : 0 < List.length (α := Int) l := by have := (List.getElem?_eq_some_iff.1 hz).1; omega
      rcases h4 with h4 | ⟨h4, _⟩
      · have h4 : List.length (α := Int) l * 1 = 0 := h4
        omega
      · rw [h4]
    · have := a2 0 _ rfl
      have e : i * (Sh.int .i64).size + 0 = i := by show i * 1 + 0 = i; omega
      rwa [e] at this
theorem Zs.ext {w w' : World} {a : Option Addr} {l : List Int} (h : Zs w a l) (he : Ext [] w w') : Zs w' a l := fun i z hz => by
  obtain ⟨h1, ob, o, h2, h3⟩ := h i z hz
  exact ⟨h1, ob, o, h2, cells_ext he h3⟩
abbrev NetsSh : Sh := .slice NetSh
structure NX where
  s : Nat
  v : Value
  l : List Par
/-- it reads as these nets -/
def Ns (w : World) (a : Option Addr) (L : List NX) : Prop := ∀ (i : Nat) x, L[i]? = some x → ∃ ob o, a = some ⟨ob, o, none⟩ ∧ w.cell? ⟨ob, o + i * 2, none⟩ = some (.int .u64 (x.s : Int)) ∧ w.cell? ⟨ob, o + i * 2 + 1, none⟩ = some x.v ∧ Ps w x.v x.l
theorem Ns.ext {w w' : World} {a : Option Addr} {L : List NX} (h : Ns w a L) (he : Ext [] w w') : Ns w' a L := fun i x hx => by
  obtain ⟨ob, o, h1, h2, h3, h4⟩ := h i x hx
  exact ⟨ob, o, h1, cells_ext he h2, cells_ext he h3, h4.ext he⟩
set_option maxRecDepth 100000 in
theorem read_nets {H : Type} {enc : TypeId × Value → H} {W : World} {v : Value} {d : DataW H} {p : List MemPlace} {base : Nat} (h : DataW.Trod enc Try.prog W 0 (fun _ => true) true 41 v d p) (k : Value.okWide Try.prog W .any base 41 v) :
    ∃ a c L, v = .slice a (List.length L) c ∧ L.length ≤ maxLen ∧ Ns W a L := by
  obtain ⟨a0, len0, cap0, rfl⟩ := WideShapes.okWide_slice Try.underlying41 k
  obtain ⟨l, hl⟩ := trod_rep (s := NetsSh) 12 (by kernel_rfl) h
  have hl' : Rep W W.heap.size NetsSh [.slice a0 len0 cap0] l := rep_one hl rfl
  rcases hl' with ⟨h1, h2⟩ | ⟨ob, off, sp, cap, h1, h2, h3, h4, h5⟩
  · simp only [List.cons.injEq, and_true, Value.slice.injEq] at h1
    obtain ⟨rfl, rfl, rfl⟩ := h1
    exact ⟨none, 0, [], rfl, by simp, fun i z h => by simp at h⟩
  · simp only [List.cons.injEq, and_true, Value.slice.injEq] at h1
    obtain ⟨rfl, rfl, rfl⟩ := h1
    have hex : ∀ i, i < List.length (α := NetSh.Val) l → ∃ x : NX, W.cell? ⟨ob, off + i * 2, none⟩ = some (.int .u64 (x.s : Int)) ∧ W.cell? ⟨ob, off + i * 2 + 1, none⟩ = some x.v ∧ Ps W x.v x.l := by
      intro i hi
      obtain ⟨y, hx⟩ : ∃ y, nth (α := NetSh.Val) l i = some y := ⟨_, List.getElem?_eq_getElem (l := (l : List NetSh.Val)) hi⟩
      obtain ⟨cs', a1, a2, a3⟩ := h5 i _ hx
      obtain ⟨s, u, _, rfl, hp⟩ := rep_net a3
      exact ⟨⟨s, u, _⟩, a2 0 _ rfl, a2 1 _ rfl, hp⟩
    obtain ⟨L, hL, hrs⟩ := build_list (α := NX) (Q := fun i x => W.cell? ⟨ob, off + i * 2, none⟩ = some (.int .u64 (x.s : Int)) ∧ W.cell? ⟨ob, off + i * 2 + 1, none⟩ = some x.v ∧ Ps W x.v x.l) (List.length (α := NetSh.Val) l) hex
    refine ⟨_, _, L, by rw [hL], by rw [hL]; exact Nat.le_trans h2 h3, fun i x hx => ?_⟩
    have hlen : 0 < List.length (α := NetSh.Val) l := by have := (List.getElem?_eq_some_iff.1 hx).1; omega
    refine ⟨ob, off, ?_, hrs i x hx⟩
    rcases h4 with h4 | ⟨h4, _⟩
    · have h4 : List.length (α := NetSh.Val) l * 2 = 0 := h4
      omega
    · rw [h4]
end Go.Proofs.Ytpdfmeaemlgniaa
