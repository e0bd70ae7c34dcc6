
/-
  Lists of what is done, as an argument of a law.
-/
import Derived.Test.YtpdfmeaemlgniaaNetOp
import Derived.Test.YtpdfmeaemlgniaaNetTW
namespace Go.Proofs.Ytpdfmeaemlgniaa
open Go.RowKit
open Go.Lib hiding intOf
set_option linter.unusedVariables false
abbrev OpsSh : Sh := .slice OpSh
structure OX where
  o : OpR
  a : Option Addr
  c : Nat
  ob : Nat
/-- an op's eight cells from a place on -/
def O8 (w : World) (b f : Nat) (x : OX) : Prop := w.cell? ⟨b, f, none⟩ = some (.int .i64 x.o.kind) ∧ w.cell? ⟨b, f + 1, none⟩ = some (.int .i64 x.o.fr) ∧ w.cell? ⟨b, f + 2, none⟩ = some (.int .i64 x.o.tt) ∧ w.cell? ⟨b, f + 3, none⟩ = some (.int .i64 x.o.at_) ∧ w.cell? ⟨b, f + 4, none⟩ = some (.int .i64 x.o.place) ∧ w.cell? ⟨b, f + 5, none⟩ = some (.bool x.o.other) ∧ w.cell? ⟨b, f + 6, none⟩ = some (.int .u8 (x.o.by_.toNat : Int)) ∧ w.cell? ⟨b, f + 7, none⟩ = some (.slice x.a x.o.bs.length x.c)
theorem O8.ext {w w' : World} {b f : Nat} {x : OX} (h : O8 w b f x) (he : Ext [] w w') : O8 w' b f x := ⟨cells_ext he h.1, cells_ext he h.2.1, cells_ext he h.2.2.1, cells_ext he h.2.2.2.1, cells_ext he h.2.2.2.2.1, cells_ext he h.2.2.2.2.2.1, cells_ext he h.2.2.2.2.2.2.1, cells_ext he h.2.2.2.2.2.2.2⟩
/-- it reads as these ops -/
def OpsAt (w : World) (a : Option Addr) (L : List OX) : Prop := ∀ (i : Nat) x, L[i]? = some x → (∃ ob o, a = some ⟨ob, o, none⟩ ∧ O8 w ob (o + i * 8) x) ∧ Bs w (.slice x.a x.o.bs.length x.c) x.ob x.o.bs ∧ x.o.in64
theorem OpsAt.ext {w w' : World} {a : Option Addr} {L : List OX} (h : OpsAt w a L) (he : Ext [] w w') : OpsAt w' a L := fun i x hx => by
  obtain ⟨⟨ob, o, h1, h2⟩, h3, h4⟩ := h i x hx
  exact ⟨⟨ob, o, h1, h2.ext he⟩, h3.ext he (by simp), h4⟩
set_option maxRecDepth 100000 in
theorem read_ops {H : Type} {enc : TypeId × Value → H} {W : World} {v : Value} {d : DataW H} {p : List MemPlace} {base : Nat} (h : DataW.Trod enc Try.prog W 0 (fun _ => true) true 26 v d p) (k : Value.okWide Try.prog W .any base 26 v) :
    ∃ a c L, v = .slice a (List.length L) c ∧ L.length ≤ maxLen ∧ OpsAt W a L := by
  obtain ⟨a0, len0, cap0, rfl⟩ := WideShapes.okWide_slice Try.underlying26 k
  obtain ⟨l, hl⟩ := trod_rep (s := OpsSh) 14 (by kernel_rfl) h
  have hl' : Rep W W.heap.size OpsSh [.slice a0 len0 cap0] l := rep_one hl rfl
  rcases hl' with ⟨h1, h2⟩ | ⟨ob, off, sp, cap, h1, h2, h3, h4, h5⟩
  · simp only [List.cons.injEq, and_true, Value.slice.injEq] at h1
    obtain ⟨rfl, rfl, rfl⟩ := h1
    exact ⟨none, 0, [], rfl, by simp, fun i z h => by simp at h⟩
  · simp only [List.cons.injEq, and_true, Value.slice.injEq] at h1
    obtain ⟨rfl, rfl, rfl⟩ := h1
    have hex : ∀ i, i < List.length (α := OpSh.Val) l → ∃ x : OX, O8 W ob (off + i * 8) x ∧ Bs W (.slice x.a x.o.bs.length x.c) x.ob x.o.bs ∧ x.o.in64 := by
      intro i hi
      obtain ⟨y, hx⟩ : ∃ y, nth (α := OpSh.Val) l i = some y := ⟨_, List.getElem?_eq_getElem (l := (l : List OpSh.Val)) hi⟩
      obtain ⟨cs', a1, a2, a3⟩ := h5 i _ hx
      obtain ⟨a, c, oc, rfl, hb, hin⟩ := rep_op a3
      exact ⟨⟨_, a, c, oc⟩, ⟨a2 0 _ rfl, a2 1 _ rfl, a2 2 _ rfl, a2 3 _ rfl, a2 4 _ rfl, a2 5 _ rfl, a2 6 _ rfl, a2 7 _ rfl⟩, hb, hin⟩
    obtain ⟨L, hL, hrs⟩ := build_list (α := OX) (Q := fun i x => O8 W ob (off + i * 8) x ∧ Bs W (.slice x.a x.o.bs.length x.c) x.ob x.o.bs ∧ x.o.in64) (List.length (α := OpSh.Val) l) hex
    refine ⟨_, _, L, by rw [hL], by rw [hL]; exact Nat.le_trans h2 h3, fun i x hx => ?_⟩
    have hlen : 0 < List.length (α := OpSh.Val) l := by have := (List.getElem?_eq_some_iff.1 hx).1; omega
    refine ⟨⟨ob, off, ?_, (hrs i x hx).1⟩, (hrs i x hx).2⟩
    rcases h4 with h4 | ⟨h4, _⟩
    · have h4 : List.length (α := OpSh.Val) l * 8 = 0 := h4
      omega
    · rw [h4]
end Go.Proofs.Ytpdfmeaemlgniaa
