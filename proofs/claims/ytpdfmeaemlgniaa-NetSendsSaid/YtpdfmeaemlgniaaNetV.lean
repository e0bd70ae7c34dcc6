
/-
  Nets and parcels as an argument of a law.
-/
import Derived.Test.YtpdfmeaemlgniaaNetA
import Derived.Test.YtpdfmeaemlgniaaRep
import Derived.Test.YtpdfmeaemlgniaaOctG
namespace Go.Proofs.Ytpdfmeaemlgniaa
open Go.RowKit
open Go.Lib
set_option linter.unusedVariables false

abbrev ByteSh : Sh := .slice (.int .u8)
abbrev ParSh : Sh := .pair (.int .u64) (.pair (.int .i64) (.pair (.int .i64) (.pair ByteSh (.pair .bool .unit))))
abbrev ParsSh : Sh := .slice ParSh
abbrev NetSh : Sh := .pair (.int .u64) (.pair ParsSh .unit)
def byteOf (n : Int) : UInt8 := UInt8.ofNat n.toNat
def parOf (x : Int × Int × Int × List Int × Bool × Unit) : Par := ⟨x.1.toNat, x.2.1, x.2.2.1, x.2.2.2.1.map byteOf, x.2.2.2.2.1⟩
theorem rep_bs {W : World} {base : Nat} {v : Value} {l : List Int} (h : Rep W base ByteSh [v] l) : ∃ oc, Bs W v oc (l.map byteOf) := by
  rcases h with ⟨h1, h2⟩ | ⟨ob, off, sp, cap, h1, h2, h3, h4, h5⟩
  · simp only [List.cons.injEq, and_true] at h1
    subst h1
    have h2 : l = [] := h2
    subst h2
    exact ⟨0, Sl.nil _ _ _⟩
  · simp only [List.cons.injEq, and_true] at h1
    subst h1
    refine ⟨ob, ⟨by simp, .inr ⟨off, sp, cap, by rw [List.length_map]; rfl, by rw [List.length_map]; exact h2, h3, ?_, ?_⟩⟩⟩
    · rw [List.length_map]
      rcases h4 with h4 | ⟨h4, _⟩
      · refine .inl ?_
        have h4 : l.length * 1 = 0 := h4
        omega
      · exact .inr h4
    · intro j u hu
      rw [List.getElem?_map, List.getElem?_map, Option.map_map, Option.map_eq_some_iff] at hu
      obtain ⟨k, hk, rfl⟩ := hu
      obtain ⟨cs', a1, a2, a3⟩ := h5 j k hk
      obtain ⟨rfl, b⟩ := a3
      have := a2 0 _ rfl
      have e : j * (Sh.int .u8).size + 0 = j := by show j * 1 + 0 = j; omega
      rw [e] at this
      rw [this]
      have := bounds_u8 b
      show some (Value.int .u8 k) = some (BV (byteOf k))
      unfold byteOf BV
      congr 2
      rw [UInt8.toNat_ofNat']
      omega
/-- a parcel's five cells -/
theorem rep_par {W : World} {base : Nat} {cs : List Value} {x : Int × Int × Int × List Int × Bool × Unit} (h : Rep W base ParSh cs x) : ∃ r : PRaw, cs = r.row ∧ PIs [] W r (parOf x) := by
  obtain ⟨c1, c2, rfl, ⟨rfl, b1⟩, c3, c4, rfl, ⟨rfl, b2⟩, c5, c6, rfl, ⟨rfl, b3⟩, c7, c8, rfl, hb, c9, c10, rfl, h9, rfl⟩ := h
  have h9 : c9 = [.bool x.2.2.2.2.1] := h9
  subst h9
  obtain ⟨v1, rfl⟩ : ∃ v1, c7 = [v1] := by
    have := hb.length
    match c7, this with
    | [v1], _ => exact ⟨v1, rfl⟩
  obtain ⟨oc, hB⟩ := rep_bs hb
  have := bounds_u64 b1
  refine ⟨⟨x.1.toNat, x.2.1, x.2.2.1, v1, x.2.2.2.2.1⟩, ?_, rfl, rfl, rfl, rfl, oc, by simp, hB⟩
  unfold PRaw.row
  have e : ((x.1.toNat : Nat) : Int) = x.1 := by omega
  rw [e]; rfl
theorem rep_pars {W : World} {base : Nat} {v : Value} {l : List (Int × Int × Int × List Int × Bool × Unit)} (h : Rep W base ParsSh [v] l) : Ps W v (l.map parOf) := by
  rcases h with ⟨h1, h2⟩ | ⟨ob, off, sp, cap, h1, h2, h3, h4, h5⟩
  · simp only [List.cons.injEq, and_true] at h1
    subst h1
    have h2 : l = [] := h2
    subst h2
    exact Ps.nil _
  · simp only [List.cons.injEq, and_true] at h1
    subst h1
    have hex : ∀ i, i < l.length → ∃ r : PRaw, ∀ x, l[i]? = some x → PIs [] W r (parOf x) ∧ ∀ j u, r.row[j]? = some u → W.cell? ⟨ob, off + (i * 5 + j), none⟩ = some u := by
      intro i hi
      have hx : l[i]? = some l[i] := List.getElem?_eq_getElem hi
      obtain ⟨cs', a1, a2, a3⟩ := h5 i _ hx
      obtain ⟨r, rfl, b1⟩ := rep_par a3
      refine ⟨r, fun x hx' => ?_⟩
      rw [hx] at hx'
      obtain rfl := Option.some.inj hx'
      exact ⟨b1, fun j u hu => a2 j u hu⟩
    obtain ⟨rs, hl, hrs⟩ := build_list (α := PRaw) (Q := fun i r => ∀ x, l[i]? = some x → PIs [] W r (parOf x) ∧ ∀ j u, r.row[j]? = some u → W.cell? ⟨ob, off + (i * 5 + j), none⟩ = some u) l.length hex
    have hrs : ∀ (i : Nat) r, rs[i]? = some r → ∀ x, l[i]? = some x → PIs [] W r (parOf x) ∧ ∀ j u, r.row[j]? = some u → W.cell? ⟨ob, off + (i * 5 + j), none⟩ = some u := hrs
    refine ⟨ob, rs, ⟨by rw [flat_length wideP], .inr ⟨off, sp, cap, by rw [hl]; rfl, by rw [hl]; exact h2, h3, ?_, ?_⟩⟩, by rw [hl, List.length_map], ?_⟩
    · rw [hl]
      rcases h4 with h4 | ⟨h4, _⟩
      · refine .inl ?_
        have h4 : l.length * 5 = 0 := h4
        omega
      · exact .inr h4
    · intro j u hu
      have hj : j < (prows rs).length := (List.getElem?_eq_some_iff.1 hu).1
      rw [flat_length wideP] at hj
      have hr : rs[j / 5]? = some (rs[j / 5]'(by omega)) := List.getElem?_eq_getElem (by omega)
      have hx : l[j / 5]? = some (l[j / 5]'(by omega)) := List.getElem?_eq_getElem (by omega)
      have ht := flat_at wideP rs (j / 5) _ hr (j % 5) (by omega)
      rw [show j / 5 * 5 + j % 5 = j by omega, hu] at ht
      have := (hrs _ _ hr _ hx).2 (j % 5) u ht.symm
      rwa [show j / 5 * 5 + j % 5 = j by omega] at this
    · intro k r t hr ht
      rw [List.getElem?_map, Option.map_eq_some_iff] at ht
      obtain ⟨x, hx, rfl⟩ := ht
      exact (hrs k r hr x hx).1
/-- a net's two cells -/
theorem rep_net {W : World} {base : Nat} {cs : List Value} {x : Int × List (Int × Int × Int × List Int × Bool × Unit) × Unit} (h : Rep W base NetSh cs x) : ∃ (s : Nat) (u : Value), s < 18446744073709551616 ∧ cs = [.int .u64 (s : Int), u] ∧ Ps W u (x.2.1.map parOf) := by
  obtain ⟨c1, c2, rfl, ⟨rfl, b1⟩, c3, c4, rfl, hp, rfl⟩ := h
  obtain ⟨v1, rfl⟩ : ∃ v1, c3 = [v1] := by
    have := hp.length
    match c3, this with
    | [v1], _ => exact ⟨v1, rfl⟩
  have := bounds_u64 b1
  have e : ((x.1.toNat : Nat) : Int) = x.1 := by omega
  exact ⟨x.1.toNat, v1, by omega, by rw [e]; rfl, rep_pars hp⟩
set_option maxRecDepth 100000 in
theorem read_net {H : Type} {enc : TypeId × Value → H} {W : World} {v : Value} {d : DataW H} {p : List MemPlace} {base : Nat} (h : DataW.Trod enc Try.prog W 0 (fun _ => true) true 25 v d p) (k : Value.okWide Try.prog W .any base 25 v) :
    ∃ (s : Nat) (u : Value) (l : List Par), s < 18446744073709551616 ∧ v = NV s u ∧ Ps W u l := by
  obtain ⟨cs, rfl, hcs⟩ := WideShapes.okWide_struct Try.underlying25 k
  obtain ⟨l, hl⟩ := trod_rep (s := NetSh) 12 (by kernel_rfl) h
  have hl' : Rep W W.heap.size NetSh cs.toList l := hl
  obtain ⟨s, u, h1, h2, h3⟩ := rep_net hl'
  have hcs' : cs = #[.int .u64 (s : Int), u] := by
    apply Array.toList_inj.1
    rw [h2]
  subst hcs'
  exact ⟨s, u, _, h1, rfl, h3⟩
end Go.Proofs.Ytpdfmeaemlgniaa
