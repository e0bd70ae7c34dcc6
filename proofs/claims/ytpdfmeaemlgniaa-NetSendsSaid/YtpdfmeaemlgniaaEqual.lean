
import Derived.Test.YtpdfmeaemlgniaaOctA
import Derived.Shelf.Bytes.SlSmallAll
namespace Go.Proofs.Ytpdfmeaemlgniaa
open Go.RowKit
set_option linter.unusedVariables false

/-! ## bytes.Equal -/
theorem Bs.convert {w : World} {v : Value} {ob : Nat} {l : List UInt8} (h : Bs w v ob l) : (convert 29 9 v).run Try.prog w = .ok (.string ⟨l.toArray⟩) w := by
  have e : strOfNums (l.map fun x => (x.toNat : Int)) = ⟨l.toArray⟩ := by
    unfold strOfNums
    rw [List.map_map]
    have : ((fun n => UInt8.ofNat n.toNat) ∘ fun (x : UInt8) => (x.toNat : Int)) = id := by funext x; simp
    rw [this, List.map_id]
  rcases h.cases with ⟨rfl, rfl⟩ | ⟨off, sp, cap, rfl, h1, h2, h3, h4⟩
  · exact run_convert_bytes_zero w _ _ Try.underlying29 Try.underlying5 none 0 _ Try.underlying9
  · by_cases h0 : l = []
    · subst h0
      exact run_convert_bytes_zero w _ _ Try.underlying29 Try.underlying5 _ cap _ Try.underlying9
    · have hl : 0 < l.length := List.length_pos_iff.2 h0
      obtain rfl : sp = none := by rcases h3 with h | h; omega; exact h
      rw [← e]
      refine run_convert_bytes_arg (P := Try.prog) w _ _ Try.underlying29 Try.underlying5 ob off l.length cap _ (by simp) (fun i hi => ?_) _ Try.underlying9
      rw [h4 i hi, List.getD_eq_getElem?_getD, List.getElem?_map, List.getElem?_eq_getElem hi]; rfl

theorem Equal_any (w : World) (va vb : Value) (oa ob : Nat) (la lb : List UInt8) (ha : Bs w va oa la) (hb : Bs w vb ob lb) :
    Calls Try.prog 34 #[va, vb] w fun e w' => e = .returned (.bool (la == lb)) ∧ w = w' := by
  have h1 := ha.convert
  have h2 := hb.convert
  clear ha hb
  go_enter Try.func34, Try.ntmps34
  go_wp2
  go_ret
  exact ⟨rfl, rfl⟩

end Go.Proofs.Ytpdfmeaemlgniaa
