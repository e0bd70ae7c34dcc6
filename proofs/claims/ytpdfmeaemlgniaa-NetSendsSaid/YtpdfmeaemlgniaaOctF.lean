
import Derived.Test.YtpdfmeaemlgniaaOctE
namespace Go.Proofs.Ytpdfmeaemlgniaa
open Go.RowKit
set_option linter.unusedVariables false

theorem RdAt.drewN {w : World} {b ob : Nat} {own : Value} {r : R} (h : RdAt w b ob own r) (n : Nat) : RdAt (w.drewN n) b ob own r := ⟨h.blk, h.own, h.ne, h.sp, h.le, h.small⟩

theorem RdAt.move {w : World} {b ob ob' : Nat} {own : Value} {r : R} (h : RdAt w b ob own r) (hn : own = .slice none 0 0) (hne : ob' ≠ b) : RdAt w b ob' own r := by
  refine ⟨h.blk, ?_, hne, h.sp, h.le, h.small⟩
  rcases h.own.cases with ⟨h1, h2⟩ | ⟨_, _, _, h1, _⟩
  · rw [h1, h2]; exact .nothing' _ _
  · rw [hn] at h1; simp at h1

/-! ## wakes -/
/-! ## OctetNil -/
end Go.Proofs.Ytpdfmeaemlgniaa
