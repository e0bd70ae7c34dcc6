
/-
  What an op leaves is no longer than what is gone through. (Plain mathematics.)
-/
import Derived.Test.YtpdfmeaemlgniaaNetOM
import Derived.Test.YtpdfmeaemlgniaaNetS
namespace Go.Proofs.Ytpdfmeaemlgniaa
set_option linter.unusedVariables false
theorem shortL_id {l : List Par} (h1 : l.length ≤ 20001) (h2 : ∀ p ∈ l, p.bs.length ≤ 60001) : shortL l = l := by
  unfold shortL
  rw [List.take_of_length_le h1]
  conv => rhs; rw [← List.map_id l]
  refine List.map_congr_left fun p hp => ?_
  show cutP p = p
  unfold cutP
  rw [List.take_of_length_le (h2 p hp)]
abbrev Low (l : List Par) : Prop := ∀ p ∈ l, p.bs.length ≤ 60001
theorem addM_low {n : Nt} {x : Par} (h : Low n.ps) (hx : x.bs.length ≤ 60001) : Low (addM n x).n.ps := by
  unfold addM
  split
  · intro p hp; cases hp
  · intro p hp
    rcases List.mem_append.1 hp with hp | hp
    · exact h p hp
    · simp at hp; subst hp; exact hx
theorem atM_low {n : Nt} {k : Nat} {g : Nat → Par → Told} (h : ∀ i p, p ∈ n.ps → Low (g i p).n.ps) : Low (atM n k g).n.ps := by
  unfold atM
  split
  · intro p hp; cases hp
  · rename_i p hp; exact h _ _ (List.mem_of_getElem? hp)
theorem OpR.tells_low (o : OpR) (s : Nat) (l : List Par) (h : Low l) : Low (o.tells s l).n.ps := by
  have hc : ∀ k, Low (comeM ⟨s, l⟩ k).n.ps := fun k => atM_low fun i p hp q hq => h q (List.mem_of_mem_eraseIdx hq)
  unfold OpR.tells ofM
  split
  · unfold OpR.does
    split
    · unfold sendM
      split
      · intro p hp; cases hp
      · split
        · intro p hp; cases hp
        · exact addM_low (n := ⟨s, l⟩) h (by show o.bts.length ≤ _; unfold OpR.bts; rw [List.length_take]; omega)
    · split
      · exact hc _
      · split
        · exact hc _
        · split
          · unfold dropM
            split
            · intro p hp; cases hp
            · intro p hp; exact h p (List.mem_filter.1 hp).1
          · split
            · exact atM_low fun i p hp => addM_low (n := ⟨s, l⟩) h (h p hp)
            · refine atM_low fun i p hp => ?_
              split
              · intro p hp; cases hp
              · split
                · intro p hp; cases hp
                · intro q hq
                  rcases List.mem_or_eq_of_mem_set hq with hq | rfl
                  · exact h q hq
                  · show (p.bs.modify _ _).length ≤ _
                    rw [List.length_modify]; exact h p hp
  · intro p hp; cases hp
theorem OpR.tells_ok {o : OpR} {s : Nat} {l : List Par} (h : (o.tells s l).e = 0) : l.length ≤ 20000 := by
  unfold OpR.tells ofM at h
  split at h
  · rename_i hr; exact (right_len hr).2.1
  · exact absurd h (by decide)
theorem OpR.tells_short {o : OpR} {s : Nat} {l : List Par} (h : (o.tells s l).e = 0) : (o.tells s l).n.ps.length ≤ 20001 := by
  have := o.tells_len s l
  have := OpR.tells_ok h
  omega
end Go.Proofs.Ytpdfmeaemlgniaa
