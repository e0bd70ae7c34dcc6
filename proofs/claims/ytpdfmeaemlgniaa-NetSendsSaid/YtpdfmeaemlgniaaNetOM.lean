
/-
  What an op tells, plainly; and what NetOthers asks of it. (Plain mathematics.)
-/
import Derived.Test.YtpdfmeaemlgniaaNetRunC
namespace Go.Proofs.Ytpdfmeaemlgniaa
set_option linter.unusedVariables false
set_option linter.unusedSimpArgs false
def OpR.does (o : OpR) (s : Nat) (l : List Par) : Told :=
  if o.knd < 3 then sendM ⟨s, l⟩ o.fr o.tt o.bts
  else if o.knd = 3 then comeM ⟨s, l⟩ (o.num l)
  else if o.knd = 4 then { comeM ⟨s, l⟩ (o.num l) with p := zPar }
  else if o.knd = 5 then dropM ⟨s, l⟩ o.fr o.tt
  else if o.knd = 6 then twinM ⟨s, l⟩ (o.num l)
  else spoilM ⟨s, l⟩ (o.num l) o.place o.by_
def OpR.tells (o : OpR) (s : Nat) (l : List Par) : Told := ofM ⟨s, l⟩ (o.does s l)
theorem atM_e {n : Nt} {k : Nat} {g : Nat → Par → Told} (hg : ∀ i p, (g i p).e ≠ 0 → (g i p).n = zNt) (h : (atM n k g).e ≠ 0) : (atM n k g).n = zNt := by
  unfold atM at h ⊢
  split
  · rfl
  · rename_i p hp; rw [hp] at h; exact hg _ _ h
theorem addM_e {n : Nt} {p : Par} (h : (addM n p).e ≠ 0) : (addM n p).n = zNt := by
  unfold addM at h ⊢
  split
  · rfl
  · rename_i hc; rw [if_neg hc] at h; exact absurd rfl h
theorem comeM_e {n : Nt} {k : Nat} (h : (comeM n k).e ≠ 0) : (comeM n k).n = zNt := atM_e (fun i p hh => absurd rfl hh) h
theorem sendM_e {n : Nt} {f t : Int} {b : List UInt8} (h : (sendM n f t b).e ≠ 0) : (sendM n f t b).n = zNt := by
  unfold sendM at h ⊢
  split
  · rfl
  · rename_i h1
    rw [if_neg h1] at h
    split
    · rfl
    · rename_i h2
      rw [if_neg h2] at h
      exact addM_e h
theorem dropM_e {n : Nt} {f t : Int} (h : (dropM n f t).e ≠ 0) : (dropM n f t).n = zNt := by
  unfold dropM at h ⊢
  split
  · rfl
  · rename_i h1; rw [if_neg h1] at h; exact absurd rfl h
theorem spoilM_e {n : Nt} {k : Nat} {z : Int} {y : UInt8} (h : (spoilM n k z y).e ≠ 0) : (spoilM n k z y).n = zNt := by
  refine atM_e (fun i p hh => ?_) h
  split
  · rfl
  · rename_i h1
    rw [if_neg h1] at hh
    split
    · rfl
    · rename_i h2; rw [if_neg h2] at hh; exact absurd rfl hh
theorem OpR.does_none (o : OpR) (s : Nat) (l : List Par) (h : (o.does s l).e ≠ 0) : (o.does s l).n = zNt := by
  unfold OpR.does at h ⊢
  split
  · rename_i h1; rw [if_pos h1] at h; exact sendM_e h
  · rename_i h1
    rw [if_neg h1] at h
    split
    · rename_i h2; rw [if_pos h2] at h; exact comeM_e h
    · rename_i h2
      rw [if_neg h2] at h
      split
      · rename_i h3; rw [if_pos h3] at h; exact comeM_e (n := ⟨s, l⟩) (k := o.num l) h
      · rename_i h3
        rw [if_neg h3] at h
        split
        · rename_i h4; rw [if_pos h4] at h; exact dropM_e h
        · rename_i h4
          rw [if_neg h4] at h
          split
          · rename_i h5; rw [if_pos h5] at h; exact atM_e (fun i p => addM_e) h
          · rename_i h5; rw [if_neg h5] at h; exact spoilM_e h
theorem OpR.tells_none (o : OpR) (s : Nat) (l : List Par) (h : (o.tells s l).e ≠ 0) : (o.tells s l).n = zNt := by
  unfold OpR.tells ofM at h ⊢
  split
  · rename_i h1; rw [if_pos h1] at h; exact o.does_none s l h
  · rfl

/-! ## rising numbers -/
abbrev Rises (l : List Par) : Prop := l.Pairwise (fun p q => p.num < q.num)
theorem Rises.fnd {l : List Par} (hs : Rises l) {j : Nat} {q : Par} (hj : l[j]? = some q) : fnd l q.num = j := by
  have hjl := (List.getElem?_eq_some_iff.1 hj).1
  have hje := (List.getElem?_eq_some_iff.1 hj).2
  have hp := List.pairwise_iff_getElem.1 hs
  rcases fnd_of hs q.num j (by omega) (fun j' p h1 h2 => by
      have := hp j' j (List.getElem?_eq_some_iff.1 h2).1 hjl h1
      rw [hje, (List.getElem?_eq_some_iff.1 h2).2] at this; exact this)
    (fun j' p h1 h2 => by
      by_cases e : j' = j
      · subst e; rw [hj] at h2; cases h2; exact Nat.le_refl _
      · have := hp j j' hjl (List.getElem?_eq_some_iff.1 h2).1 (by omega)
        rw [hje, (List.getElem?_eq_some_iff.1 h2).2] at this; omega) with ⟨p, h1, h2, h3⟩ | ⟨h1, h2⟩
  · exact h3
  · exact absurd rfl (h1 q hj)
theorem Rises.one {l : List Par} (hs : Rises l) {p q : Par} (hp : p ∈ l) (hq : q ∈ l) (h : p.num = q.num) : p = q := by
  obtain ⟨i, hi⟩ := List.getElem?_of_mem hp
  obtain ⟨j, hj⟩ := List.getElem?_of_mem hq
  have h1 := hs.fnd hi
  have h2 := hs.fnd hj
  rw [h, h2] at h1
  subst h1
  rw [hi] at hj
  exact Option.some.inj hj
theorem Rises.there {l : List Par} (hs : Rises l) {p : Par} (hp : p ∈ l) : l[Go.Proofs.Ytpdfmeaemlgniaa.fnd l p.num]? = some p := by
  obtain ⟨i, hi⟩ := List.getElem?_of_mem hp
  rw [hs.fnd hi]; exact hi
theorem fnd_not {l : List Par} {k : Nat} (h : ∀ q ∈ l, q.num ≠ k) : fnd l k = l.length := by
  unfold fnd
  rw [List.findIdx_eq_length]
  intro q hq
  simpa using h q hq

def goneB (K : Nat) (f t : Int) (num : Nat) (p : Par) : Bool := (K == 5 && p.fr == f && p.to == t) || ((K == 3 || K == 4) && p.num == num)
def ownB (K num : Nat) (p : Par) : Bool := K == 7 && p.num == num
/-- what is asked of one parcel -/
def Kept (m : List Par) (g own : Bool) (p : Par) : Prop :=
  if g = true then fnd m p.num = m.length
  else ∃ q, m[fnd m p.num]? = some q ∧ q.fr = p.fr ∧ q.to = p.to ∧ (q.bs == p.bs) = !own ∧ q.sp = (p.sp || own)
theorem Kept.same {m : List Par} {p : Par} (h : m[fnd m p.num]? = some p) : Kept m false false p := by
  unfold Kept
  rw [if_neg (by decide)]
  exact ⟨p, h, rfl, rfl, by simp, by simp⟩
theorem add_kept {n : Nt} {x p : Par} (hr : right n = true) (he : (addM n x).e = 0) (hp : p ∈ n.ps) : Kept (addM n x).n.ps false false p ∧ (addM n x).n.ps.length ≤ n.ps.length + 1 := by
  have hs := chk_sorted (right_len hr).2.2
  have hn := chk_num (right_len hr).2.2
  unfold addM at he ⊢
  split
  · rename_i h; rw [if_pos h] at he; exact absurd he (by decide)
  · refine ⟨Kept.same ?_, by simp⟩
    have hS : Rises (n.ps ++ [{ x with num := n.s + 1 }]) := by
      refine List.pairwise_append.2 ⟨hs, List.pairwise_singleton _ _, fun a ha b hb => ?_⟩
      simp at hb
      subst hb
      have := (hn a ha).2.1
      show a.num < n.s + 1
      omega
    exact hS.there (List.mem_append_left _ hp)
theorem atM_ok {n : Nt} {k : Nat} {g : Nat → Par → Told} (h : (atM n k g).e = 0) : ∃ p, n.ps[fnd n.ps k]? = some p ∧ atM n k g = g (fnd n.ps k) p := by
  unfold atM at h ⊢
  split
  · rename_i hp; rw [hp] at h; exact absurd (show (4 : Int) = 0 from h) (by decide)
  · rename_i p hp; exact ⟨p, hp, rfl⟩
theorem num_of_fnd {l : List Par} {k : Nat} {p : Par} (h : l[fnd l k]? = some p) : p.num = k := by
  obtain ⟨h1, h2⟩ := List.getElem?_eq_some_iff.1 h
  have := List.findIdx_getElem (p := fun p : Par => p.num == k) (w := h1)
  have h3 : (l[fnd l k].num == k) = true := this
  rw [h2] at h3
  simpa using h3
theorem come_kept {n : Nt} {k : Nat} {p : Par} (hr : right n = true) (he : (comeM n k).e = 0) (hp : p ∈ n.ps) : Kept (comeM n k).n.ps (p.num == k) false p ∧ (comeM n k).n.ps.length ≤ n.ps.length + 1 := by
  have hs : Rises n.ps := chk_sorted (right_len hr).2.2
  obtain ⟨c, hc, e⟩ := atM_ok he
  unfold comeM
  rw [e]
  have hck := num_of_fnd hc
  have hcm := List.mem_of_getElem? hc
  have hsub : (n.ps.eraseIdx (fnd n.ps k)).Sublist n.ps := List.eraseIdx_sublist _ _
  have hS : Rises (n.ps.eraseIdx (fnd n.ps k)) := List.Pairwise.sublist hsub hs
  refine ⟨?_, Nat.le_succ_of_le hsub.length_le⟩
  show Kept (n.ps.eraseIdx (fnd n.ps k)) _ _ p
  by_cases hk : p.num = k
  · rw [show (p.num == k) = true by simpa using hk]
    unfold Kept
    rw [if_pos rfl]
    refine fnd_not fun q hq hqk => ?_
    obtain ⟨j, hj, hjq⟩ := List.mem_eraseIdx_iff_getElem?.1 hq
    have h1 := hs.fnd hjq
    rw [hqk, hk] at h1
    exact hj h1.symm
  · rw [show (p.num == k) = false by simpa using hk]
    refine Kept.same (hS.there ?_)
    obtain ⟨j, hj⟩ := List.getElem?_of_mem hp
    refine List.mem_eraseIdx_iff_getElem?.2 ⟨j, fun e => ?_, hj⟩
    rw [e, hc] at hj
    cases hj
    exact hk hck
theorem drop_kept {n : Nt} {f t : Int} {p : Par} (hr : right n = true) (he : (dropM n f t).e = 0) (hp : p ∈ n.ps) : Kept (dropM n f t).n.ps (p.fr == f && p.to == t) false p ∧ (dropM n f t).n.ps.length ≤ n.ps.length + 1 := by
  have hs : Rises n.ps := chk_sorted (right_len hr).2.2
  unfold dropM at he ⊢
  split
  · rename_i h; rw [if_pos h] at he; exact absurd he (by decide)
  · have hsub : (n.ps.filter (keepM f t)).Sublist n.ps := List.filter_sublist
    have hS : Rises (n.ps.filter (keepM f t)) := List.Pairwise.sublist hsub hs
    refine ⟨?_, Nat.le_succ_of_le hsub.length_le⟩
    show Kept (n.ps.filter (keepM f t)) _ _ p
    have hkm : keepM f t p = !(p.fr == f && p.to == t) := by unfold keepM; cases h1 : p.fr == f <;> cases h2 : p.to == t <;> simp_all
    cases hg : (p.fr == f && p.to == t)
    · exact Kept.same (hS.there (List.mem_filter.2 ⟨hp, by rw [hkm, hg]; rfl⟩))
    · unfold Kept
      rw [if_pos rfl]
      refine fnd_not fun q hq hqk => ?_
      obtain ⟨h1, h2⟩ := List.mem_filter.1 hq
      have := hs.one h1 hp hqk
      subst this
      rw [hkm, hg] at h2
      exact absurd h2 (by decide)
theorem xor_ne {x y : UInt8} (h : y ≠ 0) : x ^^^ y ≠ x := by
  intro e
  apply h
  have := congrArg (fun z => x ^^^ z) e
  simpa [← UInt8.xor_assoc] using this
theorem spoil_kept {n : Nt} {k : Nat} {z : Int} {y : UInt8} {p : Par} (hr : right n = true) (he : (spoilM n k z y).e = 0) (hp : p ∈ n.ps) : Kept (spoilM n k z y).n.ps false (p.num == k) p ∧ (spoilM n k z y).n.ps.length ≤ n.ps.length + 1 := by
  have hs : Rises n.ps := chk_sorted (right_len hr).2.2
  obtain ⟨c, hc, e⟩ := atM_ok he
  unfold spoilM at he ⊢
  rw [e] at he ⊢
  have hck := num_of_fnd hc
  by_cases h1 : c.sp = true
  · rw [if_pos h1] at he; exact absurd he (by decide)
  · rw [if_neg h1] at he ⊢
    by_cases h2 : z < 0 ∨ (c.bs.length : Int) ≤ z ∨ y = 0
    · rw [if_pos h2] at he; exact absurd he (by decide)
    · rw [if_neg h2] at he ⊢
      dsimp only
      have hil := (List.getElem?_eq_some_iff.1 hc).1
      refine ⟨?_, by rw [List.length_set]; omega⟩
      generalize hC : ({ c with bs := c.bs.modify z.toNat (· ^^^ y), sp := true } : Par) = C
      have hCn : C.num = c.num := by rw [← hC]
      have hS : Rises (n.ps.set (fnd n.ps k) C) := by
        refine List.pairwise_iff_getElem.2 fun i j hi hj hij => ?_
        have hp' := List.pairwise_iff_getElem.1 hs i j (by simpa using hi) (by simpa using hj) hij
        have hcv := (List.getElem?_eq_some_iff.1 hc).2
        have hnum : ∀ (i : Nat) (hi : i < n.ps.length), ((n.ps.set (fnd n.ps k) C)[i]'(by simpa using hi)).num = n.ps[i].num := by
          intro i hi
          rw [List.getElem_set]
          split
          · rename_i e; subst e; rw [hCn, hcv]
          · rfl
        rw [hnum i (by simpa using hi), hnum j (by simpa using hj)]
        exact hp'
      by_cases hk : p.num = k
      · rw [show (p.num == k) = true by simpa using hk]
        have hpc : p = c := hs.one hp (List.mem_of_getElem? hc) (by rw [hk, hck])
        subst hpc
        have hat : (n.ps.set (fnd n.ps k) C)[fnd n.ps k]? = some C := by rw [List.getElem?_set_self hil]
        have hf := hS.fnd hat
        rw [hCn] at hf
        unfold Kept
        rw [if_neg (by decide), hf]
        refine ⟨C, hat, by rw [← hC], by rw [← hC], ?_, by rw [← hC]; simp⟩
        rw [← hC]
        dsimp only
        rw [Bool.not_true, beq_eq_false_iff_ne]
        intro hm
        have hz : z.toNat < p.bs.length := by omega
        have := congrArg (fun b => b[z.toNat]?) hm
        simp only [List.getElem?_modify_eq] at this
        rw [List.getElem?_eq_getElem hz] at this
        simp at this
        exact xor_ne (fun h => h2 (.inr (.inr h))) this
      · rw [show (p.num == k) = false by simpa using hk]
        refine Kept.same (hS.there ?_)
        obtain ⟨j, hj⟩ := List.getElem?_of_mem hp
        refine List.mem_of_getElem? (i := j) ?_
        rw [List.getElem?_set_ne, hj]
        intro e
        rw [e, hj] at hc
        cases hc
        exact hk hck
theorem atM_len {n : Nt} {k : Nat} {g : Nat → Par → Told} {m : Nat} (hg : ∀ i p, (g i p).n.ps.length ≤ m) : (atM n k g).n.ps.length ≤ m := by
  unfold atM
  split
  · exact Nat.zero_le _
  · exact hg _ _
theorem addM_len (n : Nt) (p : Par) : (addM n p).n.ps.length ≤ n.ps.length + 1 := by
  unfold addM
  split
  · exact Nat.zero_le _
  · simp
theorem OpR.tells_len (o : OpR) (s : Nat) (l : List Par) : (o.tells s l).n.ps.length ≤ l.length + 1 := by
  have hc : ∀ k, (comeM ⟨s, l⟩ k).n.ps.length ≤ l.length + 1 := fun k => atM_len fun i p => Nat.le_succ_of_le (List.eraseIdx_sublist l i).length_le
  unfold OpR.tells ofM
  split
  · unfold OpR.does
    split
    · unfold sendM
      split
      · exact Nat.zero_le _
      · split
        · exact Nat.zero_le _
        · exact addM_len ⟨s, l⟩ _
    · split
      · exact hc _
      · split
        · exact hc _
        · split
          · unfold dropM
            split
            · exact Nat.zero_le _
            · exact Nat.le_succ_of_le (List.length_filter_le _ _)
          · split
            · exact atM_len fun i p => addM_len ⟨s, l⟩ p
            · refine atM_len fun i p => ?_
              split
              · exact Nat.zero_le _
              · split
                · exact Nat.zero_le _
                · show (l.set i _).length ≤ _
                  rw [List.length_set]; omega
  · exact Nat.zero_le _
/-- what NetOthers asks -/
theorem OpR.others (o : OpR) (s : Nat) (l : List Par) (hr : right ⟨s, l⟩ = true) (he : (o.tells s l).e = 0) :
    (∀ p ∈ l, Kept (o.tells s l).n.ps (goneB o.knd o.fr o.tt (o.num l) p) (ownB o.knd (o.num l) p) p ∧ (o.tells s l).n.ps.length ≤ l.length + 1) := by
  intro p hp
  unfold OpR.tells ofM at he ⊢
  rw [if_pos hr] at he ⊢
  have hk : o.knd < 8 := Nat.mod_lt _ (by decide)
  unfold OpR.does goneB ownB at *
  by_cases h1 : o.knd < 3
  · have e1 : (o.knd == 5) = false := by simp; omega
    have e2 : (o.knd == 3) = false := by simp; omega
    have e3 : (o.knd == 4) = false := by simp; omega
    have e4 : (o.knd == 7) = false := by simp; omega
    rw [if_pos h1] at he ⊢
    simp only [e1, e2, e3, e4, Bool.false_and, Bool.or_false]
    unfold sendM at he ⊢
    split
    · rename_i h; rw [if_pos h] at he; exact absurd he (by decide)
    · rename_i h
      rw [if_neg h] at he
      split
      · rename_i h; rw [if_pos h] at he; exact absurd he (by decide)
      · rename_i h
        rw [if_neg h] at he
        exact add_kept (n := ⟨s, l⟩) hr he hp
  · rw [if_neg h1] at he ⊢
    by_cases h2 : o.knd = 3
    · rw [if_pos h2] at he ⊢
      simp only [h2]
      exact come_kept (n := ⟨s, l⟩) hr he hp
    · rw [if_neg h2] at he ⊢
      by_cases h3 : o.knd = 4
      · rw [if_pos h3] at he ⊢
        simp only [h3]
        exact come_kept (n := ⟨s, l⟩) (k := o.num l) hr he hp
      · rw [if_neg h3] at he ⊢
        by_cases h4 : o.knd = 5
        · rw [if_pos h4] at he ⊢
          simp only [h4]
          simpa using drop_kept (n := ⟨s, l⟩) hr he hp
        · rw [if_neg h4] at he ⊢
          by_cases h5 : o.knd = 6
          · rw [if_pos h5] at he ⊢
            simp only [h5]
            obtain ⟨c, hc, e⟩ := atM_ok he
            unfold twinM at he ⊢
            rw [e] at he ⊢
            exact add_kept (n := ⟨s, l⟩) hr he hp
          · rw [if_neg h5] at he ⊢
            have h7 : o.knd = 7 := by omega
            simp only [h7]
            exact spoil_kept (n := ⟨s, l⟩) hr he hp
end Go.Proofs.Ytpdfmeaemlgniaa
