/-
  A region that draws, of loads and of stores into what is loaded: S is asked behind every operation but those of D, each of which waits for the loads.
-/
import Derived.OrdersHeld
import Derived.Deep.RegionHeld
namespace Go.Proofs.Ytpdfmeaemlgniaa
open Go
set_option linter.unusedVariables false

section
variable {P : Program} {ops : Array Oper} {Q : Exit → Act → World → Prop} {md : Region.Mode} {S : World → Prop} {D : List Nat}
/-- in whatever order; S behind each that is not of D -/
def HeldBut (P : Program) (md : Region.Mode) (ops : Array Oper) (Q : Exit → Act → World → Prop) (S : World → Prop) (D : List Nat) (left : Nat) (listed : Array Bool) (a : Act) (w : World) : Prop :=
  match left with
  | 0 => Region.ready md ops listed = [] ∧ Q .normal a w
  | n + 1 => (Region.ready md ops listed = [] → Q .normal a w) ∧
    ∀ i ∈ Region.ready md ops listed, wpOp P ops Q i (fun b u => (i ∉ D → S u) ∧ HeldBut P md ops Q S D n (listed.setIfInBounds i true) b u) a w
theorem HeldBut.any : ∀ {n : Nat} {listed : Array Bool} {a : Act} {w : World}, HeldBut P md ops Q S D n listed a w → wpAny P md ops Q n listed a w
  | 0, _, _, _, h => h
  | _ + 1, _, _, _, h => ⟨h.1, fun i hi => wpOp_mono (fun _ _ k => HeldBut.any k.2) (h.2 i hi)⟩
/-- number i waits for none that has not come up; whoever waits for it has not come up either -/
theorem not_waits {i j : Nat} {listed : Array Bool} {o : Oper} (hi : i ∈ Region.ready md ops listed) (hj : ops[j]? = some o) (hr : ∀ e ∈ o.after, Region.binds md e = true → listed.getD e.on false = true) :
    ∀ e ∈ o.after, Region.binds md e = true → e.on ≠ i := by
  rintro e he hb rfl
  have h1 := hr e he hb
  have h0 := (mem_ready.1 hi).1
  by_cases hl : e.on < listed.size
  · simp [hl] at h0 h1
    rw [h0] at h1
    cases h1
  · have hn : listed[e.on]? = none := Array.getElem?_eq_none (by omega)
    simp [hn] at h0 h1
theorem HeldBut.first {i : Nat} {oi : Oper} {v : Value} (hi : ops[i]? = some oi) (hsel : ∀ (j : Nat) (o : Oper) cs b, ops[j]? = some o → o.op ≠ .select cs b) (hQ : ∀ c a w, Q (.panic c) (a.put oi.dst v) w → Q (.panic c) a w)
    (hD : ∀ j ∈ D, ∀ o, ops[j]? = some o → ∃ e ∈ o.after, Region.binds md e = true ∧ e.on = i) (n : Nat) :
    ∀ {listed : Array Bool} {a : Act} {w : World}, (∀ j oj, ops[j]? = some oj → j ≠ i → listed.getD j true = false → (∀ e ∈ oj.after, Region.binds md e = true → e.on ≠ i) → oi.apart ops oj = true) →
      i ∈ Region.ready md ops listed → YieldsIf P ops S oi v a → S w → HeldBut P md ops Q S D n (listed.setIfInBounds i true) (a.put oi.dst v) w → HeldBut P md ops Q S D (n + 1) listed a w := by
  induction n with
  | zero =>
    intro listed a w _ hr hy hS H
    refine ⟨fun h0 => absurd (h0 ▸ hr) (by simp), fun j hj => ?_⟩
    by_cases hji : j = i
    · subst hji
      exact hy.wpOp hi hS ⟨fun _ => hS, H⟩
    · have := ready_mono hj hji
      rw [H.1] at this
      cases this
  | succ n ih =>
    intro listed a w hfree hr hy hS H
    refine ⟨fun h0 => absurd (h0 ▸ hr) (by simp), fun j hj => ?_⟩
    by_cases hji : j = i
    · subst hji
      exact hy.wpOp hi hS ⟨fun _ => hS, H⟩
    · obtain ⟨hun, oj, hoj, hall⟩ := mem_ready.1 hj
      have hno := not_waits hr hoj hall
      have hjD : j ∉ D := fun hm => by
        obtain ⟨e, he, hb, heq⟩ := hD j hm oj hoj
        exact hno e he hb heq
      refine wpOp_mono (fun b u k => ⟨fun _ => k.2.1 hjD, ?_⟩) (wpOp_putIf hoj (hfree j oj hoj hji hun hno) (fun cs b => hsel i oi cs b hi) (fun cs b => hsel j oj cs b hoj) hQ hy (H.2 j (ready_mono hj hji)))
      refine ih (fun k ok hk hki hkun hkno => hfree k ok hk hki ?_ hkno) (ready_mono hr (Ne.symm hji)) k.1 (k.2.1 hjD) (by rw [Array.setIfInBounds_comm _ _ hji]; exact k.2.2)
      by_cases hjk : j = k
      · subst hjk; exact hun
      · rwa [getD_set_ne true hjk] at hkun
/-- does each of D wait for number i? -/
def waitsB (md : Region.Mode) (ops : Array Oper) (D : List Nat) (i : Nat) : Bool := D.all fun j => match ops[j]? with
  | none => true
  | some o => o.after.any fun e => Region.binds md e && e.on == i
theorem waits_spec {i : Nat} (h : waitsB md ops D i = true) : ∀ j ∈ D, ∀ o, ops[j]? = some o → ∃ e ∈ o.after, Region.binds md e = true ∧ e.on = i := by
  intro j hj o ho
  have := List.all_eq_true.1 h j hj
  rw [ho] at this
  obtain ⟨e, he, hb⟩ := Array.any_eq_true'.1 this
  simp only [Bool.and_eq_true, beq_iff_eq] at hb
  exact ⟨e, he, hb.1, hb.2⟩
/-- take number i first -/
theorem HeldBut.take {i : Nat} {oi : Oper} {v : Value} {n : Nat} {listed : Array Bool} {a : Act} {w : World} (hi : ops[i]? = some oi) (hs : Region.noSelect ops = true) (hf : Region.free md ops listed i = true)
    (hr : (Region.ready md ops listed).contains i = true) (hD : waitsB md ops D i = true) (hQ : ∀ c a w, Q (.panic c) (a.put oi.dst v) w → Q (.panic c) a w) (hy : YieldsIf P ops S oi v a) (hS : S w)
    (h : HeldBut P md ops Q S D n (listed.setIfInBounds i true) (a.put oi.dst v) w) : HeldBut P md ops Q S D (n + 1) listed a w :=
  HeldBut.first hi (Region.noSelect_spec hs) hQ (waits_spec hD) n (Region.free_spec hi hf) (by simpa using hr) hy hS h
theorem HeldBut.firstT {i : Nat} {oi : Oper} {v : Value} (hi : ops[i]? = some oi) (hsel : ∀ (j : Nat) (o : Oper) cs b, ops[j]? = some o → o.op ≠ .select cs b) (hQ : ∀ c a w, Q (.panic c) (a.put oi.dst v) w → Q (.panic c) a w)
    (hD : i ∈ D) (n : Nat) :
    ∀ {listed : Array Bool} {a : Act} {w : World}, (∀ j oj, ops[j]? = some oj → j ≠ i → listed.getD j true = false → (∀ e ∈ oj.after, Region.binds md e = true → e.on ≠ i) → oi.apart ops oj = true) →
      i ∈ Region.ready md ops listed → YieldsIf P ops (fun _ => True) oi v a → HeldBut P md ops Q S D n (listed.setIfInBounds i true) (a.put oi.dst v) w → HeldBut P md ops Q S D (n + 1) listed a w := by
  induction n with
  | zero =>
    intro listed a w _ hr hy H
    refine ⟨fun h0 => absurd (h0 ▸ hr) (by simp), fun j hj => ?_⟩
    by_cases hji : j = i
    · subst hji
      exact hy.wpOp hi trivial ⟨fun h => absurd hD h, H⟩
    · have := ready_mono hj hji
      rw [H.1] at this
      cases this
  | succ n ih =>
    intro listed a w hfree hr hy H
    refine ⟨fun h0 => absurd (h0 ▸ hr) (by simp), fun j hj => ?_⟩
    by_cases hji : j = i
    · subst hji
      exact hy.wpOp hi trivial ⟨fun h => absurd hD h, H⟩
    · obtain ⟨hun, oj, hoj, hall⟩ := mem_ready.1 hj
      have hno := not_waits hr hoj hall
      refine wpOp_mono (fun b u k => ⟨k.2.1, ?_⟩) (wpOp_putIf hoj (hfree j oj hoj hji hun hno) (fun cs b => hsel i oi cs b hi) (fun cs b => hsel j oj cs b hoj) hQ hy (H.2 j (ready_mono hj hji)))
      refine ih (fun k ok hk hki hkun hkno => hfree k ok hk hki ?_ hkno) (ready_mono hr (Ne.symm hji)) k.1 (by rw [Array.setIfInBounds_comm _ _ hji]; exact k.2.2)
      by_cases hjk : j = k
      · subst hjk; exact hun
      · rwa [getD_set_ne true hjk] at hkun
/-- take number i first, which is of D and yields in whatever world -/
theorem HeldBut.takeT {i : Nat} {oi : Oper} {v : Value} {n : Nat} {listed : Array Bool} {a : Act} {w : World} (hi : ops[i]? = some oi) (hs : Region.noSelect ops = true) (hf : Region.free md ops listed i = true)
    (hr : (Region.ready md ops listed).contains i = true) (hD : D.contains i = true) (hQ : ∀ c a w, Q (.panic c) (a.put oi.dst v) w → Q (.panic c) a w) (hy : YieldsIf P ops (fun _ => True) oi v a)
    (h : HeldBut P md ops Q S D n (listed.setIfInBounds i true) (a.put oi.dst v) w) : HeldBut P md ops Q S D (n + 1) listed a w :=
  HeldBut.firstT hi (Region.noSelect_spec hs) hQ (by simpa using hD) n (Region.free_spec hi hf) (by simpa using hr) hy h
/-- one of those that may come up comes up -/
theorem HeldBut.step {i : Nat} {o : Oper} {n : Nat} {listed : Array Bool} {a : Act} {w : World} (ho : ops[i]? = some o)
    (h : ∀ K : Act → World → Prop, Shut (∀ b u, (i ∉ D → S u) → HeldBut P md ops Q S D n (listed.setIfInBounds i true) b u → K b u) → if Region.wanted o (yielded ops a.tmps) = true then Oper.wp P o a w K Q else K (a.put o.dst undef) w) :
    wpOp P ops Q i (fun b u => (i ∉ D → S u) ∧ HeldBut P md ops Q S D n (listed.setIfInBounds i true) b u) a w :=
  wpOp_step ho fun K hK => h K fun b u h1 h2 => hK b u ⟨h1, h2⟩
theorem HeldBut.one {i : Nat} {n : Nat} {listed : Array Bool} {a : Act} {w : World} (hr : Region.ready md ops listed = [i])
    (h : wpOp P ops Q i (fun b u => (i ∉ D → S u) ∧ HeldBut P md ops Q S D n (listed.setIfInBounds i true) b u) a w) : HeldBut P md ops Q S D (n + 1) listed a w :=
  ⟨fun h0 => absurd (hr ▸ h0) (by simp), fun j hj => by
    rw [hr] at hj
    obtain rfl : j = i := by simpa using hj
    exact h⟩
theorem HeldBut.two {i k : Nat} {n : Nat} {listed : Array Bool} {a : Act} {w : World} (hr : Region.ready md ops listed = [i, k])
    (h1 : wpOp P ops Q i (fun b u => (i ∉ D → S u) ∧ HeldBut P md ops Q S D n (listed.setIfInBounds i true) b u) a w)
    (h2 : wpOp P ops Q k (fun b u => (k ∉ D → S u) ∧ HeldBut P md ops Q S D n (listed.setIfInBounds k true) b u) a w) : HeldBut P md ops Q S D (n + 1) listed a w :=
  ⟨fun h0 => absurd (hr ▸ h0) (by simp), fun j hj => by
    rw [hr] at hj
    rcases List.mem_cons.1 hj with rfl | hj
    · exact h1
    · obtain rfl : j = k := by simpa using hj
      exact h2⟩
theorem HeldBut.done {listed : Array Bool} {a : Act} {w : World} (hr : Region.ready md ops listed = []) (h : Q .normal a w) : ∀ n, HeldBut P md ops Q S D n listed a w
  | 0 => ⟨hr, h⟩
  | _ + 1 => ⟨fun _ => h, by rw [hr]; simp⟩
theorem region_but {id : Nat} {a : Act} {w : World} (S : World → Prop) (D : List Nat) (n : Nat) (hn : ops.size = n) (hm : P.follows .mixedOrders = true)
    (h : HeldBut P .any ops Q S D n (Array.replicate n false) a w.drew) : (Code.region id ops true).wp P Q a w := by
  subst hn
  exact wp_region_any hm h.any
end
end Go.Proofs.Ytpdfmeaemlgniaa
