
/-
  What was sent, what is over, and the net: what NetSends holds. (Plain mathematics.)
-/
import Derived.Test.YtpdfmeaemlgniaaNetOM
namespace Go.Proofs.Ytpdfmeaemlgniaa
set_option linter.unusedVariables false
set_option linter.unusedSimpArgs false
def nums (s : Nat) : List Nat := (List.range s).map (· + 1)
theorem nums_succ (s : Nat) : nums (s + 1) = nums s ++ [s + 1] := by unfold nums; rw [List.range_succ, List.map_append]; rfl
theorem nums_mem {s k : Nat} : k ∈ nums s ↔ 1 ≤ k ∧ k ≤ s := by
  unfold nums
  rw [List.mem_map]
  constructor
  · rintro ⟨i, hi, rfl⟩; rw [List.mem_range] at hi; omega
  · rintro ⟨h1, h2⟩; exact ⟨k - 1, List.mem_range.2 (by omega), by omega⟩
def diff : List UInt8 → List UInt8 → Nat
  | a :: x, b :: y => (if a = b then 0 else 1) + diff x y
  | _, _ => 0
def dist (a b : List UInt8) : Nat := (max a.length b.length - min a.length b.length) + diff a b
theorem diff_self : ∀ a : List UInt8, diff a a = 0
  | [] => rfl
  | a :: x => by simp [diff, diff_self x]
theorem dist_self (a : List UInt8) : dist a a = 0 := by unfold dist; rw [diff_self]; omega
theorem diff_eq : ∀ {a b : List UInt8}, a.length = b.length → diff a b = 0 → a = b
  | [], [], _, _ => rfl
  | [], b :: y, h, _ => by simp at h
  | a :: x, [], h, _ => by simp at h
  | a :: x, b :: y, h, e => by
    unfold diff at e
    split at e
    · rename_i hab
      subst hab
      rw [diff_eq (a := x) (b := y) (by simpa using h) (by omega)]
    · omega
theorem dist_eq {a b : List UInt8} (h : dist a b = 0) : a = b := diff_eq (by unfold dist at h; omega) (by unfold dist at h; omega)
theorem diff_modify (f : UInt8 → UInt8) : ∀ (a : List UInt8) (i : Nat), i < a.length → (∀ x, f x ≠ x) → diff (a.modify i f) a = 1
  | [], i, h, _ => by simp at h
  | a :: x, 0, h, hf => by
    rw [List.modify_zero_cons, diff, if_neg (hf a), diff_self]
  | a :: x, i + 1, h, hf => by
    rw [List.modify_succ_cons, diff, if_pos rfl, diff_modify f x i (by simpa using h) hf]
theorem dist_modify {f : UInt8 → UInt8} {a : List UInt8} {i : Nat} (h : i < a.length) (hf : ∀ x, f x ≠ x) : dist (a.modify i f) a = 1 := by
  unfold dist
  rw [diff_modify f a i h hf, List.length_modify]; omega
/-- which nets may be, otherwise said -/
theorem chk_iff {s : Nat} : ∀ {b : Nat} {l : List Par}, chk s b l = true ↔ (∀ p ∈ l, b < p.num ∧ p.num ≤ s ∧ parOK p = true) ∧ Rises l
  | b, [] => ⟨fun _ => ⟨by simp, List.Pairwise.nil⟩, fun _ => rfl⟩
  | b, p :: l => ⟨fun h => ⟨chk_num h, chk_sorted h⟩, fun ⟨h1, h2⟩ => by
      obtain ⟨h3, h4⟩ := List.pairwise_cons.1 h2
      have hp := h1 p (List.mem_cons_self)
      simp only [chk, Bool.and_eq_true, decide_eq_true_eq]
      exact ⟨⟨⟨hp.1, hp.2.1⟩, hp.2.2⟩, chk_iff.2 ⟨fun q hq => ⟨h3 q hq, (h1 q (List.mem_cons_of_mem _ hq)).2⟩, h4⟩⟩⟩
theorem right_iff {s : Nat} {l : List Par} : right ⟨s, l⟩ = true ↔ s ≤ 1099511627776 ∧ l.length ≤ 20000 ∧ (∀ p ∈ l, 0 < p.num ∧ p.num ≤ s ∧ parOK p = true) ∧ Rises l := by
  unfold right
  simp only [Bool.and_eq_true, decide_eq_true_eq, and_assoc]
  rw [chk_iff]
structure SInv (sent : List OpR) (ov : Nat → Bool) (s : Nat) (l : List Par) : Prop where
  hr : right ⟨s, l⟩ = true
  hs : s = sent.length
  ho : ∀ k, ov k = true → k ≤ s
  hn : l.map Par.num = (nums s).filter (fun k => !ov k)
  hp : ∀ p ∈ l, ∃ x, sent[p.num - 1]? = some x ∧ p.fr = x.fr ∧ p.to = x.tt ∧ dist p.bs x.bts = if p.sp = true then 1 else 0
theorem SInv.zero : SInv [] (fun _ => false) 0 [] := ⟨by decide, rfl, by simp, rfl, by simp⟩
theorem SInv.mem {sent : List OpR} {ov : Nat → Bool} {s : Nat} {l : List Par} (h : SInv sent ov s l) {p : Par} (hp : p ∈ l) : 1 ≤ p.num ∧ p.num ≤ s ∧ ov p.num = false := by
  have : p.num ∈ l.map Par.num := List.mem_map_of_mem hp
  rw [h.hn, List.mem_filter, nums_mem] at this
  exact ⟨this.1.1, this.1.2, by simpa using this.2⟩
/-- how many are left -/
def left (ov : Nat → Bool) (j : Nat) : Nat := ((List.range j).filter fun i => !ov (i + 1)).length
theorem left_succ (ov : Nat → Bool) (j : Nat) : left ov (j + 1) = left ov j + if ov (j + 1) = true then 0 else 1 := by
  unfold left
  rw [List.range_succ, List.filter_append, List.length_append]
  cases h : ov (j + 1) <;> simp [h]
theorem SInv.left {sent : List OpR} {ov : Nat → Bool} {s : Nat} {l : List Par} (h : SInv sent ov s l) : left ov sent.length = l.length := by
  have := congrArg List.length h.hn
  rw [List.length_map] at this
  rw [this, ← h.hs]
  unfold nums Go.Proofs.Ytpdfmeaemlgniaa.left
  rw [List.filter_map, List.length_map]
  rfl
/-- with one more -/
theorem SInv.more {sent : List OpR} {ov : Nat → Bool} {s : Nat} {l : List Par} (h : SInv sent ov s l) {x : Par} {o : OpR} (h1 : l.length < 20000) (h2 : s < 1099511627776) (hok : parOK x = true) (hx : x.fr = o.fr ∧ x.to = o.tt ∧ dist x.bs o.bts = if x.sp = true then 1 else 0) :
    SInv (sent ++ [o]) ov (s + 1) (l ++ [{ x with num := s + 1 }]) := by
  obtain ⟨r1, r2, r3, r4⟩ := right_iff.1 h.hr
  refine ⟨right_iff.2 ⟨by omega, by simp; omega, fun p hp => ?_, ?_⟩, by rw [List.length_append, ← h.hs]; rfl, fun k hk => by have := h.ho k hk; omega, ?_, fun p hp => ?_⟩
  · rcases List.mem_append.1 hp with hp | hp
    · have := r3 p hp; exact ⟨this.1, by omega, this.2.2⟩
    · simp at hp; subst hp; exact ⟨Nat.succ_pos _, Nat.le_refl _, hok⟩
  · refine List.pairwise_append.2 ⟨r4, List.pairwise_singleton _ _, fun a ha b hb => ?_⟩
    simp at hb
    subst hb
    have := (r3 a ha).2.1
    show a.num < s + 1
    omega
  · rw [List.map_append, h.hn, nums_succ, List.filter_append]
    congr 1
    have : ov (s + 1) = false := by
      cases e : ov (s + 1)
      · rfl
      · have := h.ho _ e; omega
    simp [this]
  · rcases List.mem_append.1 hp with hp | hp
    · obtain ⟨y, hy, h3⟩ := h.hp p hp
      refine ⟨y, ?_, h3⟩
      rw [List.getElem?_append_left (List.getElem?_eq_some_iff.1 hy).1]; exact hy
    · simp at hp
      subst hp
      refine ⟨o, ?_, hx⟩
      show (sent ++ [o])[s + 1 - 1]? = some o
      rw [Nat.add_sub_cancel, h.hs, List.getElem?_append_right (Nat.le_refl _), Nat.sub_self]; rfl
/-- with some gone -/
theorem SInv.less {sent : List OpR} {ov ov' : Nat → Bool} {s : Nat} {l l' : List Par} (h : SInv sent ov s l) (hs : l'.Sublist l) (ho : ∀ k, ov' k = true → k ≤ s) (hn : l'.map Par.num = (l.map Par.num).filter (fun k => !ov' k)) (hov : ∀ k, ov k = true → ov' k = true) :
    SInv sent ov' s l' := by
  obtain ⟨r1, r2, r3, r4⟩ := right_iff.1 h.hr
  refine ⟨right_iff.2 ⟨r1, by have := hs.length_le; omega, fun p hp => r3 p (hs.subset hp), List.Pairwise.sublist hs r4⟩, h.hs, ho, ?_, fun p hp => h.hp p (hs.subset hp)⟩
  rw [hn, h.hn, List.filter_filter]
  congr 1
  funext k
  cases e : ov k
  · simp
  · simp [hov k e]
theorem SInv.erase {sent : List OpR} {ov : Nat → Bool} {s : Nat} {l : List Par} (h : SInv sent ov s l) {k : Nat} {p : Par} (hp : l[fnd l k]? = some p) : SInv sent (fun j => j == k || ov j) s (l.eraseIdx (fnd l k)) := by
  obtain ⟨r1, r2, r3, r4⟩ := right_iff.1 h.hr
  have hk := num_of_fnd hp
  have hm := h.mem (List.mem_of_getElem? hp)
  have hil := (List.getElem?_eq_some_iff.1 hp).1
  refine h.less (List.eraseIdx_sublist _ _) (fun j hj => ?_) ?_ (fun j hj => by simp [hj])
  · simp at hj
    rcases hj with rfl | hj
    · rw [← hk]; exact hm.2.1
    · exact h.ho j hj
  · have e1 : l.filter (fun q => !(q.num == k || ov q.num)) = l.eraseIdx (fnd l k) := by
      have h2 : ∀ q ∈ l, (!(q.num == k || ov q.num)) = !(q.num == k) := fun q hq => by rw [(h.mem hq).2.2]; simp
      rw [List.filter_congr h2]
      rw [List.eraseIdx_eq_take_drop_succ]
      conv => lhs; rw [← List.take_append_drop (fnd l k) l, List.filter_append]
      have hd : l.drop (fnd l k) = p :: l.drop (fnd l k + 1) := by
        have he := (List.getElem?_eq_some_iff.1 hp).2
        rw [← he]; exact List.drop_eq_getElem_cons hil
      congr 1
      · refine List.filter_eq_self.2 fun q hq => ?_
        obtain ⟨i, hi⟩ := List.getElem?_of_mem hq
        rw [List.getElem?_take] at hi
        split at hi
        · rename_i hlt
          have hf := Rises.fnd r4 hi
          simp only [Bool.not_eq_true', beq_eq_false_iff_ne]
          intro hqk
          rw [hqk] at hf
          omega
        · cases hi
      · rw [hd, List.filter_cons, if_neg (by simp [hk])]
        refine List.filter_eq_self.2 fun q hq => ?_
        obtain ⟨i, hi⟩ := List.getElem?_of_mem hq
        rw [List.getElem?_drop] at hi
        have hf := Rises.fnd r4 hi
        simp only [Bool.not_eq_true', beq_eq_false_iff_ne]
        intro hqk
        rw [hqk] at hf
        omega
    rw [← e1, List.filter_map]
    rfl
/-- what drops out by the way between two nodes -/
def onWay (sent : List OpR) (f t : Int) (j k : Nat) : Bool := decide (1 ≤ k) && decide (k ≤ j) && (match sent[k - 1]? with | some x => x.fr == f && x.tt == t | none => false)
theorem SInv.drop {sent : List OpR} {ov : Nat → Bool} {s : Nat} {l : List Par} (h : SInv sent ov s l) (f t : Int) : SInv sent (fun k => onWay sent f t sent.length k || ov k) s (l.filter (keepM f t)) := by
  refine h.less List.filter_sublist (fun j hj => ?_) ?_ (fun j hj => by simp [hj])
  · simp only [Bool.or_eq_true] at hj
    rcases hj with hj | hj
    · unfold onWay at hj
      simp only [Bool.and_eq_true, decide_eq_true_eq] at hj
      rw [h.hs]; exact hj.1.2
    · exact h.ho j hj
  · rw [List.filter_map]
    congr 1
    refine List.filter_congr fun q hq => ?_
    obtain ⟨x, hx, h1, h2, _⟩ := h.hp q hq
    have hm := h.mem hq
    show keepM f t q = !(onWay sent f t sent.length q.num || ov q.num)
    unfold onWay
    rw [hm.2.2, hx]
    have a1 : decide (1 ≤ q.num) = true := by simpa using hm.1
    have a2 : decide (q.num ≤ sent.length) = true := by have := hm.2.1; have := h.hs; simp; omega
    rw [a1, a2]
    unfold keepM
    rw [h1, h2]
    show ((x.fr != f) || (x.tt != t)) = !((true && true && (x.fr == f && x.tt == t)) || false)
    simp only [bne]
    cases (x.fr == f) <;> cases (x.tt == t) <;> rfl
theorem tells_r {o : OpR} {s : Nat} {l : List Par} (h : right ⟨s, l⟩ = true) : o.tells s l = o.does s l := by unfold OpR.tells ofM; rw [if_pos h]
theorem addM_e0 {n : Nt} {x : Par} (h : (addM n x).e = 0) : n.ps.length ≠ 20000 ∧ n.s ≠ 1099511627776 ∧ addM n x = { n := ⟨n.s + 1, n.ps ++ [{ x with num := n.s + 1 }]⟩, num := n.s + 1 } := by
  unfold addM at h ⊢
  split
  · rename_i hc; rw [if_pos hc] at h; exact absurd h (by decide)
  · rename_i hc; exact ⟨fun e => hc (.inl e), fun e => hc (.inr e), rfl⟩
theorem SInv.send {sent : List OpR} {ov : Nat → Bool} {s : Nat} {l : List Par} (h : SInv sent ov s l) {o : OpR} (hk : o.knd < 3) (he : (o.tells s l).e = 0) :
    (o.tells s l).num = s + 1 ∧ (o.tells s l).n.s = s + 1 ∧ SInv (sent ++ [o]) ov (s + 1) (o.tells s l).n.ps := by
  rw [tells_r h.hr] at he ⊢
  unfold OpR.does at he ⊢
  rw [if_pos hk] at he ⊢
  unfold sendM at he ⊢
  cases hw : isWay o.fr o.tt
  · rw [hw, if_pos rfl] at he; exact absurd he (by decide)
  · rw [hw, if_neg (by decide)] at he
    rw [if_neg (by decide)]
    by_cases hl : 60000 < o.bts.length
    · rw [if_pos hl] at he; exact absurd he (by decide)
    · rw [if_neg hl] at he ⊢
      obtain ⟨h1, h2, h3⟩ := addM_e0 he
      rw [h3]
      have hr := right_len h.hr
      dsimp only at h1 h2 hr
      refine ⟨rfl, rfl, h.more (x := ⟨0, o.fr, o.tt, o.bts, false⟩) (by omega) (by omega) ?_ ⟨rfl, rfl, dist_self _⟩⟩
      unfold parOK
      simp only [hw, Bool.true_and, Bool.and_eq_true, decide_eq_true_eq, Bool.not_false, Bool.or_true, and_true]
      omega
theorem SInv.find {sent : List OpR} {ov : Nat → Bool} {s : Nat} {l : List Par} (h : SInv sent ov s l) {k : Nat} {p : Par} (hp : l[fnd l k]? = some p) :
    p.num = k ∧ 1 ≤ k ∧ k ≤ s ∧ ov k = false ∧ parOK p = true ∧ ∃ x, sent[k - 1]? = some x ∧ p.fr = x.fr ∧ p.to = x.tt ∧ dist p.bs x.bts = if p.sp = true then 1 else 0 := by
  have hk := num_of_fnd hp
  have hm := h.mem (List.mem_of_getElem? hp)
  have hx := h.hp p (List.mem_of_getElem? hp)
  have hok := ((right_iff.1 h.hr).2.2.1 p (List.mem_of_getElem? hp)).2.2
  rw [hk] at hm hx
  exact ⟨hk, hm.1, hm.2.1, hm.2.2, hok, hx⟩
theorem SInv.twin {sent : List OpR} {ov : Nat → Bool} {s : Nat} {l : List Par} (h : SInv sent ov s l) {o : OpR} (hk : o.knd = 6) (he : (o.tells s l).e = 0) :
    1 ≤ o.num l ∧ o.num l ≤ s ∧ (o.tells s l).num = s + 1 ∧ (o.tells s l).n.s = s + 1 ∧ ∃ x, sent[o.num l - 1]? = some x ∧ SInv (sent ++ [x]) ov (s + 1) (o.tells s l).n.ps := by
  rw [tells_r h.hr] at he ⊢
  unfold OpR.does at he ⊢
  rw [if_neg (by omega), if_neg (by omega), if_neg (by omega), if_neg (by omega), if_pos hk] at he ⊢
  obtain ⟨p, hp, e⟩ := atM_ok he
  unfold twinM at he ⊢
  rw [e] at he ⊢
  obtain ⟨h1, h2, h3, h4, h5, x, hx, h6⟩ := h.find hp
  obtain ⟨g1, g2, g3⟩ := addM_e0 he
  rw [g3]
  have hr := right_len h.hr
  dsimp only at g1 g2 hr
  exact ⟨h2, h3, rfl, rfl, x, hx, h.more (by omega) (by omega) h5 h6⟩
theorem SInv.come {sent : List OpR} {ov : Nat → Bool} {s : Nat} {l : List Par} (h : SInv sent ov s l) {o : OpR} (hk : o.knd = 3) (he : (o.tells s l).e = 0) :
    1 ≤ o.num l ∧ o.num l ≤ s ∧ ov (o.num l) = false ∧ (o.tells s l).n.s = s ∧ (∃ x, sent[o.num l - 1]? = some x ∧ (o.tells s l).p.num = o.num l ∧ (o.tells s l).p.fr = x.fr ∧ (o.tells s l).p.to = x.tt ∧ dist (o.tells s l).p.bs x.bts = if (o.tells s l).p.sp = true then 1 else 0) ∧ SInv sent (fun j => j == o.num l || ov j) s (o.tells s l).n.ps := by
  rw [tells_r h.hr] at he ⊢
  unfold OpR.does at he ⊢
  rw [if_neg (by omega), if_pos hk] at he ⊢
  obtain ⟨p, hp, e⟩ := atM_ok he
  unfold comeM at he ⊢
  rw [e]
  obtain ⟨h1, h2, h3, h4, h5, x, hx, h6⟩ := h.find hp
  exact ⟨h2, h3, h4, rfl, ⟨x, hx, h1, h6⟩, h.erase hp⟩
theorem SInv.lose {sent : List OpR} {ov : Nat → Bool} {s : Nat} {l : List Par} (h : SInv sent ov s l) {o : OpR} (hk : o.knd = 4) (he : (o.tells s l).e = 0) :
    1 ≤ o.num l ∧ o.num l ≤ s ∧ (o.tells s l).n.s = s ∧ SInv sent (fun j => j == o.num l || ov j) s (o.tells s l).n.ps := by
  rw [tells_r h.hr] at he ⊢
  unfold OpR.does at he ⊢
  rw [if_neg (by omega), if_neg (by omega), if_pos hk] at he ⊢
  have he : (comeM ⟨s, l⟩ (o.num l)).e = 0 := he
  obtain ⟨p, hp, e⟩ := atM_ok he
  obtain ⟨h1, h2, h3, h4, h5, x, hx, h6⟩ := h.find hp
  show _ ∧ _ ∧ (comeM ⟨s, l⟩ (o.num l)).n.s = s ∧ SInv sent _ s (comeM ⟨s, l⟩ (o.num l)).n.ps
  unfold comeM
  rw [e]
  exact ⟨h2, h3, rfl, h.erase hp⟩
theorem SInv.dropped {sent : List OpR} {ov : Nat → Bool} {s : Nat} {l : List Par} (h : SInv sent ov s l) {o : OpR} (hk : o.knd = 5) (he : (o.tells s l).e = 0) :
    (o.tells s l).n.s = s ∧ SInv sent (fun k => onWay sent o.fr o.tt sent.length k || ov k) s (o.tells s l).n.ps := by
  rw [tells_r h.hr] at he ⊢
  unfold OpR.does at he ⊢
  rw [if_neg (by omega), if_neg (by omega), if_neg (by omega), if_pos hk] at he ⊢
  unfold dropM at he ⊢
  cases hw : isWay o.fr o.tt
  · rw [hw, if_pos rfl] at he; exact absurd he (by decide)
  · rw [if_neg (by decide)]
    exact ⟨rfl, h.drop o.fr o.tt⟩
theorem SInv.spoil {sent : List OpR} {ov : Nat → Bool} {s : Nat} {l : List Par} (h : SInv sent ov s l) {o : OpR} (hk : o.knd = 7) (he : (o.tells s l).e = 0) :
    (o.tells s l).n.s = s ∧ SInv sent ov s (o.tells s l).n.ps := by
  rw [tells_r h.hr] at he ⊢
  unfold OpR.does at he ⊢
  rw [if_neg (by omega), if_neg (by omega), if_neg (by omega), if_neg (by omega), if_neg (by omega)] at he ⊢
  obtain ⟨p, hp, e⟩ := atM_ok he
  obtain ⟨h1, h2, h3, h4, h5, x, hx, hf, ht, hd⟩ := h.find hp
  unfold spoilM at he ⊢
  rw [e] at he ⊢
  by_cases c1 : p.sp = true
  · rw [if_pos c1] at he; exact absurd he (by decide)
  · rw [if_neg c1] at he ⊢
    by_cases c2 : o.place < 0 ∨ (p.bs.length : Int) ≤ o.place ∨ o.by_ = 0
    · rw [if_pos c2] at he; exact absurd he (by decide)
    · rw [if_neg c2] at he ⊢
      refine ⟨rfl, ?_⟩
      dsimp only
      have hil := (List.getElem?_eq_some_iff.1 hp).1
      have hpe := (List.getElem?_eq_some_iff.1 hp).2
      have hnum : (l.set (fnd l (o.num l)) { p with bs := p.bs.modify o.place.toNat (· ^^^ o.by_), sp := true }).map Par.num = l.map Par.num := by
        rw [List.map_set]
        apply List.ext_getElem?
        intro j
        rw [List.getElem?_set]
        split
        · rename_i e; subst e
          rw [List.getElem?_map, hp]
          simp [hil]
        · rfl
      obtain ⟨r1, r2, r3, r4⟩ := right_iff.1 h.hr
      have hmem : ∀ q ∈ l.set (fnd l (o.num l)) { p with bs := p.bs.modify o.place.toNat (· ^^^ o.by_), sp := true }, q ∈ l ∨ q = { p with bs := p.bs.modify o.place.toNat (· ^^^ o.by_), sp := true } := fun q hq => List.mem_or_eq_of_mem_set hq
      have hpl : o.place.toNat < p.bs.length := by omega
      refine ⟨right_iff.2 ⟨r1, by rw [List.length_set]; exact r2, fun q hq => ?_, ?_⟩, h.hs, h.ho, by rw [hnum]; exact h.hn, fun q hq => ?_⟩
      · rcases hmem q hq with hq | rfl
        · exact r3 q hq
        · have := r3 p (List.mem_of_getElem? hp)
          refine ⟨this.1, this.2.1, ?_⟩
          have h7 := this.2.2
          unfold parOK at h7 ⊢
          simp only [Bool.and_eq_true, decide_eq_true_eq, List.length_modify] at h7 ⊢
          exact ⟨h7.1, by simp; omega⟩
      · have h8 : (l.map Par.num).Pairwise (· < ·) := List.pairwise_map.2 r4
        rw [← hnum] at h8
        exact List.pairwise_map.1 h8
      · rcases hmem q hq with hq | rfl
        · exact h.hp q hq
        · refine ⟨x, ?_, hf, ht, ?_⟩
          · show sent[p.num - 1]? = some x
            rw [h1]; exact hx
          · rw [if_neg c1] at hd
            have hbe := dist_eq hd
            show dist (p.bs.modify _ _) x.bts = if true = true then 1 else 0
            rw [if_pos rfl, ← hbe]
            exact dist_modify hpl (fun z => xor_ne (fun e => c2 (.inr (.inr e))))
end Go.Proofs.Ytpdfmeaemlgniaa
