/-
  Plain mathematics: what is laid is read again.
-/
import Derived.Test.YtbenfgkomphlfaaGreatDoorLexN
import Derived.Lib.ItoaLen
namespace Go.Proofs.YtbenfgkomphlfaaGreatDoor
open Go.Lib
set_option linter.unusedVariables false

/-! ## a number read again -/
theorem parse_append : ∀ (a : List UInt8) (acc v : Nat) (b : List UInt8), parseUint10 acc a = .ok v → parseUint10 acc (a ++ b) = parseUint10 v b
  | [], acc, v, b, h => by
    simp only [parseUint10] at h
    injection h with h
    rw [List.nil_append, h]
  | c :: a, acc, v, b, h => by
    simp only [parseUint10, List.cons_append] at h ⊢
    split at h
    · rename_i h1
      rw [if_pos h1]
      split at h
      · cases h
      · rename_i h2
        rw [if_neg h2]
        split at h
        · cases h
        · rename_i h3
          rw [if_neg h3]
          exact parse_append a _ v b h
    · cases h
theorem ofNat_dig (d : Nat) (h : d < 10) : (UInt8.ofNat (48 + d)).toNat = 48 + d := by
  rw [UInt8.toNat_ofNat']
  exact Nat.mod_eq_of_lt (by omega)
theorem parse_dec (u : Nat) (h : u < 9223372036854775808) : parseUint10 0 (decDigits u) = .ok u := by
  induction u using Nat.strongRecOn with
  | _ u ih =>
    by_cases hu : u < 10
    · rw [decDigits_one hu]
      have e := ofNat_dig u hu
      simp only [parseUint10, e]
      rw [if_pos (by omega), if_neg (by omega), if_neg (by omega)]
      congr 1; omega
    · rw [decDigits, dif_neg hu, parse_append _ 0 _ _ (ih (u / 10) (by omega) (by omega))]
      have e := ofNat_dig (u % 10) (by omega)
      simp only [parseUint10, e]
      rw [if_pos (by omega), if_neg (by omega), if_neg (by omega)]
      congr 1; omega
theorem dec_digits (u : Nat) : (∀ c ∈ decDigits u, 48 ≤ c.toNat ∧ c.toNat ≤ 57) ∧ decDigits u ≠ [] := by
  induction u using Nat.strongRecOn with
  | _ u ih =>
    by_cases hu : u < 10
    · rw [decDigits_one hu]
      have e := ofNat_dig u hu
      refine ⟨fun c hc => ?_, by simp⟩
      obtain rfl : c = UInt8.ofNat (48 + u) := by simpa using hc
      omega
    · rw [decDigits, dif_neg hu]
      have e := ofNat_dig (u % 10) (by omega)
      refine ⟨fun c hc => ?_, by simp⟩
      rcases List.mem_append.1 hc with hc | hc
      · exact (ih (u / 10) (by omega)).1 c hc
      · obtain rfl : c = UInt8.ofNat (48 + u % 10) := by simpa using hc
        omega
theorem numOf_dec (n : Nat) (h : n < 9223372036854775808) : numOf (decDigits n) = some (n : Int) := by
  have hp : parseIntB 64 (decDigits n) = .ok (n : Int) := by
    rw [parseIntB_64]
    have hd := dec_digits n
    have hu := parse_dec n h
    cases he : decDigits n with
    | nil => exact absurd he hd.2
    | cons c r =>
      rw [he] at hd hu
      have hc := hd.1 c (by simp)
      unfold atoiAll
      simp only
      rw [if_neg (by omega)]
      unfold parseMag
      rw [if_neg (by simp), hu]
      simp only
      rw [if_neg (by omega), if_neg (by omega), if_neg (by omega)]
  unfold numOf
  rw [hp]
  simp only
  rw [itoa_nonneg, if_pos rfl]

/-! ## what stands ahead of a blank is read as if it stood alone -/
def Rest (m : List UInt8) : Prop := m = [] ∨ ∃ r, m = 32 :: r
theorem ahead_full (u m : List UInt8) (hm : Rest m) : ahead cAlnum (u ++ m) = ahead cAlnum u := by
  rcases hm with rfl | ⟨r, rfl⟩
  · rw [List.append_nil]
  · exact ahead_append cAlnum u 32 r (by decide)
theorem first_alnum (u m : List UInt8) (hu : u.all (spans cAlnum) = true) (h0 : u ≠ []) (hm : Rest m) : first (u ++ m) = together u := by
  have ha : ahead cAlnum u = u.length := by have := ahead_all cAlnum u; rw [hu] at this; simpa using this
  have hl : 0 < u.length := List.length_pos_iff.2 h0
  unfold first
  rw [ahead_full u m hm, ha, if_pos hl, List.take_left]
theorem name_alnum (x : UInt8) (h : spans cName x = true) : spans cAlnum x = true := by simp [spans] at h ⊢; omega
theorem name_spans {u : List UInt8} (h : isName u = true) : u.all (spans cAlnum) = true ∧ u ≠ [] := by
  unfold isName at h
  simp only [Bool.and_eq_true] at h
  obtain ⟨⟨⟨⟨h1, _⟩, _⟩, h2⟩, _⟩ := h
  refine ⟨?_, by rintro rfl; simp at h1⟩
  rw [List.all_eq_true] at h2 ⊢
  exact fun x hx => name_alnum x (h2 x hx)
theorem words_facts : (wordsL.all fun u => !isName u && toUpperA u == u && u.all (spans cAlnum) && !u.isEmpty && (let v := toLowerA u; !isName v && toUpperA v == u && v.all (spans cAlnum) && !v.isEmpty && v.length == u.length)) = true := by decide +kernel
theorem word_fact {u : List UInt8} (h : isWord u = true) : isName u = false ∧ toUpperA u = u ∧ u.all (spans cAlnum) = true ∧ u ≠ [] := by
  have := List.all_eq_true.1 words_facts u (by simpa [isWord] using h)
  simp only [Bool.and_eq_true, Bool.not_eq_true', beq_iff_eq] at this
  obtain ⟨⟨⟨⟨h1, h2⟩, h3⟩, h4⟩, _⟩ := this
  exact ⟨h1, h2, h3, by rintro rfl; simp at h4⟩
theorem lower_fact {u : List UInt8} (h : isWord u = true) : isName (toLowerA u) = false ∧ toUpperA (toLowerA u) = u ∧ (toLowerA u).all (spans cAlnum) = true ∧ toLowerA u ≠ [] := by
  have := List.all_eq_true.1 words_facts u (by simpa [isWord] using h)
  simp only [Bool.and_eq_true, Bool.not_eq_true', beq_iff_eq] at this
  obtain ⟨_, ⟨⟨⟨⟨h1, h2⟩, h3⟩, h4⟩, _⟩⟩ := this
  exact ⟨h1, h2, h3, by intro e; rw [e] at h4; simp at h4⟩
theorem dec_facts (n : Nat) : isName (decDigits n) = false ∧ isWord (toUpperA (decDigits n)) = false ∧ (decDigits n).all (spans cAlnum) = true ∧ decDigits n ≠ [] := by
  obtain ⟨h1, h2⟩ := dec_digits n
  refine ⟨?_, ?_, ?_, h2⟩
  · cases he : decDigits n with
    | nil => exact absurd he h2
    | cons c r =>
      have hc := h1 c (by rw [he]; simp)
      have : spans cSmall c = false := by simp [spans]; omega
      unfold isName
      simp [this]
  · cases he : decDigits n with
    | nil => exact absurd he h2
    | cons c r =>
      have hc := h1 c (by rw [he]; simp)
      have hu : upperB c = c := upperB_of_not c (by unfold isLowerB; simp [UInt8.le_iff_toNat_le]; omega)
      have hw : (wordsL.all fun w => match w with | [] => false | x :: _ => decide (58 ≤ x.toNat)) = true := by decide
      cases hi : isWord (toUpperA (c :: r)) with
      | false => rfl
      | true =>
        have := List.all_eq_true.1 hw _ (by simpa [isWord] using hi)
        simp [toUpperA, hu] at this
        omega
  · rw [List.all_eq_true]
    intro c hc
    have := h1 c hc
    simp [spans]; omega
theorem qscan_esc : ∀ (s acc : List UInt8) (k : Nat) (m : List UInt8), Rest m → qscan (esc s ++ 39 :: m) acc k = some (acc ++ s, k + (esc s).length + 1)
  | [], acc, k, m, hm => by
    rcases hm with rfl | ⟨r, rfl⟩
    · simp [esc, qscan_end]
    · simp only [esc, List.flatMap_nil, List.nil_append, List.append_nil, List.length_nil, Nat.add_zero]
      exact qscan_stop _ _ _ (by decide)
  | c :: s, acc, k, m, hm => by
    by_cases hc : c = 39
    · subst hc
      have e : esc (39 :: s) = 39 :: 39 :: esc s := by simp [esc]
      rw [e, List.cons_append, List.cons_append, qscan_two, qscan_esc s _ _ m hm]
      simp only [List.append_assoc, List.cons_append, List.nil_append, List.length_cons, Option.some.injEq, Prod.mk.injEq, true_and]
      omega
    · have e : esc (c :: s) = c :: esc s := by simp [esc, hc]
      rw [e, List.cons_append, qscan_plain _ _ _ hc, qscan_esc s _ _ m hm]
      simp only [List.append_assoc, List.cons_append, List.nil_append, List.length_cons, Option.some.injEq, Prod.mk.injEq, true_and]
      omega
theorem sign_rest : ∀ g ∈ signsL, ∀ m, Rest m → first (g ++ m) = (⟨5, 0, B g, 0⟩, g.length) := by
  intro g hg m hm
  rcases hm with rfl | ⟨r, rfl⟩
  all_goals
    simp only [signsL, List.mem_cons, List.mem_nil_iff, or_false] at hg
    rcases hg with rfl | rfl | rfl | rfl | rfl | rfl | rfl | rfl | rfl | rfl | rfl | rfl | rfl | rfl <;> rfl

/-- u is read as the token t, wherever it ends or a blank follows -/
structure Reads (u : List UInt8) (t : Tok) : Prop where
  some : u ≠ []
  head : ∀ c r, u = c :: r → spans cBlank c = false
  first : ∀ m, Rest m → ∃ a, first (u ++ m) = ({ t with a := a }, u.length)
theorem alnum_blank (c : UInt8) (h : spans cAlnum c = true) : spans cBlank c = false := by simp [spans] at h ⊢; omega
theorem reads_of {u : List UInt8} {t : Tok} (hu : u.all (spans cAlnum) = true) (h0 : u ≠ []) (h : together u = ({ t with a := 0 }, u.length)) : Reads u t where
  some := h0
  head c r e := alnum_blank c (by subst e; simpa using (List.all_eq_true.1 hu) c (by simp))
  first m hm := ⟨0, by rw [first_alnum u m hu h0 hm, h]⟩
theorem reads_written (t : Tok) (h : isTok t.k (L t.s) t.n = true) (h0 : 0 ≤ t.n) : Reads t.w t := by
  obtain ⟨k, a, s, n⟩ := t
  unfold isTok at h
  dsimp only at h h0
  unfold Tok.w
  dsimp only
  split at h
  · rename_i h3
    subst h3
    simp only [Bool.and_eq_true, decide_eq_true_eq, List.isEmpty_iff] at h
    obtain ⟨f1, f2, f3, f4⟩ := dec_facts n.toNat
    have hs : s = B [] := by rw [← B_L s, h.1]
    rw [show written 3 (L s) n = decDigits n.toNat from rfl]
    refine reads_of f3 f4 ?_
    unfold together
    rw [f1, f2, numOf_dec n.toNat (by omega), hs]
    simp only [Bool.false_eq_true, if_false, Prod.mk.injEq, Tok.mk.injEq, true_and, and_true]
    omega
  · rename_i h3
    split at h
    · cases h
    · rename_i hn
      have hn : n = 0 := by omega
      subst hn
      split at h
      · rename_i h1
        subst h1
        obtain ⟨f1, f2, f3, f4⟩ := word_fact h
        rw [show written 1 (L s) 0 = L s from rfl]
        refine reads_of f3 f4 ?_
        unfold together
        rw [f1, f2, h, B_L]
        rfl
      · split at h
        · rename_i h2
          subst h2
          obtain ⟨f3, f4⟩ := name_spans h
          rw [show written 2 (L s) 0 = L s from rfl]
          refine reads_of f3 f4 ?_
          unfold together
          rw [h, B_L]
          rfl
        · split at h
          · rename_i h4
            subst h4
            rw [show written 4 (L s) 0 = [39] ++ esc (L s) ++ [39] from rfl]
            refine ⟨by simp, fun c r e => by simp at e; rw [← e.1]; decide, fun m hm => ⟨0, ?_⟩⟩
            have e : [39] ++ esc (L s) ++ [39] ++ m = 39 :: (esc (L s) ++ 39 :: m) := by simp
            rw [e]
            unfold first
            rw [if_neg (by unfold ahead; simp [spans]), if_pos (by simp [hasPrefix, List.isPrefixOf])]
            unfold quoted
            rw [List.drop_one, List.tail_cons, qscan_esc _ _ _ _ hm]
            simp only [List.nil_append]
            unfold ended
            rw [if_pos h, B_L]
            simp only [List.length_append, List.length_cons, List.length_nil]
          · split at h
            · rename_i h5
              subst h5
              simp only [Bool.and_eq_true, beq_iff_eq, Bool.not_eq_true'] at h
              have hg : L s ∈ signsL := by
                rcases (signOf_prefix (L s)).2 with e | e
                · rw [e] at h; rw [← h.2] at h; simp at h
                · rwa [h.2] at e
              rw [show written 5 (L s) 0 = L s from rfl]
              have hb : (signsL.all fun g => match g with | [] => false | c :: _ => !spans cBlank c) = true := by decide
              refine ⟨by intro e; rw [e] at h; simp at h, fun c r e => ?_, fun m hm => ⟨0, by rw [sign_rest _ hg m hm, B_L]⟩⟩
              have := List.all_eq_true.1 hb _ hg
              rw [e] at this
              simpa using this
            · cases h
/-- a word in small letters -/
theorem reads_lower (t : Tok) (hk : t.k = 1) (h : isTok t.k (L t.s) t.n = true) : Reads (toLowerA (L t.s)) t := by
  obtain ⟨k, a, s, n⟩ := t
  dsimp only at hk h ⊢
  subst hk
  unfold isTok at h
  rw [if_neg (by decide)] at h
  split at h
  · cases h
  · rename_i hn
    have hn : n = 0 := by omega
    subst hn
    rw [if_pos rfl] at h
    obtain ⟨f1, f2, f3, f4⟩ := lower_fact h
    refine reads_of f3 f4 ?_
    unfold together
    rw [f1, f2, h, B_L]
    simp

/-! ## a laid text gone through -/
theorem scan_past : ∀ (u m : List UInt8) (p : Nat), scan p u.length (u ++ m) = scan (p + u.length) 0 m
  | [], m, p => rfl
  | c :: u, m, p => by
    rw [List.cons_append, List.length_cons, scan_skip, scan_past u m (p + 1)]
    congr 1; omega
theorem scan_reads {u : List UInt8} {t : Tok} (h : Reads u t) (m : List UInt8) (hm : Rest m) (p : Nat) :
    ∃ x : Tok, sameTok t x = true ∧ x.a = (p : Int) ∧ scan p 0 (u ++ m) = (x :: (scan (p + u.length) 0 m).1, (scan (p + u.length) 0 m).2) := by
  cases u with
  | nil => exact absurd rfl h.some
  | cons c r =>
    obtain ⟨a, ha⟩ := h.first m hm
    rw [List.cons_append] at ha ⊢
    have hne : (first (c :: (r ++ m))).2 ≠ 0 := by rw [ha]; simp
    rw [scan_tok p c (r ++ m) (h.head c r rfl) hne, ha]
    refine ⟨{ t with a := a }.at p, by simp [sameTok, Tok.at], rfl, ?_⟩
    simp only [List.length_cons, Nat.add_sub_cancel]
    rw [scan_past r m (p + 1)]
    rw [show p + 1 + r.length = p + (r.length + 1) by omega]
theorem scan_blanks : ∀ (b m : List UInt8) (p : Nat), b.all (spans cBlank) = true → scan p 0 (b ++ m) = scan (p + b.length) 0 m
  | [], m, p, _ => rfl
  | c :: b, m, p, h => by
    simp only [List.all_cons, Bool.and_eq_true] at h
    rw [List.cons_append, scan_blank p c _ h.1, scan_blanks b m (p + 1) h.2, List.length_cons]
    congr 1; omega
theorem scan_print : ∀ (l : List Tok) (p : Nat), (∀ t ∈ l, Reads t.w t) → ∃ m, scan p 0 (printL l) = (m, none) ∧ sameL l m = true
  | [], p, h => ⟨[], by simp [printL, join_nil, scan], rfl⟩
  | [t], p, h => by
    obtain ⟨x, h1, _, h2⟩ := scan_reads (h t (by simp)) [] (.inl rfl) p
    rw [List.append_nil] at h2
    refine ⟨[x], ?_, by simp [sameL, h1]⟩
    rw [printL, List.map_cons, List.map_nil, join_one, h2]
    simp [scan]
  | t :: t' :: l, p, h => by
    have e : printL (t :: t' :: l) = t.w ++ 32 :: printL (t' :: l) := by
      unfold printL
      rw [List.map_cons, join_cons, List.map_cons]
      simp only [joinTail, List.map_cons, List.flatten_cons]
      rw [join_cons]
      simp [joinTail]
    obtain ⟨x, h1, _, h2⟩ := scan_reads (h t (by simp)) (32 :: printL (t' :: l)) (.inr ⟨_, rfl⟩) p
    obtain ⟨m, h3, h4⟩ := scan_print (t' :: l) (p + t.w.length + 1) (fun y hy => h y (by simp [hy]))
    refine ⟨x :: m, ?_, by rw [sameL, h1, h4]; rfl⟩
    rw [e, h2, scan_blank _ 32 _ (by decide), h3]
/-- tokens, each with a blank and the blanks b behind it -/
def strewn (u : Tok → List UInt8) (b : List UInt8) (l : List Tok) : List UInt8 := l.flatMap fun t => u t ++ 32 :: b
theorem scan_strewn (u : Tok → List UInt8) (b : List UInt8) (hb : b.all (spans cBlank) = true) : ∀ (l : List Tok) (p : Nat), (∀ t ∈ l, Reads (u t) t) →
    ∃ m, scan p 0 (strewn u b l) = (m, none) ∧ sameL l m = true ∧ (∀ x ∈ m, (p : Int) ≤ x.a ∧ x.a < (p : Int) + (strewn u b l).length) ∧ m.Pairwise (fun x y => x.a < y.a)
  | [], p, h => ⟨[], by simp [strewn, scan], rfl, by simp, by simp⟩
  | t :: l, p, h => by
    have e : strewn u b (t :: l) = u t ++ 32 :: (b ++ strewn u b l) := by simp [strewn]
    have ht := h t (by simp)
    obtain ⟨x, h1, h0, h2⟩ := scan_reads ht (32 :: (b ++ strewn u b l)) (.inr ⟨_, rfl⟩) p
    obtain ⟨m, h3, h4, h5, h6⟩ := scan_strewn u b hb l (p + (u t).length + 1 + b.length) (fun y hy => h y (by simp [hy]))
    have hl : 0 < (u t).length := List.length_pos_iff.2 ht.some
    refine ⟨x :: m, ?_, by rw [sameL, h1, h4]; rfl, ?_, ?_⟩
    · rw [e, h2, scan_blank _ 32 _ (by decide), scan_blanks b _ _ hb, h3]
    · rw [e]
      intro y hy
      simp only [List.length_append, List.length_cons]
      rcases List.mem_cons.1 hy with rfl | hy
      · omega
      · have := h5 y hy
        omega
    · rw [List.pairwise_cons]
      refine ⟨fun y hy => ?_, h6⟩
      have := (h5 y hy).1
      omega
theorem sameL_length : ∀ {l m : List Tok}, sameL l m = true → l.length = m.length
  | [], [], _ => rfl
  | [], y :: m, h => by simp [sameL] at h
  | x :: l, [], h => by simp [sameL] at h
  | x :: l, y :: m, h => by
    rw [sameL, Bool.and_eq_true] at h
    rw [List.length_cons, List.length_cons, sameL_length h.2]
theorem tokens_ok {l : List UInt8} {m : List Tok} (hl : l.length ≤ 600) (h : scan 0 0 l = (m, none)) : tokensL l = m ∧ tokensP l = 0 ∧ tokensE l = 0 := by
  unfold tokensL tokensP tokensE
  rw [if_neg (by omega), if_neg (by omega), if_neg (by omega), h]
  exact ⟨rfl, rfl, rfl⟩
theorem tokens_longer {l : List UInt8} (hl : 600 < l.length) : tokensL l = [] ∧ tokensP l = 0 ∧ tokensE l = 3 := by
  unfold tokensL tokensP tokensE
  rw [if_pos hl, if_pos hl, if_pos hl]
  exact ⟨rfl, rfl, rfl⟩

/-! ## what is told is right -/
theorem together_right (u : List UInt8) (hu : u.all (spans cAlnum) = true) (h : (together u).2 ≠ 0) : isTok (together u).1.k (L (together u).1.s) (together u).1.n = true ∧ 0 ≤ (together u).1.n := by
  unfold together at h ⊢
  cases h1 : isName u
  · rw [h1] at h
    cases h2 : isWord (toUpperA u)
    · rw [h2] at h
      simp only [Bool.false_eq_true, if_false] at h ⊢
      cases h3 : numOf u with
      | none => rw [h3] at h; exact absurd rfl h
      | some v =>
        unfold numOf at h3
        split at h3
        · rename_i v' hp
          split at h3
          · rename_i hi
            obtain rfl : v' = v := by simpa using h3
            have hb := parseIntB_bounds hp
            have h0 : 0 ≤ v' := by
              unfold itoa at hi
              split at hi
              · subst hi
                simp [spans] at hu
              · omega
            refine ⟨?_, h0⟩
            unfold isTok
            simp at hb
            simp [L_B]
            omega
          · cases h3
        · cases h3
    · simp only [Bool.false_eq_true, if_false, if_true]
      exact ⟨h2, by decide⟩
  · simp only [if_true]
    exact ⟨h1, by decide⟩
theorem first_right (l : List UInt8) (h : (first l).2 ≠ 0) : isTok (first l).1.k (L (first l).1.s) (first l).1.n = true ∧ 0 ≤ (first l).1.n := by
  unfold first at h ⊢
  split at h
  · rename_i h1
    rw [if_pos h1]
    refine together_right _ ?_ h
    rw [ahead_take]
    exact List.all_takeWhile
  · rename_i h1
    rw [if_neg h1]
    split at h
    · rename_i h2
      rw [if_pos h2]
      unfold quoted at h ⊢
      cases hq : qscan (l.drop 1) [] 1 with
      | none => rw [hq] at h; exact absurd rfl h
      | some x =>
        obtain ⟨t, k⟩ := x
        rw [hq] at h
        simp only at h ⊢
        unfold ended at h ⊢
        cases ht : isText t
        · rw [ht] at h; exact absurd rfl h
        · rw [if_pos rfl]
          exact ⟨ht, Int.le_refl 0⟩
    · rename_i h2
      rw [if_neg h2]
      refine ⟨?_, Int.le_refl 0⟩
      have hd : (signsL.all fun g => !g.isEmpty && (signOf g == g)) = true := by decide
      rcases (signOf_prefix l).2 with e | e
      · rw [e] at h; exact absurd rfl h
      · exact List.all_eq_true.1 hd _ e
theorem scan_right : ∀ (l : List UInt8) (p k : Nat), ∀ x ∈ (scan p k l).1, x.right = true ∧ 0 ≤ x.n
  | [], p, k, x, hx => by cases k <;> simp [scan] at hx
  | c :: r, p, k + 1, x, hx => scan_right r (p + 1) k x (by rwa [scan_skip] at hx)
  | c :: r, p, 0, x, hx => by
    cases hb : spans cBlank c
    · by_cases h : (first (c :: r)).2 = 0
      · rw [scan_wrong p c r hb h] at hx; simp at hx
      · rw [scan_tok p c r hb h] at hx
        rcases List.mem_cons.1 hx with rfl | hx
        · have := first_right _ h
          exact ⟨by unfold Tok.right Tok.at; simp [this.1], this.2⟩
        · exact scan_right r _ _ x hx
    · rw [scan_blank p c r hb] at hx
      exact scan_right r _ _ x hx
theorem tokens_right (l : List UInt8) : ∀ x ∈ tokensL l, x.right = true ∧ 0 ≤ x.n := by
  unfold tokensL
  split
  · simp
  · split
    · simp
    · exact scan_right l 0 0
theorem right_small (t : Tok) (h : t.right = true) : t.s.size ≤ 40 := by
  unfold Tok.right at h
  rw [Bool.and_eq_true] at h
  obtain ⟨-, h⟩ := h
  rw [size_L]
  unfold isTok at h
  split at h
  · simp only [Bool.and_eq_true, List.isEmpty_iff] at h
    rw [h.1]; simp
  · split at h
    · cases h
    · split at h
      · have hd : (wordsL.all fun g => decide (g.length ≤ 40)) = true := by decide
        simpa using List.all_eq_true.1 hd _ (by simpa [isWord] using h)
      · split at h
        · unfold isName at h
          simp at h
          omega
        · split at h
          · unfold isText at h
            simp at h
            omega
          · split at h
            · simp only [Bool.and_eq_true, beq_iff_eq, Bool.not_eq_true'] at h
              have hd : (signsL.all fun g => decide (g.length ≤ 40)) = true := by decide
              rcases (signOf_prefix (L t.s)).2 with e | e
              · rw [← h.2, e]; simp
              · rw [h.2] at e
                simpa using List.all_eq_true.1 hd _ e
            · cases h
theorem right_reads (t : Tok) (h : t.right = true) (h0 : 0 ≤ t.n) : Reads t.w t := by
  unfold Tok.right at h
  rw [Bool.and_eq_true] at h
  exact reads_written t h.2 h0
theorem tokens_length (l : List UInt8) : (tokensL l).length ≤ 600 := by
  unfold tokensL
  split
  · simp
  · split
    · simp
    · have := es_length l 0 0
      unfold es at this
      simp at this
      omega

/-! ## LexBack's answers -/
theorem back (l : List Tok) (h : ∀ t ∈ l, t.right = true ∧ 0 ≤ t.n) (hl : (printL l).length ≤ 600) : tokensP (printL l) = 0 ∧ tokensE (printL l) = 0 ∧ sameL l (tokensL (printL l)) = true := by
  obtain ⟨m, h1, h2⟩ := scan_print l 0 (fun t ht => right_reads t (h t ht).1 (h t ht).2)
  obtain ⟨e1, e2, e3⟩ := tokens_ok hl h1
  rw [e1]
  exact ⟨e2, e3, h2⟩
theorem tokens_bad (l : List UInt8) (h : tokensE l ≠ 0) : tokensL l = [] := by
  unfold tokensE at h
  unfold tokensL
  split
  · rfl
  · rename_i hl
    rw [if_neg hl] at h
    split
    · rfl
    · rename_i he
      rw [he] at h
      exact absurd rfl h
end Go.Proofs.YtbenfgkomphlfaaGreatDoor
