/-
  PROVED: bowspritlaw01.OctetRow: for every list of numbers and every width the call returns true: as many numbers as were put are read, the same ones, and no more. No condition.
-/
import Derived.Test.YtcahdillpdekmaaOctH
import Derived.OpenShut
import Derived.ChangeOld
namespace Go.Proofs.Ytcahdillpdekmaa
open Go.RowKit
set_option linter.unusedVariables false

theorem be_succ (n x : Nat) : be (n + 1) x = UInt8.ofNat (x / 256 ^ n % 256) :: be n x := by
  unfold be
  rw [List.range_succ_eq_map, List.map_cons, List.map_map]
  congr 1
  refine List.map_congr_left fun i hi => ?_
  have hi' : i < n := by simpa using hi
  simp only [Function.comp]
  have : n + 1 - 1 - (i + 1) = n - 1 - i := by omega
  rw [this]
theorem weigh_be : ∀ n x : Nat, weigh (be n x) = x % 256 ^ n
  | 0, x => by simp [be, weigh, Nat.mod_one]
  | n + 1, x => by
    rw [be_succ, weigh, weigh_be n x, be_length, Nat.pow_succ, Nat.mod_mul]
    have : (UInt8.ofNat (x / 256 ^ n % 256)).toNat = x / 256 ^ n % 256 := by simp
    rw [this, Nat.mul_comm]; omega

/-- v reads as these numbers, each of 64 bits -/
def Us (w : World) (v : Value) (ob : Nat) (l : List Nat) : Prop := Sl w v ob 1 l.length (l.map fun (x : Nat) => Value.int .u64 ((x : Nat) : Int)) ∧ ∀ x ∈ l, (x : Int) ≤ 18446744073709551615
theorem Us.ext {X : List Nat} {w w' : World} {v : Value} {ob : Nat} {l : List Nat} (h : Us w v ob l) (he : Ext X w w') (hx : ob ∉ X) : Us w' v ob l := ⟨h.1.ext he hx, h.2⟩
theorem Us.shape {w : World} {v : Value} {ob : Nat} {l : List Nat} (h : Us w v ob l) : ∃ a c, v = .slice a l.length c := by
  rcases h.1.2 with ⟨rfl, h0⟩ | ⟨off, sp, cap, rfl, _⟩
  · rw [h0]; exact ⟨_, _, rfl⟩
  · exact ⟨_, _, rfl⟩
theorem Us.at {w : World} {a : Option Addr} {n c ob : Nat} {l : List Nat} (h : Us w (.slice a n c) ob l) (k : Nat) (hk : k < l.length) :
    ∃ o x, a = some ⟨ob, o, none⟩ ∧ l[k]? = some x ∧ w.cell? ⟨ob, o + k, none⟩ = some (.int .u64 (x : Int)) ∧ (x : Int) ≤ 18446744073709551615 := by
  rcases h.1.2 with ⟨_, h0⟩ | ⟨off, sp, cap, hv, _, _, hsp, h3⟩
  · omega
  · simp only [Value.slice.injEq] at hv
    obtain rfl : sp = none := by rcases hsp with h | h; omega; exact h
    exact ⟨off, l[k], hv.1, by simp, h3 k _ (by simp [hk]), h.2 _ (List.getElem_mem hk)⟩
theorem read_nums {H : Type} {enc : TypeId × Value → H} {W : World} {v : Value} {d : DataW H} {p : List MemPlace} {base : Nat} (h : DataW.Trod enc Try.prog W 0 (fun _ => true) true 61 v d p) (k : Value.okWide Try.prog W .any base 61 v) :
    ∃ ob l, Us W v ob l := by
  obtain ⟨a0, len0, cap0, rfl⟩ := WideShapes.okWide_slice Try.underlying61 k
  obtain ⟨l, hl⟩ : ∃ l : List Int, Rep W W.heap.size (.slice (.int .u64)) [.slice a0 len0 cap0] l := by
    obtain ⟨l, hl⟩ := trod_rep (s := .slice (.int .u64)) 5 (by kernel_rfl) h
    exact ⟨l, rep_one hl rfl⟩
  rcases hl with ⟨h1, _⟩ | ⟨ob, off, sp, cap, h1, h2, h3, h4, h5⟩
  · simp only [List.cons.injEq, Value.slice.injEq, and_true] at h1
    obtain ⟨rfl, rfl, rfl⟩ := h1
    exact ⟨0, [], .nil _ _ _, by simp⟩
  · simp only [List.cons.injEq, Value.slice.injEq, and_true] at h1
    obtain ⟨rfl, rfl, rfl⟩ := h1
    have hc : ∀ (i : Nat) (x : Int), l[i]? = some x → (0 ≤ x ∧ x ≤ 18446744073709551615) ∧ W.cell? ⟨ob, off + i, none⟩ = some (.int .u64 x) := by
      intro i x hx
      obtain ⟨cs', a1, a2, rfl, a3⟩ := h5 i x hx
      have := a2 0 _ rfl
      refine ⟨bounds_u64 a3, ?_⟩
      simpa [Sh.size] using this
    have hlen : (l.map Int.toNat).length = List.length l := by simp
    refine ⟨ob, l.map Int.toNat, ⟨by simp, .inr ⟨off, sp, cap0, by rw [hlen]; rfl, by rw [hlen]; exact h2, h3, ?_, ?_⟩⟩, ?_⟩
    · rw [hlen]
      rcases h4 with h4 | ⟨h4, _⟩
      · exact .inl (by have : List.length l * 1 = 0 := h4; omega)
      · exact .inr h4
    · intro j u hu
      simp only [List.getElem?_map, Option.map_eq_some_iff] at hu
      obtain ⟨_, ⟨x, hx, rfl⟩, rfl⟩ := hu
      obtain ⟨hb, hcell⟩ := hc j x hx
      rw [hcell, Int.toNat_of_nonneg hb.1]
    · intro x hx
      simp only [List.mem_map] at hx
      obtain ⟨y, hy, rfl⟩ := hx
      obtain ⟨j, hj, rfl⟩ := List.getElem_of_mem hy
      have hb := (hc j l[j] (List.getElem?_eq_getElem hj)).1
      rw [Int.toNat_of_nonneg hb.1]; exact hb.2

theorem kind3 (K : Int) : ∃ kk : Int, (IntKind.u64.wrap K).tmod 3 = kk ∧ 0 ≤ kk ∧ kk ≤ 2 := by
  refine ⟨_, rfl, ?_⟩
  have h : (IntKind.u64.wrap K).tmod 3 = (IntKind.u64.wrap K) % 3 := Int.tmod_eq_emod_of_nonneg (by rw [wrap_u64_mod]; omega)
  rw [h]; omega

/-- the bytes of many numbers -/
def bes (n : Nat) (l : List Nat) : List UInt8 := l.flatMap (be n)
theorem bes_length (n : Nat) : ∀ l : List Nat, (bes n l).length = n * l.length
  | [] => by simp [bes]
  | x :: l => by
    have := bes_length n l
    simp only [bes, List.flatMap_cons, List.length_append, be_length, List.length_cons] at *
    rw [this, Nat.mul_succ]; omega
theorem bes_snoc (n : Nat) (l : List Nat) (x : Nat) : bes n (l ++ [x]) = bes n l ++ be n x := by simp [bes]
theorem bes_got (n : Nat) : ∀ (l : List Nat) (k x : Nat), l[k]? = some x → ((bes n l).drop (n * k)).take n = be n x
  | [], k, x, h => by simp at h
  | y :: l, 0, x, h => by
    simp at h; subst h
    simp [bes, be_length]
  | y :: l, k + 1, x, h => by
    have := bes_got n l k x (by simpa using h)
    simp only [bes, List.flatMap_cons] at *
    rw [List.drop_append, be_length, List.drop_of_length_le (by rw [be_length, Nat.mul_succ]; omega), List.nil_append]
    have e : n * (k + 1) - n = n * k := by rw [Nat.mul_succ]; omega
    rw [e]; exact this

/-- reading the next number -/
theorem read_U16 (w : World) (b ob : Nat) (own : Value) (l : List Nat) (k x : Nat) (hx : l[k]? = some x) (h : RdAt w b ob own ⟨bes 2 l, 2 * k, 0⟩) :
    Calls Try.prog 21 #[.pointer (some ⟨b, 0, none⟩)] w fun e w' => e = .returned (.int .u16 ((x % 256 ^ 2 : Nat) : Int)) ∧ RdAt w' b ob own ⟨bes 2 l, 2 * (k + 1), 0⟩ ∧ Ext [b] w w' := by
  have hk := (List.getElem?_eq_some_iff.1 hx).1
  have hl := bes_length 2 l
  have hbad : (⟨bes 2 l, 2 * k, 0⟩ : R).bad 2 = false := by simp [R.bad]; omega
  obtain ⟨_, _, _, g4⟩ := R.go_good hbad
  have h1 := U16_any w b ob own _ h
  have hg : (⟨bes 2 l, 2 * k, 0⟩ : R).got 2 = be 2 x := by
    unfold R.got
    rw [if_neg (by rw [hbad]; simp)]
    exact bes_got 2 l k x hx
  rw [hg, weigh_be, g4] at h1
  refine h1.mono ?_
  rintro e w' ⟨rfl, h2, h3⟩
  exact ⟨rfl, by rw [show 2 * (k + 1) = 2 * k + (2 : Int).toNat from rfl]; exact h2, h3⟩
/-- reading the next number -/
theorem read_U32 (w : World) (b ob : Nat) (own : Value) (l : List Nat) (k x : Nat) (hx : l[k]? = some x) (h : RdAt w b ob own ⟨bes 4 l, 4 * k, 0⟩) :
    Calls Try.prog 22 #[.pointer (some ⟨b, 0, none⟩)] w fun e w' => e = .returned (.int .u32 ((x % 256 ^ 4 : Nat) : Int)) ∧ RdAt w' b ob own ⟨bes 4 l, 4 * (k + 1), 0⟩ ∧ Ext [b] w w' := by
  have hk := (List.getElem?_eq_some_iff.1 hx).1
  have hl := bes_length 4 l
  have hbad : (⟨bes 4 l, 4 * k, 0⟩ : R).bad 4 = false := by simp [R.bad]; omega
  obtain ⟨_, _, _, g4⟩ := R.go_good hbad
  have h1 := U32_any w b ob own _ h
  have hg : (⟨bes 4 l, 4 * k, 0⟩ : R).got 4 = be 4 x := by
    unfold R.got
    rw [if_neg (by rw [hbad]; simp)]
    exact bes_got 4 l k x hx
  rw [hg, weigh_be, g4] at h1
  refine h1.mono ?_
  rintro e w' ⟨rfl, h2, h3⟩
  exact ⟨rfl, by rw [show 4 * (k + 1) = 4 * k + (4 : Int).toNat from rfl]; exact h2, h3⟩
/-- reading the next number -/
theorem read_U64 (w : World) (b ob : Nat) (own : Value) (l : List Nat) (k x : Nat) (hx : l[k]? = some x) (h : RdAt w b ob own ⟨bes 8 l, 8 * k, 0⟩) :
    Calls Try.prog 23 #[.pointer (some ⟨b, 0, none⟩)] w fun e w' => e = .returned (.int .u64 ((x % 256 ^ 8 : Nat) : Int)) ∧ RdAt w' b ob own ⟨bes 8 l, 8 * (k + 1), 0⟩ ∧ Ext [b] w w' := by
  have hk := (List.getElem?_eq_some_iff.1 hx).1
  have hl := bes_length 8 l
  have hbad : (⟨bes 8 l, 8 * k, 0⟩ : R).bad 8 = false := by simp [R.bad]; omega
  obtain ⟨_, _, _, g4⟩ := R.go_good hbad
  have h1 := U64_any w b ob own _ h
  have hg : (⟨bes 8 l, 8 * k, 0⟩ : R).got 8 = be 8 x := by
    unfold R.got
    rw [if_neg (by rw [hbad]; simp)]
    exact bes_got 8 l k x hx
  rw [hg, weigh_be, g4] at h1
  refine h1.mono ?_
  rintro e w' ⟨rfl, h2, h3⟩
  exact ⟨rfl, by rw [show 8 * (k + 1) = 8 * k + (8 : Int).toNat from rfl]; exact h2, h3⟩

theorem end_left_U16 (w : World) (b ob : Nat) (own : Value) (l : List Nat) (h : RdAt w b ob own ⟨bes 2 l, 2 * l.length, 0⟩) :
    Calls Try.prog 27 #[.pointer (some ⟨b, 0, none⟩)] w fun e w' => e = .returned (.int .i64 0) ∧ ∃ n, w' = w.drewN n := by
  refine (Left_any w b ob own _ h).mono ?_
  rintro e w' ⟨rfl, hn⟩
  exact ⟨ret_int (by simp [bes_length]), hn⟩
theorem end_u8_U16 (w : World) (b ob : Nat) (own : Value) (l : List Nat) (h : RdAt w b ob own ⟨bes 2 l, 2 * l.length, 0⟩) :
    Calls Try.prog 20 #[.pointer (some ⟨b, 0, none⟩)] w fun e w' => e = .returned (.int .u8 0) ∧ RdAt w' b ob own ⟨bes 2 l, 2 * l.length, 7⟩ ∧ Ext [b] w w' := by
  have hbad : (⟨bes 2 l, 2 * l.length, 0⟩ : R).bad 1 = true := by simp [R.bad, bes_length]
  refine (U8_any w b ob own _ h).mono ?_
  rintro e w' ⟨rfl, h2, h3⟩
  have e1 : (⟨bes 2 l, 2 * l.length, 0⟩ : R).got 1 = [] := by unfold R.got; rw [if_pos hbad]
  have e2 : (⟨bes 2 l, 2 * l.length, 0⟩ : R).go 1 = ⟨bes 2 l, 2 * l.length, 7⟩ := by simp [R.go, bes_length]
  rw [e2] at h2
  exact ⟨ret_int (by rw [e1]; rfl), h2, h3⟩
theorem end_err_U16 (w : World) (b ob : Nat) (own : Value) (l : List Nat) (h : RdAt w b ob own ⟨bes 2 l, 2 * l.length, 7⟩) :
    Calls Try.prog 26 #[.pointer (some ⟨b, 0, none⟩)] w fun e w' => e = .returned (.int .i64 7) ∧ w = w' := Err_any w b ob own _ h
theorem end_left_U32 (w : World) (b ob : Nat) (own : Value) (l : List Nat) (h : RdAt w b ob own ⟨bes 4 l, 4 * l.length, 0⟩) :
    Calls Try.prog 27 #[.pointer (some ⟨b, 0, none⟩)] w fun e w' => e = .returned (.int .i64 0) ∧ ∃ n, w' = w.drewN n := by
  refine (Left_any w b ob own _ h).mono ?_
  rintro e w' ⟨rfl, hn⟩
  exact ⟨ret_int (by simp [bes_length]), hn⟩
theorem end_u8_U32 (w : World) (b ob : Nat) (own : Value) (l : List Nat) (h : RdAt w b ob own ⟨bes 4 l, 4 * l.length, 0⟩) :
    Calls Try.prog 20 #[.pointer (some ⟨b, 0, none⟩)] w fun e w' => e = .returned (.int .u8 0) ∧ RdAt w' b ob own ⟨bes 4 l, 4 * l.length, 7⟩ ∧ Ext [b] w w' := by
  have hbad : (⟨bes 4 l, 4 * l.length, 0⟩ : R).bad 1 = true := by simp [R.bad, bes_length]
  refine (U8_any w b ob own _ h).mono ?_
  rintro e w' ⟨rfl, h2, h3⟩
  have e1 : (⟨bes 4 l, 4 * l.length, 0⟩ : R).got 1 = [] := by unfold R.got; rw [if_pos hbad]
  have e2 : (⟨bes 4 l, 4 * l.length, 0⟩ : R).go 1 = ⟨bes 4 l, 4 * l.length, 7⟩ := by simp [R.go, bes_length]
  rw [e2] at h2
  exact ⟨ret_int (by rw [e1]; rfl), h2, h3⟩
theorem end_err_U32 (w : World) (b ob : Nat) (own : Value) (l : List Nat) (h : RdAt w b ob own ⟨bes 4 l, 4 * l.length, 7⟩) :
    Calls Try.prog 26 #[.pointer (some ⟨b, 0, none⟩)] w fun e w' => e = .returned (.int .i64 7) ∧ w = w' := Err_any w b ob own _ h
theorem end_left_U64 (w : World) (b ob : Nat) (own : Value) (l : List Nat) (h : RdAt w b ob own ⟨bes 8 l, 8 * l.length, 0⟩) :
    Calls Try.prog 27 #[.pointer (some ⟨b, 0, none⟩)] w fun e w' => e = .returned (.int .i64 0) ∧ ∃ n, w' = w.drewN n := by
  refine (Left_any w b ob own _ h).mono ?_
  rintro e w' ⟨rfl, hn⟩
  exact ⟨ret_int (by simp [bes_length]), hn⟩
theorem end_u8_U64 (w : World) (b ob : Nat) (own : Value) (l : List Nat) (h : RdAt w b ob own ⟨bes 8 l, 8 * l.length, 0⟩) :
    Calls Try.prog 20 #[.pointer (some ⟨b, 0, none⟩)] w fun e w' => e = .returned (.int .u8 0) ∧ RdAt w' b ob own ⟨bes 8 l, 8 * l.length, 7⟩ ∧ Ext [b] w w' := by
  have hbad : (⟨bes 8 l, 8 * l.length, 0⟩ : R).bad 1 = true := by simp [R.bad, bes_length]
  refine (U8_any w b ob own _ h).mono ?_
  rintro e w' ⟨rfl, h2, h3⟩
  have e1 : (⟨bes 8 l, 8 * l.length, 0⟩ : R).got 1 = [] := by unfold R.got; rw [if_pos hbad]
  have e2 : (⟨bes 8 l, 8 * l.length, 0⟩ : R).go 1 = ⟨bes 8 l, 8 * l.length, 7⟩ := by simp [R.go, bes_length]
  rw [e2] at h2
  exact ⟨ret_int (by rw [e1]; rfl), h2, h3⟩
theorem end_err_U64 (w : World) (b ob : Nat) (own : Value) (l : List Nat) (h : RdAt w b ob own ⟨bes 8 l, 8 * l.length, 7⟩) :
    Calls Try.prog 26 #[.pointer (some ⟨b, 0, none⟩)] w fun e w' => e = .returned (.int .i64 7) ∧ w = w' := Err_any w b ob own _ h

set_option maxHeartbeats 4000000 in
theorem walkRow0 (w : World) (v : Value) (ob : Nat) (l : List Nat) (wide : Int) (h : Us w v ob l) (hl : l.length ≤ 300) (hkk : (IntKind.u64.wrap wide).tmod 3 = 0) :
    Calls Try.prog 6 #[v, .int .i64 wide] w fun e w' => e = .returned (.bool true) ∧ Below w.heap.size w w' := by
  obtain ⟨av, cv, rfl⟩ := h.shape
  go_enter Try.func6, Try.ntmps6
  go_wp2_with (go_at_call 9; refine (wakes_any _).mono ?_; rintro e w0 ⟨rfl, h0⟩)
  go_loopw [5, 19] (fun v i wr => ∃ (k : Nat) (ob : Nat), k ≤ l.length ∧ i = .int .i64 k ∧ Bs wr v ob (bes 2 (l.take k)) ∧ Ext [] w wr) (fun _ i _ => l.length - (intOf i).toNat)
  case atStart => exact ⟨0, 0, by omega, rfl, .nothing' _ _, h0⟩
  case round =>
    obtain ⟨k, ob', hk, rfl, hB, hE⟩ := hrel
    clear h0
    by_cases hlt : k < l.length
    · obtain ⟨off, x, rfl, hx, hc, hx1⟩ := (h.ext hE (by simp)).at k hlt
      have hbl : (bes 2 (l.take k)).length ≤ 1000000 := by rw [bes_length]; simp; omega
      have hw16 := w16 x
      have hw32 := w32 x
      have hw64 := w64 x hx1
      have hp := Put16_own wr _ ob' _ x _ hw16 hB hbl
      clear hw16 hw32 hw64
      have ht : bes 2 (l.take k) ++ be 2 x = bes 2 (l.take (k + 1)) := by rw [List.take_add_one, hx]; simp [bes_snoc]
      rw [ht] at hp
      have hx0 : 0 ≤ (x : Int) := by omega
      clear ht hx
      go_wp2_with (go_at_call 11; refine hp.mono ?_; rintro e w1 ⟨g, c, rfl, hO, _, _, hE1⟩)
      go_roundw
      case rel => exact ⟨k + 1, g, by omega, by go_num, hO.bs, hE.trans hE1⟩
      case measure => simp [intOf]; omega
    · obtain rfl : k = l.length := by omega
      rw [List.take_of_length_le (Nat.le_refl _)] at hB
      have hbl : (bes 2 l).length ≤ 1000000 := by rw [bes_length]; omega
      have hrd := Read_any wr _ ob' _ hB hbl
      go_wp2_with (go_at_call 16; refine hrd.mono ?_; rintro e w1 ⟨b, orb, own, rfl, hR1, hb1, _, _, hE1⟩)
      have hbw : w.heap.size ≤ b := by have := hE.size; omega
      have hob : 0 < l.length → ob < w.heap.size := fun h0 => by
        obtain ⟨o, x, _, _, hc, _⟩ := h.at 0 h0
        exact World.block_lt_of_cell? _ _ hc
      have hU0 := h.ext hE (by simp)
      have hE2 := hE.trans hE1
      have hU1 := hU0.ext hE1 (by simp)
      have hR1' : RdAt w1 b orb own ⟨bes 2 l, 2 * 0, 0⟩ := hR1
      clear hrd hB hE hE1 hR1 hU0 h
      go_loopw [46] (fun i wr => ∃ k : Nat, k ≤ l.length ∧ i = .int .i64 k ∧ RdAt wr b orb own ⟨bes 2 l, 2 * k, 0⟩ ∧ Ext [b] w1 wr) (fun i _ => l.length - (intOf i).toNat)
      case atStart => exact ⟨0, by omega, rfl, hR1', Ext.refl _ _⟩
      case round =>
        obtain ⟨k, hk, rfl, hR, hE⟩ := hrel
        clear hR1'
        by_cases hlt : k < l.length
        · obtain ⟨off, x, rfl, hx, hc0, hx1⟩ := hU1.at k hlt
          have hc := hE.read hc0 (by
            intro hm
            have : ob = b := by simpa using hm
            have := hob (by omega)
            omega)
          have hw16 := w16 x
          have hw32 := w32 x
          have hw64 := w64 x hx1
          have hrd := read_U16 wr b orb own l k x hx hR
          have hH := hw16
          clear hw16 hw32 hw64
          generalize ((x % 256 ^ 2 : Nat) : Int) = y at hH hrd
          have her : ∀ w, RdAt w b orb own ⟨bes 2 l, 2 * (k + 1), 0⟩ → Calls Try.prog 26 #[.pointer (some ⟨b, 0, none⟩)] w fun e w' => e = .returned (.int .i64 0) ∧ w = w' := fun w h => Err_any w b orb own _ h
          clear hx hc0
          go_wp2_with (first
            | (go_at_call 21; refine hrd.mono ?_; rintro e w2 ⟨rfl, hR2, hE2⟩)
            | (go_at_call 26; refine (her _ hR2).mono ?_; rintro e w3 ⟨rfl, rfl⟩))
          go_roundw
          case rel => exact ⟨k + 1, by omega, by go_num, hR2, hE.trans hE2⟩
          case measure => simp [intOf]; omega
        · obtain rfl : k = l.length := by omega
          go_wp2_with (first
            | (go_at_call 27; refine (end_left_U16 _ b orb own l hR).mono ?_; rintro e w2 ⟨rfl, n2, rfl⟩)
            | (go_at_call 20; refine (end_u8_U16 _ b orb own l (hR.drewN _)).mono ?_; rintro e w3 ⟨rfl, hR3, hE3⟩)
            | (go_at_call 26; refine (end_err_U16 _ b orb own l hR3).mono ?_; rintro e w4 ⟨rfl, rfl⟩))
          go_ret
          exact ⟨rfl, (hE2.trans' ((hE.drewN _).trans hE3) (by simp; omega)).below⟩
set_option maxHeartbeats 4000000 in
theorem walkRow1 (w : World) (v : Value) (ob : Nat) (l : List Nat) (wide : Int) (h : Us w v ob l) (hl : l.length ≤ 300) (hkk : (IntKind.u64.wrap wide).tmod 3 = 1) :
    Calls Try.prog 6 #[v, .int .i64 wide] w fun e w' => e = .returned (.bool true) ∧ Below w.heap.size w w' := by
  obtain ⟨av, cv, rfl⟩ := h.shape
  go_enter Try.func6, Try.ntmps6
  go_wp2_with (go_at_call 9; refine (wakes_any _).mono ?_; rintro e w0 ⟨rfl, h0⟩)
  go_loopw [5, 19] (fun v i wr => ∃ (k : Nat) (ob : Nat), k ≤ l.length ∧ i = .int .i64 k ∧ Bs wr v ob (bes 4 (l.take k)) ∧ Ext [] w wr) (fun _ i _ => l.length - (intOf i).toNat)
  case atStart => exact ⟨0, 0, by omega, rfl, .nothing' _ _, h0⟩
  case round =>
    obtain ⟨k, ob', hk, rfl, hB, hE⟩ := hrel
    clear h0
    by_cases hlt : k < l.length
    · obtain ⟨off, x, rfl, hx, hc, hx1⟩ := (h.ext hE (by simp)).at k hlt
      have hbl : (bes 4 (l.take k)).length ≤ 1000000 := by rw [bes_length]; simp; omega
      have hw16 := w16 x
      have hw32 := w32 x
      have hw64 := w64 x hx1
      have hp := Put32_own wr _ ob' _ x _ hw32 hB hbl
      clear hw16 hw32 hw64
      have ht : bes 4 (l.take k) ++ be 4 x = bes 4 (l.take (k + 1)) := by rw [List.take_add_one, hx]; simp [bes_snoc]
      rw [ht] at hp
      have hx0 : 0 ≤ (x : Int) := by omega
      clear ht hx
      go_wp2_with (go_at_call 12; refine hp.mono ?_; rintro e w1 ⟨g, c, rfl, hO, _, _, hE1⟩)
      go_roundw
      case rel => exact ⟨k + 1, g, by omega, by go_num, hO.bs, hE.trans hE1⟩
      case measure => simp [intOf]; omega
    · obtain rfl : k = l.length := by omega
      rw [List.take_of_length_le (Nat.le_refl _)] at hB
      have hbl : (bes 4 l).length ≤ 1000000 := by rw [bes_length]; omega
      have hrd := Read_any wr _ ob' _ hB hbl
      go_wp2_with (go_at_call 16; refine hrd.mono ?_; rintro e w1 ⟨b, orb, own, rfl, hR1, hb1, _, _, hE1⟩)
      have hbw : w.heap.size ≤ b := by have := hE.size; omega
      have hob : 0 < l.length → ob < w.heap.size := fun h0 => by
        obtain ⟨o, x, _, _, hc, _⟩ := h.at 0 h0
        exact World.block_lt_of_cell? _ _ hc
      have hU0 := h.ext hE (by simp)
      have hE2 := hE.trans hE1
      have hU1 := hU0.ext hE1 (by simp)
      have hR1' : RdAt w1 b orb own ⟨bes 4 l, 4 * 0, 0⟩ := hR1
      clear hrd hB hE hE1 hR1 hU0 h
      go_loopw [46] (fun i wr => ∃ k : Nat, k ≤ l.length ∧ i = .int .i64 k ∧ RdAt wr b orb own ⟨bes 4 l, 4 * k, 0⟩ ∧ Ext [b] w1 wr) (fun i _ => l.length - (intOf i).toNat)
      case atStart => exact ⟨0, by omega, rfl, hR1', Ext.refl _ _⟩
      case round =>
        obtain ⟨k, hk, rfl, hR, hE⟩ := hrel
        clear hR1'
        by_cases hlt : k < l.length
        · obtain ⟨off, x, rfl, hx, hc0, hx1⟩ := hU1.at k hlt
          have hc := hE.read hc0 (by
            intro hm
            have : ob = b := by simpa using hm
            have := hob (by omega)
            omega)
          have hw16 := w16 x
          have hw32 := w32 x
          have hw64 := w64 x hx1
          have hrd := read_U32 wr b orb own l k x hx hR
          have hH := hw32
          clear hw16 hw32 hw64
          generalize ((x % 256 ^ 4 : Nat) : Int) = y at hH hrd
          have her : ∀ w, RdAt w b orb own ⟨bes 4 l, 4 * (k + 1), 0⟩ → Calls Try.prog 26 #[.pointer (some ⟨b, 0, none⟩)] w fun e w' => e = .returned (.int .i64 0) ∧ w = w' := fun w h => Err_any w b orb own _ h
          clear hx hc0
          go_wp2_with (first
            | (go_at_call 22; refine hrd.mono ?_; rintro e w2 ⟨rfl, hR2, hE2⟩)
            | (go_at_call 26; refine (her _ hR2).mono ?_; rintro e w3 ⟨rfl, rfl⟩))
          go_roundw
          case rel => exact ⟨k + 1, by omega, by go_num, hR2, hE.trans hE2⟩
          case measure => simp [intOf]; omega
        · obtain rfl : k = l.length := by omega
          go_wp2_with (first
            | (go_at_call 27; refine (end_left_U32 _ b orb own l hR).mono ?_; rintro e w2 ⟨rfl, n2, rfl⟩)
            | (go_at_call 20; refine (end_u8_U32 _ b orb own l (hR.drewN _)).mono ?_; rintro e w3 ⟨rfl, hR3, hE3⟩)
            | (go_at_call 26; refine (end_err_U32 _ b orb own l hR3).mono ?_; rintro e w4 ⟨rfl, rfl⟩))
          go_ret
          exact ⟨rfl, (hE2.trans' ((hE.drewN _).trans hE3) (by simp; omega)).below⟩
set_option maxHeartbeats 4000000 in
theorem walkRow2 (w : World) (v : Value) (ob : Nat) (l : List Nat) (wide : Int) (h : Us w v ob l) (hl : l.length ≤ 300) (hkk : (IntKind.u64.wrap wide).tmod 3 = 2) :
    Calls Try.prog 6 #[v, .int .i64 wide] w fun e w' => e = .returned (.bool true) ∧ Below w.heap.size w w' := by
  obtain ⟨av, cv, rfl⟩ := h.shape
  go_enter Try.func6, Try.ntmps6
  go_wp2_with (go_at_call 9; refine (wakes_any _).mono ?_; rintro e w0 ⟨rfl, h0⟩)
  go_loopw [5, 19] (fun v i wr => ∃ (k : Nat) (ob : Nat), k ≤ l.length ∧ i = .int .i64 k ∧ Bs wr v ob (bes 8 (l.take k)) ∧ Ext [] w wr) (fun _ i _ => l.length - (intOf i).toNat)
  case atStart => exact ⟨0, 0, by omega, rfl, .nothing' _ _, h0⟩
  case round =>
    obtain ⟨k, ob', hk, rfl, hB, hE⟩ := hrel
    clear h0
    by_cases hlt : k < l.length
    · obtain ⟨off, x, rfl, hx, hc, hx1⟩ := (h.ext hE (by simp)).at k hlt
      have hbl : (bes 8 (l.take k)).length ≤ 1000000 := by rw [bes_length]; simp; omega
      have hw16 := w16 x
      have hw32 := w32 x
      have hw64 := w64 x hx1
      have hp := Put64_own wr _ ob' _ x _ hw64 hB hbl
      clear hw16 hw32 hw64
      have ht : bes 8 (l.take k) ++ be 8 x = bes 8 (l.take (k + 1)) := by rw [List.take_add_one, hx]; simp [bes_snoc]
      rw [ht] at hp
      have hx0 : 0 ≤ (x : Int) := by omega
      clear ht hx
      go_wp2_with (go_at_call 13; refine hp.mono ?_; rintro e w1 ⟨g, c, rfl, hO, _, _, hE1⟩)
      go_roundw
      case rel => exact ⟨k + 1, g, by omega, by go_num, hO.bs, hE.trans hE1⟩
      case measure => simp [intOf]; omega
    · obtain rfl : k = l.length := by omega
      rw [List.take_of_length_le (Nat.le_refl _)] at hB
      have hbl : (bes 8 l).length ≤ 1000000 := by rw [bes_length]; omega
      have hrd := Read_any wr _ ob' _ hB hbl
      go_wp2_with (go_at_call 16; refine hrd.mono ?_; rintro e w1 ⟨b, orb, own, rfl, hR1, hb1, _, _, hE1⟩)
      have hbw : w.heap.size ≤ b := by have := hE.size; omega
      have hob : 0 < l.length → ob < w.heap.size := fun h0 => by
        obtain ⟨o, x, _, _, hc, _⟩ := h.at 0 h0
        exact World.block_lt_of_cell? _ _ hc
      have hU0 := h.ext hE (by simp)
      have hE2 := hE.trans hE1
      have hU1 := hU0.ext hE1 (by simp)
      have hR1' : RdAt w1 b orb own ⟨bes 8 l, 8 * 0, 0⟩ := hR1
      clear hrd hB hE hE1 hR1 hU0 h
      go_loopw [46] (fun i wr => ∃ k : Nat, k ≤ l.length ∧ i = .int .i64 k ∧ RdAt wr b orb own ⟨bes 8 l, 8 * k, 0⟩ ∧ Ext [b] w1 wr) (fun i _ => l.length - (intOf i).toNat)
      case atStart => exact ⟨0, by omega, rfl, hR1', Ext.refl _ _⟩
      case round =>
        obtain ⟨k, hk, rfl, hR, hE⟩ := hrel
        clear hR1'
        by_cases hlt : k < l.length
        · obtain ⟨off, x, rfl, hx, hc0, hx1⟩ := hU1.at k hlt
          have hc := hE.read hc0 (by
            intro hm
            have : ob = b := by simpa using hm
            have := hob (by omega)
            omega)
          have hw16 := w16 x
          have hw32 := w32 x
          have hw64 := w64 x hx1
          have hrd := read_U64 wr b orb own l k x hx hR
          have hH := hw64
          clear hw16 hw32 hw64
          generalize ((x % 256 ^ 8 : Nat) : Int) = y at hH hrd
          have her : ∀ w, RdAt w b orb own ⟨bes 8 l, 8 * (k + 1), 0⟩ → Calls Try.prog 26 #[.pointer (some ⟨b, 0, none⟩)] w fun e w' => e = .returned (.int .i64 0) ∧ w = w' := fun w h => Err_any w b orb own _ h
          clear hx hc0
          go_wp2_with (first
            | (go_at_call 23; refine hrd.mono ?_; rintro e w2 ⟨rfl, hR2, hE2⟩)
            | (go_at_call 26; refine (her _ hR2).mono ?_; rintro e w3 ⟨rfl, rfl⟩))
          go_roundw
          case rel => exact ⟨k + 1, by omega, by go_num, hR2, hE.trans hE2⟩
          case measure => simp [intOf]; omega
        · obtain rfl : k = l.length := by omega
          go_wp2_with (first
            | (go_at_call 27; refine (end_left_U64 _ b orb own l hR).mono ?_; rintro e w2 ⟨rfl, n2, rfl⟩)
            | (go_at_call 20; refine (end_u8_U64 _ b orb own l (hR.drewN _)).mono ?_; rintro e w3 ⟨rfl, hR3, hE3⟩)
            | (go_at_call 26; refine (end_err_U64 _ b orb own l hR3).mono ?_; rintro e w4 ⟨rfl, rfl⟩))
          go_ret
          exact ⟨rfl, (hE2.trans' ((hE.drewN _).trans hE3) (by simp; omega)).below⟩

/-- too long to be asked of -/
theorem walkRow_long (w : World) (a : Option Addr) (n c : Nat) (x : Int) (hn : 300 < (n : Int)) :
    Calls Try.prog 6 #[.slice a n c, .int .i64 x] w fun e w' => e = .returned (.bool true) ∧ Below w.heap.size w w' := by
  go_enter Try.func6, Try.ntmps6
  go_wp2_with (go_at_call 9; refine (wakes_any _).mono ?_; rintro e w0 ⟨rfl, h0⟩)
  go_ret
  exact ⟨rfl, h0.below⟩

open Go.ChangeShapes Go.WideShapes Go.ChangeAt in
theorem walk_OctetRow {H : Type} {enc : TypeId × Value → H} (W : World) (v0 : Value) (d0 : DataW H) (p0 : List MemPlace) (base0 : Nat) (h0 : DataW.Trod enc Try.prog W 0 (fun _ => true) true 61 v0 d0 p0) (k0 : Value.okWide Try.prog W .any base0 61 v0) (v1 : Value) (d1 : DataW H) (p1 : List MemPlace) (base1 : Nat) (h1 : DataW.Trod enc Try.prog W 0 (fun _ => true) true 3 v1 d1 p1) (k1 : Value.okWide Try.prog W .any base1 3 v1) :
    Calls Try.prog 6 #[v0, v1] W fun e w' => e = .returned (.bool true) ∧ Below W.heap.size W w' := by
  obtain ⟨x, rfl, rfl, rfl, w1⟩ := open_int Try.underlying3 k1 h1
  obtain ⟨ob, l, hU⟩ := read_nums h0 k0
  by_cases hn : 300 < (l.length : Int)
  · obtain ⟨a, c, rfl⟩ := hU.shape
    exact walkRow_long W a _ c x hn
  · obtain ⟨kk, hkk, h0, h2⟩ := kind3 x
    have : kk = 0 ∨ kk = 1 ∨ kk = 2 := by omega
    rcases this with rfl | rfl | rfl
    · exact walkRow0 W _ ob l x hU (by omega) hkk
    · exact walkRow1 W _ ob l x hU (by omega) hkk
    · exact walkRow2 W _ ob l x hU (by omega) hkk

namespace octetRow
open Go.ChangeShapes Go.WideShapes Go.ChangeAt Go.RowKit
theorem own : ownKnob Try.prog.godebug = none := by kernel_rfl
theorem laidOut : laidOutB Try.prog = true := by kernel_rfl
set_option maxRecDepth 100000 in
theorem lifted (os : Os) (started : os.Started) (H : Type) (enc : TypeId × Value → H) :
    ReturnsInHanded {} Try.checked os 6 .any (Rows.octetRowSpec.pre6 enc Try.prog Try.f6 Rows.octetRowRow.domain false) (Rows.octetRowSpec.post enc Try.prog Try.f6 false true false false) := by
  refine returnsInHanded_of_change (C := Try.checked) own started (by kernel_rfl) Try.func6
    (ChangeSpec.witness6 (enc := enc) (C := Try.checked) false ⟨#[], #[.slice none 0 0, .int .i64 0], []⟩ 8 (by kernel_rfl) (by kernel_rfl) (by kernel_rfl) (by kernel_rfl)) ?_
  intro W base args ds gs before hval0 hW hcnd _
  have hval : ∀ (j : Nat) t v, Try.f6.params[j]? = some t → args[j]? = some v → Value.okWide Try.prog W .any base t v := hval0
  have hW' := hW
  obtain ⟨p, q, hA0, hV, rfl, hfz, hnd⟩ := hW
  have hA : DataW.TrodAll enc Try.prog W 0 (fun _ => true) true Try.f6.params.toList args.toList ds p := hA0
  rw [Try.params6] at hA hval
  obtain ⟨v0, vs0, d0, ds0, p0, q0, hargs, rfl, rfl, h0, r0⟩ := trodAll_cons hA
  obtain ⟨v1, vs1, d1, ds1, p1, q1, rfl, rfl, rfl, h1, r1⟩ := trodAll_cons r0
  obtain ⟨rfl, rfl, rfl⟩ := trodAll_nil r1
  obtain rfl : args = #[v0, v1] := by cases args; simp_all
  obtain ⟨rfl, rfl⟩ := trodVars_none hV
  have lt0 : ∀ x ∈ p0, x.block < W.heap.size := by obtain ⟨m, hm⟩ := h0; exact DataW.trod_lt m _ _ _ hm
  have lt1 : ∀ x ∈ p1, x.block < W.heap.size := by obtain ⟨m, hm⟩ := h1; exact DataW.trod_lt m _ _ _ hm
  have k0 := hval 0 61 v0 rfl rfl
  have k1 := hval 1 3 v1 rfl rfl
  clear hA0 hval0
  refine (walk_OctetRow W v0 d0 p0 base h0 k0 v1 d1 p1 base h1 k1).mono fun e W' ⟨he, bel⟩ => ?_
  subst he
  exact ⟨_, rfl, _, _, _, [], _, [], hW', trodAll_mk1 (shut_bool Try.underlying4 _), (trodAll_cons_mk (Below.trod laidOut (by kernel_rfl) (of_decide_eq_true (by kernel_rfl)) h0 bel lt0) (trodAll_cons_mk (Below.trod laidOut (by kernel_rfl) (of_decide_eq_true (by kernel_rfl)) h1 bel lt1) trodAll_mk0)), rfl, bel.frame _, fun h => by cases h⟩
theorem over : Rows.octetRowRow.holds Try.pinned (OpenSpec.ofChange Rows.octetRowSpec) :=
  OpenClaim.holds_of_wide 6 Try.f6 rfl rfl rfl rfl rfl rfl rfl ⟨rfl, rfl, rfl, rfl, rfl⟩ rfl rfl rfl rfl rfl (by kernel_rfl) Try.func6 (by kernel_rfl)
    (of_decide_eq_true (by kernel_rfl)) (by unfold Func.isWrapper; first | (rw [if_pos (by decide +kernel)]; kernel_rfl) | (rw [if_neg (by decide +kernel)]; exact ⟨rfl, rfl⟩))
    (fun os started H enc _ => lifted os started H enc)
theorem proved : Rows.OctetRowSaid := over
#print axioms proved
end octetRow
end Go.Proofs.Ytcahdillpdekmaa
