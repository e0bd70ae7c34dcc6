/-
  PROVED: bowspritlaw03.SumNarrow: for every list of bytes, int and four bytes the call returns true: of rows of one length that differ within four bytes side by side the sums differ. No condition.
-/
import Derived.Test.YtgibkbbabaenpaaSumE
import Derived.Laws.IdiomArrays
import Derived.Laws.StructEq
import Derived.OpenShut
import Derived.ChangeOld
namespace Go.Proofs.Ytgibkbbabaenpaa
open Go.RowKit
set_option linter.unusedVariables false

theorem read_four {H : Type} {enc : TypeId × Value → H} {W : World} {v : Value} {d : DataW H} {p : List MemPlace} {base : Nat} (h : DataW.Trod enc Try.prog W 0 (fun _ => true) true 40 v d p) (k : Value.okWide Try.prog W .any base 40 v) :
    ∃ a b c d : UInt8, v = .agg #[BV a, BV b, BV c, BV d] := by
  have k0 : ∃ cs, v = .agg cs ∧ cs.size = Try.prog.cellsOf 40 ∧ Row.okWide Try.prog W .any base 40 cs := by
    simpa [Value.okWide, Try.underlying40] using k
  obtain ⟨cs, rfl, hsz, _⟩ := k0
  have h4 : Try.prog.cellsOf 40 = 4 := by kernel_rfl
  rw [h4] at hsz
  obtain ⟨c0, c1, c2, c3, rfl⟩ : ∃ c0 c1 c2 c3, cs = #[c0, c1, c2, c3] := by
    obtain ⟨l⟩ := cs
    match l, hsz with
    | [c0, c1, c2, c3], _ => exact ⟨c0, c1, c2, c3, rfl⟩
  obtain ⟨fuel, hf⟩ := h
  obtain ⟨y0, y1, y2, y3, n, hx, hy0, hy1, hy2, hy3⟩ := ChangeShapes.trod_array4 Try.underlying40 (by kernel_rfl) hf
  have hb : ∀ {n : Nat} {c : Value} {y : DataW H × List MemPlace}, DataW.trod enc Try.prog W 0 (fun _ => true) true n 5 [c] = some y → ∃ a : UInt8, c = BV a := by
    intro n c y h
    obtain ⟨z, hz, _, hw⟩ := DataW.trod_int Try.underlying5 h
    have hw := bounds_u8 hw
    refine ⟨UInt8.ofNat z.toNat, ?_⟩
    simp at hz
    rw [hz]
    unfold BV
    congr 1
    simp
    omega
  obtain ⟨a, rfl⟩ := hb hy0
  obtain ⟨b, rfl⟩ := hb hy1
  obtain ⟨c, rfl⟩ := hb hy2
  obtain ⟨d, rfl⟩ := hb hy3
  exact ⟨a, b, c, d, rfl⟩

theorem isAgg_u8 (w : World) : (isAgg 5).run Try.prog w = .ok false w := by kernel_rfl
theorem sizeOf_u8 (w : World) : (sizeOf 5).run Try.prog w = .ok 1 w := by kernel_rfl
theorem eq_four (a b c d : Int) (w : World) : (Op.equalIn 10000 40 (.agg #[.int .u8 a, .int .u8 b, .int .u8 c, .int .u8 d]) (.agg #[.int .u8 0, .int .u8 0, .int .u8 0, .int .u8 0])).run Try.prog w = .ok (a == 0 && (b == 0 && (c == 0 && d == 0))) w := by
  have u3 := Try.underlying5
  have a3 := isAgg_u8
  have z3 := sizeOf_u8
  rw [show (10000 : Nat) = 9999 + 1 from rfl, Op.equalIn]
  simp only [Sem.run_bind, run_underlying Try.underlying40, Result.andThen_ok]
  simp only [Std.Legacy.Range.forIn_eq_forIn_range', Std.Legacy.Range.size, Nat.sub_zero, Nat.add_sub_cancel, Nat.div_one, List.range'_succ, List.range'_zero, List.forIn_cons, List.forIn_nil]
  go_simp
  by_cases h1 : a = 0 <;> by_cases h2 : b = 0 <;> by_cases h3 : c = 0 <;> by_cases h4 : d = 0 <;> simp [h1, h2, h3, h4]

theorem place_in (x m : Int) (h : 1 ≤ m) (h2 : m ≤ 1000000) : ∃ p : Nat, (IntKind.u64.wrap x).tmod m = p ∧ (p : Int) < m := by
  have e : (IntKind.u64.wrap x).tmod m = (IntKind.u64.wrap x) % m := Int.tmod_eq_emod_of_nonneg (by rw [wrap_u64_mod]; omega)
  rw [e]
  have l0 := Int.emod_nonneg (IntKind.u64.wrap x) (show m ≠ 0 by omega)
  have l1 := Int.emod_lt_of_pos (IntKind.u64.wrap x) (show 0 < m by omega)
  generalize (IntKind.u64.wrap x) % m = y at *
  exact ⟨y.toNat, by omega, by omega⟩

/-- the turn of four bytes at p, in a row of n -/
def turn4 (n p : Nat) (a b c d : UInt8) : List UInt8 := List.replicate p 0 ++ [a, b, c, d] ++ List.replicate (n - p - 4) 0
theorem turn4_length (n p : Nat) (a b c d : UInt8) (h : p + 4 ≤ n) : (turn4 n p a b c d).length = n := by simp [turn4]; omega
theorem turn4_at (n p : Nat) (a b c d : UInt8) (k : Nat) (hk : k < 4) : (turn4 n p a b c d)[p + k]? = [a, b, c, d][k]? := by
  unfold turn4
  rw [List.append_assoc, List.getElem?_append_right (by simp), List.length_replicate, Nat.add_sub_cancel_left, List.getElem?_append_left (by simpa using hk)]
theorem xor_zero_u8 (x : UInt8) : x ^^^ 0 = x := by
  apply UInt8.toNat_inj.1; rw [UInt8.toNat_xor]; simp
theorem turned_zeros : ∀ (l : List UInt8), turned l (List.replicate l.length 0) = l
  | [] => rfl
  | x :: l => by
    show (x ^^^ 0) :: turned l (List.replicate l.length 0) = _
    rw [xor_zero_u8, turned_zeros l]
theorem mix_start (l : List UInt8) (p : Nat) (a b c d : UInt8) (h : p + 4 ≤ l.length) : mix l (turn4 l.length p a b c d) p = l := by
  unfold mix
  have e : (turn4 l.length p a b c d).take p = List.replicate (l.take p).length 0 := by
    have : (l.take p).length = p := by rw [List.length_take]; omega
    rw [this]
    unfold turn4
    rw [List.append_assoc, List.take_left' (by simp)]
  rw [e, turned_zeros, List.take_append_drop]
theorem mix_end (l : List UInt8) (p : Nat) (a b c d : UInt8) (h : p + 4 ≤ l.length) : mix l (turn4 l.length p a b c d) (p + 4) = turned l (turn4 l.length p a b c d) := by
  have e : (turn4 l.length p a b c d).drop (p + 4) = List.replicate (l.drop (p + 4)).length 0 := by
    have : (l.drop (p + 4)).length = l.length - p - 4 := by rw [List.length_drop]; omega
    rw [this]
    unfold turn4
    rw [List.drop_left' (by simp)]
  have hs : turned l (turn4 l.length p a b c d) = turned (l.take (p + 4)) ((turn4 l.length p a b c d).take (p + 4)) ++ turned (l.drop (p + 4)) ((turn4 l.length p a b c d).drop (p + 4)) := by
    unfold turned
    rw [← List.zipWith_append (by rw [List.length_take, List.length_take, turn4_length _ _ _ _ _ _ h]), List.take_append_drop, List.take_append_drop]
  rw [hs, e, turned_zeros]
  rfl

set_option maxRecDepth 100000 in
set_option maxHeartbeats 1000000 in
theorem walkNarrow_in (w : World) (v : Value) (ob : Nat) (l : List UInt8) (x : Int) (a b c d : UInt8) (h : Bs w v ob l) (h4 : 4 ≤ l.length) (hl : l.length ≤ 1000) (hne : ¬ (a = 0 ∧ b = 0 ∧ c = 0 ∧ d = 0)) :
    Calls Try.prog 7 #[v, .int .i64 x, .agg #[.int .u8 (a.toNat : Int), .int .u8 (b.toNat : Int), .int .u8 (c.toNat : Int), .int .u8 (d.toNat : Int)]] w fun e w' => e = .returned (.bool true) ∧ Below w.heap.size w w' := by
  obtain ⟨av, cv, rfl⟩ := h.shape
  go_enter Try.func7, Try.ntmps7
  have hcl : ∀ w1, Ext [] w w1 → Calls Try.prog 22 #[.slice av l.length cv] w1 fun e w' => ∃ g c, e = .returned (.slice (some ⟨g, 0, none⟩) l.length c) ∧ l.length ≤ c ∧ OwnB w' (.slice (some ⟨g, 0, none⟩) l.length c) g l ∧ w1.heap.size ≤ g ∧ Ext [] w1 w' := by
    intro w1 he
    refine (clone_any w1 _ ob l (h.ext he (by simp)) (by omega)).mono ?_
    rintro e w' ⟨v', rfl, hN, hE⟩
    obtain ⟨g, h1, h2, _⟩ := hN.own (by rw [← List.length_pos_iff]; omega)
    obtain ⟨c, hc, rfl⟩ := h1.shape
    exact ⟨g, c, rfl, hc, h1, h2, hE⟩
  have hs := fun w1 (he : Ext [] w w1) => Sum32_any w1 _ ob l (h.ext he (by simp)) (by omega)
  clear h
  obtain ⟨p, hP, hp1⟩ := place_in x ((l.length : Int) - 3) (by omega) (by omega)
  have hp : p + 4 ≤ l.length := by omega
  have hcr' := Lib.hid (show crc l ≠ crc (turned l (turn4 l.length p a b c d)) from crc_narrow l p (l.length - p - 4) a b c d hne (by omega))
  have hB0 := Blk.new w [.int .u8 (a.toNat : Int), .int .u8 (b.toNat : Int), .int .u8 (c.toNat : Int), .int .u8 (d.toNat : Int)] 40
  have HB0 := Lib.hid hB0
  have hql : ∀ w, (Op.equalIn 10000 40 (.agg #[.int .u8 (a.toNat : Int), .int .u8 (b.toNat : Int), .int .u8 (c.toNat : Int), .int .u8 (d.toNat : Int)]) (.agg #[.int .u8 0, .int .u8 0, .int .u8 0, .int .u8 0])).run Try.prog w = .ok false w := fun w => by
    rw [eq_four]
    congr 1
    have : ∀ z : UInt8, ((z.toNat : Int) == 0) = (z == 0) := fun z => by
      rw [Bool.eq_iff_iff]; simp [← UInt8.toNat_inj]
    rw [this, this, this, this]
    simp
    intro h1 h2 h3
    exact fun h4 => hne ⟨h1, h2, h3, h4⟩
  clear hB0
  go_wp2_with (first
    | (go_at_call 10; refine (wakes_any _).mono ?_; rintro e w0 ⟨rfl, h0⟩; have hB := HB0.out.ext h0 (by simp); have k0 := hB.cell 0; have k1 := hB.cell 1; have k2 := hB.cell 2; have k3 := hB.cell 3; have h0' := ((Ext.refl [] w).alloc _).trans h0)
    | (go_at_call 22; refine (hcl _ h0').mono ?_; rintro e w1 ⟨g, cc, rfl, hcc, hO, hg, h1⟩; have hB1 := hB.ext h1 (by simp); have k4 := hB1.cell 0; have k5 := hB1.cell 1; have k6 := hB1.cell 2; have k7 := hB1.cell 3))
  have hO0 : OwnB w1 (.slice (some ⟨g, 0, none⟩) l.length cc) g (mix l (turn4 l.length p a b c d) (p + 0)) := by rw [Nat.add_zero, mix_start _ _ _ _ _ _ hp]; exact hO
  have hE1 := h0'.trans h1
  have hg1 : w.heap.size ≤ g := Nat.le_trans h0'.size hg
  have HT := Lib.hid (turn4_length l.length p a b c d hp)
  have HA := Lib.hid (turn4_at l.length p a b c d)
  have HM := Lib.hid (mix_end l p a b c d hp)
  clear hO hB hB1 HB0 hql h0 h0' h1 k0 k1 k2 k3 k4 k5 k6 k7 hcl hP
  generalize turn4 l.length p a b c d = T at *
  go_loopw [37] (fun i wr => ∃ k : Nat, k ≤ 4 ∧ i = .int .i64 k ∧ OwnB wr (.slice (some ⟨g, 0, none⟩) l.length cc) g (mix l T (p + k)) ∧ Ext [] w wr) (fun i _ => 4 - (intOf i).toNat)
  case atStart => exact ⟨0, by omega, rfl, hO0, hE1⟩
  case round =>
    obtain ⟨k, hk, hi, hO, hE⟩ := hrel
    clear hO0 hE1
    have hk4 : k = 0 ∨ k = 1 ∨ k = 2 ∨ k = 3 ∨ k = 4 := by omega
    rcases hk4 with rfl | rfl | rfl | rfl | rfl
    · obtain rfl : u37 = .int .i64 0 := hi
      have hx : T[p]? = some a := HA.out 0 (by decide)
      obtain ⟨y, hy⟩ : ∃ y, l[p]? = some y := ⟨_, List.getElem?_eq_getElem (by omega)⟩
      have hix : ∀ w, (Instr.index 40 (.agg #[.int .u8 (a.toNat : Int), .int .u8 (b.toNat : Int), .int .u8 (c.toNat : Int), .int .u8 (d.toNat : Int)]) (.int .i64 0)).run Try.prog w = .ok (.int .u8 (a.toNat : Int)) w := fun w => by kernel_rfl
      have hO' : OwnB wr (.slice (some ⟨g, 0, none⟩) l.length cc) g (mix l T p) := hO
      obtain ⟨c2, f2⟩ := hO'.cell p y (by rw [mix_at _ _ _ HT.out.symm (by omega)]; exact hy)
      have hset := hO'.set p (y ^^^ a) (by rw [mix_length _ _ _ HT.out.symm]; omega)
      rw [mix_set _ _ _ _ _ HT.out.symm hy hx] at hset
      have hxy := xor_u8 y a
      generalize (y ^^^ a).toNat = z at *
      clear hx hy hO hO' HA HT HM
      have i1 : (p : Int) + 4 ≤ l.length := by omega
      go_wp2
      go_roundw
      case rel => exact ⟨1, by omega, rfl, hset, hE.setCell (.inr hg1) _⟩
      case measure => simp [intOf]
    · obtain rfl : u37 = .int .i64 1 := hi
      have hx : T[(p+1)]? = some b := HA.out 1 (by decide)
      obtain ⟨y, hy⟩ : ∃ y, l[(p+1)]? = some y := ⟨_, List.getElem?_eq_getElem (by omega)⟩
      have hix : ∀ w, (Instr.index 40 (.agg #[.int .u8 (a.toNat : Int), .int .u8 (b.toNat : Int), .int .u8 (c.toNat : Int), .int .u8 (d.toNat : Int)]) (.int .i64 1)).run Try.prog w = .ok (.int .u8 (b.toNat : Int)) w := fun w => by kernel_rfl
      have hO' : OwnB wr (.slice (some ⟨g, 0, none⟩) l.length cc) g (mix l T (p+1)) := hO
      obtain ⟨c2, f2⟩ := hO'.cell (p+1) y (by rw [mix_at _ _ _ HT.out.symm (by omega)]; exact hy)
      have hset := hO'.set (p+1) (y ^^^ b) (by rw [mix_length _ _ _ HT.out.symm]; omega)
      rw [mix_set _ _ _ _ _ HT.out.symm hy hx] at hset
      have hxy := xor_u8 y b
      generalize (y ^^^ b).toNat = z at *
      clear hx hy hO hO' HA HT HM
      have i1 : (p : Int) + 4 ≤ l.length := by omega
      go_wp2
      go_roundw
      case rel => exact ⟨2, by omega, rfl, hset, hE.setCell (.inr hg1) _⟩
      case measure => simp [intOf]
    · obtain rfl : u37 = .int .i64 2 := hi
      have hx : T[(p+2)]? = some c := HA.out 2 (by decide)
      obtain ⟨y, hy⟩ : ∃ y, l[(p+2)]? = some y := ⟨_, List.getElem?_eq_getElem (by omega)⟩
      have hix : ∀ w, (Instr.index 40 (.agg #[.int .u8 (a.toNat : Int), .int .u8 (b.toNat : Int), .int .u8 (c.toNat : Int), .int .u8 (d.toNat : Int)]) (.int .i64 2)).run Try.prog w = .ok (.int .u8 (c.toNat : Int)) w := fun w => by kernel_rfl
      have hO' : OwnB wr (.slice (some ⟨g, 0, none⟩) l.length cc) g (mix l T (p+2)) := hO
      obtain ⟨c2, f2⟩ := hO'.cell (p+2) y (by rw [mix_at _ _ _ HT.out.symm (by omega)]; exact hy)
      have hset := hO'.set (p+2) (y ^^^ c) (by rw [mix_length _ _ _ HT.out.symm]; omega)
      rw [mix_set _ _ _ _ _ HT.out.symm hy hx] at hset
      have hxy := xor_u8 y c
      generalize (y ^^^ c).toNat = z at *
      clear hx hy hO hO' HA HT HM
      have i1 : (p : Int) + 4 ≤ l.length := by omega
      go_wp2
      go_roundw
      case rel => exact ⟨3, by omega, rfl, hset, hE.setCell (.inr hg1) _⟩
      case measure => simp [intOf]
    · obtain rfl : u37 = .int .i64 3 := hi
      have hx : T[(p+3)]? = some d := HA.out 3 (by decide)
      obtain ⟨y, hy⟩ : ∃ y, l[(p+3)]? = some y := ⟨_, List.getElem?_eq_getElem (by omega)⟩
      have hix : ∀ w, (Instr.index 40 (.agg #[.int .u8 (a.toNat : Int), .int .u8 (b.toNat : Int), .int .u8 (c.toNat : Int), .int .u8 (d.toNat : Int)]) (.int .i64 3)).run Try.prog w = .ok (.int .u8 (d.toNat : Int)) w := fun w => by kernel_rfl
      have hO' : OwnB wr (.slice (some ⟨g, 0, none⟩) l.length cc) g (mix l T (p+3)) := hO
      obtain ⟨c2, f2⟩ := hO'.cell (p+3) y (by rw [mix_at _ _ _ HT.out.symm (by omega)]; exact hy)
      have hset := hO'.set (p+3) (y ^^^ d) (by rw [mix_length _ _ _ HT.out.symm]; omega)
      rw [mix_set _ _ _ _ _ HT.out.symm hy hx] at hset
      have hxy := xor_u8 y d
      generalize (y ^^^ d).toNat = z at *
      clear hx hy hO hO' HA HT HM
      have i1 : (p : Int) + 4 ≤ l.length := by omega
      go_wp2
      go_roundw
      case rel => exact ⟨4, by omega, rfl, hset, hE.setCell (.inr hg1) _⟩
      case measure => simp [intOf]
    · obtain rfl : u37 = .int .i64 4 := hi
      have hO' : OwnB wr (.slice (some ⟨g, 0, none⟩) l.length cc) g (mix l T (p + 4)) := hO
      rw [HM.out] at hO'
      have hs1 := hs _ hE
      have hs2 := fun w1 (he : Ext [] wr w1) => Sum32_any w1 _ g (turned l T) (hO'.bs.ext he (by simp)) (by rw [turned_length]; omega)
      have hne2 : ((crc l : Int) != (crc (turned l T) : Int)) = true := by
        simp only [bne_iff_ne, ne_eq, Int.natCast_inj]; exact hcr'.out
      generalize crc (turned l T) = B at *
      generalize crc l = A at *
      clear hO hO' HA HT HM hs
      go_wp2_with (first
        | (go_at_call 12; ((with_reducible refine hs1.mono ?_); rintro e w2 ⟨rfl, h2⟩))
        | (go_at_call 12; ((with_reducible refine (hs2 _ h2).mono ?_); rintro e w3 ⟨rfl, h3⟩)))
      go_ret
      exact ⟨rfl, ((hE.trans h2).trans h3).below⟩

set_option maxRecDepth 100000 in
set_option maxHeartbeats 1000000 in
theorem walkNarrow_out (w : World) (av : Option Addr) (n cv : Nat) (x : Int) (a b c d : Int) (h : (n : Int) < 4 ∨ 1000 < (n : Int)) :
    Calls Try.prog 7 #[.slice av n cv, .int .i64 x, .agg #[.int .u8 a, .int .u8 b, .int .u8 c, .int .u8 d]] w fun e w' => e = .returned (.bool true) ∧ Below w.heap.size w w' := by
  by_cases h1 : (n : Int) < 4
  · clear h
    go_enter Try.func7, Try.ntmps7
    go_wp2_with (go_at_call 10; refine (wakes_any _).mono ?_; rintro e w0 ⟨rfl, h0⟩)
    go_ret
    exact ⟨rfl, (((Ext.refl [] w).alloc _).trans h0).below⟩
  · have h2 : 1000 < (n : Int) := by omega
    clear h
    go_enter Try.func7, Try.ntmps7
    go_wp2_with (go_at_call 10; refine (wakes_any _).mono ?_; rintro e w0 ⟨rfl, h0⟩)
    go_ret
    exact ⟨rfl, (((Ext.refl [] w).alloc _).trans h0).below⟩

set_option maxRecDepth 100000 in
set_option maxHeartbeats 1000000 in
theorem walkNarrow_zero (w : World) (av : Option Addr) (n cv : Nat) (x : Int) (h1 : 4 ≤ (n : Int)) (h2 : (n : Int) ≤ 1000) :
    Calls Try.prog 7 #[.slice av n cv, .int .i64 x, .agg #[.int .u8 0, .int .u8 0, .int .u8 0, .int .u8 0]] w fun e w' => e = .returned (.bool true) ∧ Below w.heap.size w w' := by
  have hql := eq_four 0 0 0 0
  have HB0 := Lib.hid (Blk.new w [.int .u8 0, .int .u8 0, .int .u8 0, .int .u8 0] 40)
  go_enter Try.func7, Try.ntmps7
  go_wp2_with (first
    | (go_at_call 10; refine (wakes_any _).mono ?_; rintro e w0 ⟨rfl, h0⟩; have hB := HB0.out.ext h0 (by simp); have k0 := hB.cell 0; have k1 := hB.cell 1; have k2 := hB.cell 2; have k3 := hB.cell 3))
  go_ret
  exact ⟨rfl, (((Ext.refl [] w).alloc _).trans h0).below⟩

open Go.ChangeShapes Go.WideShapes Go.ChangeAt in
theorem walk_SumNarrow {H : Type} {enc : TypeId × Value → H} (W : World) (v0 : Value) (d0 : DataW H) (p0 : List MemPlace) (base0 : Nat) (h0 : DataW.Trod enc Try.prog W 0 (fun _ => true) true 22 v0 d0 p0) (k0 : Value.okWide Try.prog W .any base0 22 v0) (v1 : Value) (d1 : DataW H) (p1 : List MemPlace) (base1 : Nat) (h1 : DataW.Trod enc Try.prog W 0 (fun _ => true) true 3 v1 d1 p1) (k1 : Value.okWide Try.prog W .any base1 3 v1) (v2 : Value) (d2 : DataW H) (p2 : List MemPlace) (base2 : Nat) (h2 : DataW.Trod enc Try.prog W 0 (fun _ => true) true 40 v2 d2 p2) (k2 : Value.okWide Try.prog W .any base2 40 v2) :
    Calls Try.prog 7 #[v0, v1, v2] W fun e w' => e = .returned (.bool true) ∧ Below W.heap.size W w' := by
  obtain ⟨x, rfl, rfl, rfl, w1⟩ := open_int Try.underlying3 k1 h1
  obtain ⟨v, n, cp, rfl, ob, l, hl, hB⟩ := read_bytes h0 k0
  subst hl
  obtain ⟨a, b, c, d, rfl⟩ := read_four h2 k2
  by_cases hn : (l.length : Int) < 4 ∨ 1000 < (l.length : Int)
  · exact walkNarrow_out W v _ cp x _ _ _ _ hn
  · by_cases hz : a = 0 ∧ b = 0 ∧ c = 0 ∧ d = 0
    · obtain ⟨rfl, rfl, rfl, rfl⟩ := hz
      exact walkNarrow_zero W v _ cp x (by omega) (by omega)
    · exact walkNarrow_in W _ ob l x a b c d hB (by omega) (by omega) hz

namespace sumNarrow
open Go.ChangeShapes Go.WideShapes Go.ChangeAt Go.RowKit
theorem own : ownKnob Try.prog.godebug = none := by kernel_rfl
theorem laidOut : laidOutB Try.prog = true := by kernel_rfl
set_option maxRecDepth 100000 in
theorem lifted (os : Os) (started : os.Started) (H : Type) (enc : TypeId × Value → H) :
    ReturnsInHanded {} Try.checked os 7 .any (Rows.sumNarrowSpec.pre6 enc Try.prog Try.f7 Rows.sumNarrowRow.domain false) (Rows.sumNarrowSpec.post enc Try.prog Try.f7 false true false false) := by
  refine returnsInHanded_of_change (C := Try.checked) own started (by kernel_rfl) Try.func7
    (ChangeSpec.witness6 (enc := enc) (C := Try.checked) false ⟨#[], #[.slice none 0 0, .int .i64 0, .agg #[.int .u8 0, .int .u8 0, .int .u8 0, .int .u8 0]], []⟩ 8 (by kernel_rfl) (by kernel_rfl) (by kernel_rfl) (by kernel_rfl)) ?_
  intro W base args ds gs before hval0 hW hcnd _
  have hval : ∀ (j : Nat) t v, Try.f7.params[j]? = some t → args[j]? = some v → Value.okWide Try.prog W .any base t v := hval0
  have hW' := hW
  obtain ⟨p, q, hA0, hV, rfl, hfz, hnd⟩ := hW
  have hA : DataW.TrodAll enc Try.prog W 0 (fun _ => true) true Try.f7.params.toList args.toList ds p := hA0
  rw [Try.params7] at hA hval
  obtain ⟨v0, vs0, d0, ds0, p0, q0, hargs, rfl, rfl, h0, r0⟩ := trodAll_cons hA
  obtain ⟨v1, vs1, d1, ds1, p1, q1, rfl, rfl, rfl, h1, r1⟩ := trodAll_cons r0
  obtain ⟨v2, vs2, d2, ds2, p2, q2, rfl, rfl, rfl, h2, r2⟩ := trodAll_cons r1
  obtain ⟨rfl, rfl, rfl⟩ := trodAll_nil r2
  obtain rfl : args = #[v0, v1, v2] := by cases args; simp_all
  obtain ⟨rfl, rfl⟩ := trodVars_none hV
  have lt0 : ∀ x ∈ p0, x.block < W.heap.size := by obtain ⟨m, hm⟩ := h0; exact DataW.trod_lt m _ _ _ hm
  have lt1 : ∀ x ∈ p1, x.block < W.heap.size := by obtain ⟨m, hm⟩ := h1; exact DataW.trod_lt m _ _ _ hm
  have lt2 : ∀ x ∈ p2, x.block < W.heap.size := by obtain ⟨m, hm⟩ := h2; exact DataW.trod_lt m _ _ _ hm
  have k0 := hval 0 22 v0 rfl rfl
  have k1 := hval 1 3 v1 rfl rfl
  have k2 := hval 2 40 v2 rfl rfl
  clear hA0 hval0
  refine (walk_SumNarrow W v0 d0 p0 base h0 k0 v1 d1 p1 base h1 k1 v2 d2 p2 base h2 k2).mono fun e W' ⟨he, bel⟩ => ?_
  subst he
  exact ⟨_, rfl, _, _, _, [], _, [], hW', trodAll_mk1 (shut_bool Try.underlying4 _), (trodAll_cons_mk (Below.trod laidOut (by kernel_rfl) (of_decide_eq_true (by kernel_rfl)) h0 bel lt0) (trodAll_cons_mk (Below.trod laidOut (by kernel_rfl) (of_decide_eq_true (by kernel_rfl)) h1 bel lt1) (trodAll_cons_mk (Below.trod laidOut (by kernel_rfl) (of_decide_eq_true (by kernel_rfl)) h2 bel lt2) trodAll_mk0))), rfl, bel.frame _, fun h => by cases h⟩
theorem over : Rows.sumNarrowRow.holds Try.pinned (OpenSpec.ofChange Rows.sumNarrowSpec) :=
  OpenClaim.holds_of_wide 7 Try.f7 rfl rfl rfl rfl rfl rfl rfl ⟨rfl, rfl, rfl, rfl, rfl⟩ rfl rfl rfl rfl rfl (by kernel_rfl) Try.func7 (by kernel_rfl)
    (of_decide_eq_true (by kernel_rfl)) (by unfold Func.isWrapper; first | (rw [if_pos (by decide +kernel)]; kernel_rfl) | (rw [if_neg (by decide +kernel)]; exact ⟨rfl, rfl⟩))
    (fun os started H enc _ => lifted os started H enc)
theorem proved : Rows.SumNarrowSaid := over
#print axioms proved
end sumNarrow
end Go.Proofs.Ytgibkbbabaenpaa
