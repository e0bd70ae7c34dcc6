/-
  PROVED: bowspritlaw24.NetSeals: for every list of bytes, int and byte the call returns true: what was sealed, sent, doubled and then spoiled comes and is not opened; the one that was doubled is. No condition.
-/
import Derived.Test.YtdiachkimgkkbaaNetW
import Derived.Test.YtdiachkimgkkbaaSumD
import Derived.Test.YtdiachkimgkkbaaRep
import Derived.OpenShut
import Derived.ChangeOld
namespace Go.Proofs.Ytdiachkimgkkbaa
open Go.RowKit
set_option linter.unusedVariables false
set_option linter.unusedSimpArgs false
theorem turned_none' : ∀ (l : List UInt8), turned l (List.replicate l.length 0) = l
  | [] => rfl
  | x :: l => by
    show (x ^^^ 0) :: turned l (List.replicate l.length 0) = _
    have e : x ^^^ 0 = x := by apply UInt8.toNat_inj.1; rw [UInt8.toNat_xor]; simp
    rw [e, turned_none' l]
/-- one byte turned -/
theorem turned_one (l : List UInt8) (p : Nat) (x y : UInt8) (hx : l[p]? = some x) : turned l (List.replicate p 0 ++ [y] ++ List.replicate (l.length - p - 1) 0) = l.set p (x ^^^ y) := by
  obtain ⟨hp, hxe⟩ := List.getElem?_eq_some_iff.1 hx
  have e : l = l.take p ++ [x] ++ l.drop (p + 1) := by
    rw [List.append_assoc, ← hxe, List.singleton_append, ← List.drop_eq_getElem_cons hp, List.take_append_drop]
  have l1 : (l.take p).length = p := by rw [List.length_take]; omega
  have l2 : (l.drop (p + 1)).length = l.length - p - 1 := by rw [List.length_drop]; omega
  have e2 : l.set p (x ^^^ y) = l.take p ++ [x ^^^ y] ++ l.drop (p + 1) := by
    rw [List.set_eq_take_append_cons_drop, if_pos hp, List.append_assoc]; rfl
  have e3 : turned (l.take p ++ [x] ++ l.drop (p + 1)) (List.replicate p 0 ++ [y] ++ List.replicate (l.length - p - 1) 0) = l.take p ++ [x ^^^ y] ++ l.drop (p + 1) := by
    unfold turned
    rw [List.zipWith_append (by rw [List.length_append, List.length_append, List.length_replicate, l1]; rfl), List.zipWith_append (by rw [List.length_replicate, l1])]
    have a1 := turned_none' (l.take p)
    have a2 := turned_none' (l.drop (p + 1))
    rw [l1] at a1
    rw [l2] at a2
    unfold turned at a1 a2
    rw [a1, a2]; rfl
  rw [e2, ← e3, ← e]
theorem xor_ne (x y : UInt8) (h : y ≠ 0) : x ^^^ y ≠ x := by
  intro e
  apply h
  have e1 := congrArg UInt8.toNat e
  rw [UInt8.toNat_xor] at e1
  have e2 := congrArg (x.toNat ^^^ ·) e1
  simp only [xor_cancel, Nat.xor_self] at e2
  exact UInt8.toNat_inj.1 (by simpa using e2)
/-- what was sealed and has one byte that is another one is not opened -/
theorem opened_spoiled (m : List UInt8) (p : Nat) (x y : UInt8) (hx : (m ++ le4 (crc m))[p]? = some x) (hy : y ≠ 0) : opened ((m ++ le4 (crc m)).set p (x ^^^ y)) = none := by
  have hlen : ((m ++ le4 (crc m)).set p (x ^^^ y)).length - 4 = m.length := by rw [List.length_set, List.length_append, le4_length]; omega
  unfold opened
  rw [hlen]
  by_cases hp : p < m.length
  · rw [List.getElem?_append_left hp] at hx
    rw [List.set_append_left _ _ hp, List.drop_left' (by simp), List.take_left' (by simp), if_neg]
    intro e
    have := le4_inj (crc_lt m) (crc_lt _) e
    rw [← turned_one m p x y hx] at this
    exact crc_one m p (m.length - p - 1) y hy (by omega) this
  · rw [List.getElem?_append_right (by omega)] at hx
    rw [List.set_append_right _ _ (by omega), List.drop_left' rfl, List.take_left' rfl, if_neg]
    intro e
    have e2 : ((le4 (crc m)).set (p - m.length) (x ^^^ y))[p - m.length]? = (le4 (crc m))[p - m.length]? := by rw [e]
    have hl : p - m.length < (le4 (crc m)).length := (List.getElem?_eq_some_iff.1 hx).1
    rw [hx, List.getElem?_set_self hl] at e2
    exact xor_ne x y hy (by simpa using e2)
theorem place_in (x m : Int) (h : 1 ≤ m) (h2 : m ≤ 1000000) : ∃ p : Nat, (IntKind.u64.wrap x).tmod m = p ∧ (p : Int) < m := by
  have e : (IntKind.u64.wrap x).tmod m = (IntKind.u64.wrap x) % m := Int.tmod_eq_emod_of_nonneg (by rw [wrap_u64_mod]; omega)
  rw [e]
  have l0 := Int.emod_nonneg (IntKind.u64.wrap x) (show m ≠ 0 by omega)
  have l1 := Int.emod_lt_of_pos (IntKind.u64.wrap x) (show 0 < m by omega)
  generalize (IntKind.u64.wrap x) % m = y at *
  exact ⟨y.toNat, by omega, by omega⟩
def sP1 (Z : List UInt8) : Par := ⟨1, 0, 1, Z, false⟩
def sP2 (Z : List UInt8) : Par := ⟨2, 0, 1, Z, false⟩
def sP3 (Z : List UInt8) : Par := ⟨2, 0, 1, Z, true⟩
theorem way01 : isWay 0 1 = true := by decide
theorem ns1 {Z : List UInt8} (h : Z.length ≤ 60000) : ofM ⟨0, []⟩ (sendM ⟨0, []⟩ 0 1 Z) = { n := ⟨1, [sP1 Z]⟩, num := 1 } := by
  have : ¬ 60000 < Z.length := by omega
  simp [ofM, right, chk, sendM, way01, this, addM, sP1]
theorem ns2 {Z : List UInt8} (h : Z.length ≤ 60000) : ofM ⟨1, [sP1 Z]⟩ (twinM ⟨1, [sP1 Z]⟩ 1) = { n := ⟨2, [sP1 Z, sP2 Z]⟩, num := 2 } := by
  simp [ofM, right, chk, parOK, twinM, atM, fnd, List.findIdx, List.findIdx.go, way01, h, addM, sP1, sP2]
theorem ns3 {Z : List UInt8} (h : Z.length ≤ 60000) {p : Nat} {x y : UInt8} (hx : Z[p]? = some x) (hy : y ≠ 0) : ofM ⟨2, [sP1 Z, sP2 Z]⟩ (spoilM ⟨2, [sP1 Z, sP2 Z]⟩ 2 p y) = { n := ⟨2, [sP1 Z, sP3 (Z.set p (x ^^^ y))]⟩ } := by
  have hp := (List.getElem?_eq_some_iff.1 hx).1
  have h1 : ¬ ((p : Int) < 0) := by omega
  have h2 : ¬ (Z.length ≤ p) := by omega
  simp [ofM, right, chk, parOK, spoilM, atM, fnd, List.findIdx, List.findIdx.go, way01, h, sP1, sP2, sP3, h1, h2, hy, modify_set _ hx]
theorem ns3' {Z : List UInt8} (h : Z.length ≤ 60000) (p : Nat) : ofM ⟨2, [sP1 Z, sP2 Z]⟩ (spoilM ⟨2, [sP1 Z, sP2 Z]⟩ 2 p 0) = { e := 2 } := by
  simp [ofM, right, chk, parOK, spoilM, atM, fnd, List.findIdx, List.findIdx.go, way01, h, sP1, sP2]
theorem ns4 {Z Z' : List UInt8} (h : Z.length ≤ 60000) (h' : Z'.length ≤ 60000) (h0 : 0 < Z'.length) : ofM ⟨2, [sP1 Z, sP3 Z']⟩ (comeM ⟨2, [sP1 Z, sP3 Z']⟩ 1) = { n := ⟨2, [sP3 Z']⟩, p := sP1 Z } := by
  simp [ofM, right, chk, parOK, comeM, atM, fnd, List.findIdx, List.findIdx.go, way01, h, h', h0, sP1, sP3]
theorem ns5 {Z' : List UInt8} (h' : Z'.length ≤ 60000) (h0 : 0 < Z'.length) : ofM ⟨2, [sP3 Z']⟩ (comeM ⟨2, [sP3 Z']⟩ 2) = { n := ⟨2, []⟩, p := sP3 Z' } := by
  simp [ofM, right, chk, parOK, comeM, atM, fnd, List.findIdx, List.findIdx.go, way01, h', h0, sP3]
/-- the calls of the law, their answers written out -/
theorem nsSend (w : World) (v : Value) (ob : Nat) (Z : List UInt8) (h : Bs w v ob Z) (hl : Z.length ≤ 60000) : Calls Try.prog 25 #[.agg #[.int .u64 0, .slice none 0 0], .int .i64 0, .int .i64 1, v] w fun e w' => ∃ a1 c1, e = .returned (.tuple #[.agg #[.int .u64 1, .slice a1 1 c1], .int .u64 1, .int .i64 0]) ∧ Ps w' (.slice a1 1 c1) [sP1 Z] ∧ Ext [] w w' := by
  have hs := Send_any w 0 (.slice none 0 0) [] 0 1 v ob Z (Ps.nil _) h (by omega)
  rw [ns1 hl] at hs
  refine hs.mono ?_
  rintro e w' ⟨v', rs', ⟨a', n', c', rfl⟩, rfl, hO, x⟩
  obtain ⟨a2, c2, e2⟩ := hO.shape
  rw [e2] at hO ⊢
  exact ⟨a2, c2, rfl, hO.ps, x⟩
theorem nsTwin (w : World) (v : Value) (Z : List UInt8) (h : Ps w v [sP1 Z]) (hl : Z.length ≤ 60000) : Calls Try.prog 27 #[.agg #[.int .u64 1, v], .int .u64 1] w fun e w' => ∃ a1 c1, e = .returned (.tuple #[.agg #[.int .u64 2, .slice a1 2 c1], .int .u64 2, .int .i64 0]) ∧ (∃ rs', OPs w.heap.size w' (.slice a1 2 c1) [sP1 Z, sP2 Z] rs') ∧ Ext [] w w' := by
  have hs := Twin_any w 1 1 v _ h
  rw [ns2 hl] at hs
  refine hs.mono ?_
  rintro e w' ⟨v', rs', ⟨a', n', c', rfl⟩, rfl, hO, x⟩
  obtain ⟨a2, c2, e2⟩ := hO.shape
  rw [e2] at hO ⊢
  exact ⟨a2, c2, rfl, ⟨_, hO⟩, x⟩
theorem nsSpoil0 (w : World) (v : Value) (Z : List UInt8) (p : Nat) (h : Ps w v [sP1 Z, sP2 Z]) (hl : Z.length ≤ 60000) : Calls Try.prog 37 #[.agg #[.int .u64 2, v], .int .u64 2, .int .i64 (p : Int), .int .u8 0] w fun e w' => ∃ v', (∃ a n c, v' = .slice a n c) ∧ e = .returned (.tuple #[.agg #[.int .u64 0, v'], .int .i64 2]) ∧ Ext [] w w' := by
  have hs := Spoil_any w 2 2 v _ p 0 h
  rw [ns3' hl] at hs
  refine hs.mono ?_
  rintro e w' ⟨v', rs', hv, rfl, hO, x⟩
  exact ⟨v', hv, rfl, x⟩
theorem nsSpoil (w : World) (v : Value) (Z : List UInt8) (p : Nat) (x y : UInt8) (h : Ps w v [sP1 Z, sP2 Z]) (hl : Z.length ≤ 60000) (hx : Z[p]? = some x) (hy : y ≠ 0) : Calls Try.prog 37 #[.agg #[.int .u64 2, v], .int .u64 2, .int .i64 (p : Int), .int .u8 (y.toNat : Int)] w fun e w' => ∃ a1 c1, e = .returned (.tuple #[.agg #[.int .u64 2, .slice a1 2 c1], .int .i64 0]) ∧ Ps w' (.slice a1 2 c1) [sP1 Z, sP3 (Z.set p (x ^^^ y))] ∧ Ext [] w w' := by
  have hs := Spoil_any w 2 2 v _ p y h
  rw [ns3 hl hx hy] at hs
  refine hs.mono ?_
  rintro e w' ⟨v', rs', ⟨a', n', c', rfl⟩, rfl, hO, x⟩
  obtain ⟨a2, c2, e2⟩ := hO.shape
  rw [e2] at hO ⊢
  exact ⟨a2, c2, rfl, hO.ps, x⟩
theorem nsCome (w : World) (v : Value) (Z Z' : List UInt8) (h : Ps w v [sP1 Z, sP3 Z']) (hl : Z.length ≤ 60000) (hl' : Z'.length ≤ 60000) (h0 : 0 < Z'.length) : Calls Try.prog 38 #[.agg #[.int .u64 2, v], .int .u64 1] w fun e w' => ∃ a1 c1 b c, e = .returned (.tuple #[.agg #[.int .u64 2, .slice a1 1 c1], .agg #[.int .u64 1, .int .i64 0, .int .i64 1, .slice b Z.length c, .bool false], .int .i64 0]) ∧ w'.ownsRow w.heap.size 5 1 (.slice b Z.length c) Z.length (Z.map BV) ∧ (∃ rs', OPs w.heap.size w' (.slice a1 1 c1) [sP3 Z'] rs') ∧ Ext [] w w' := by
  have hs := Come_any w 2 1 v _ h
  rw [ns4 hl hl' h0] at hs
  refine hs.mono ?_
  rintro e w' ⟨v', rs', ⟨rn, rf, rt, rb, rs⟩, ⟨a', n', c', rfl⟩, rfl, hO, ⟨h1, h2, h3, h4, h5⟩, _, x⟩
  obtain ⟨a2, c2, e2⟩ := hO.shape
  obtain ⟨b, c, e3⟩ := own_shape h5
  simp only [sP1] at h1 h2 h3 h4 h5 e3
  subst h1 h2 h3 h4 e3
  rw [e2] at hO ⊢
  exact ⟨a2, c2, b, c, rfl, h5, ⟨_, hO⟩, x⟩
theorem nsCome2 (w : World) (v : Value) (Z' : List UInt8) (h : Ps w v [sP3 Z']) (hl' : Z'.length ≤ 60000) (h0 : 0 < Z'.length) : Calls Try.prog 38 #[.agg #[.int .u64 2, v], .int .u64 2] w fun e w' => ∃ a1 c1 b c, e = .returned (.tuple #[.agg #[.int .u64 2, .slice a1 0 c1], .agg #[.int .u64 2, .int .i64 0, .int .i64 1, .slice b Z'.length c, .bool true], .int .i64 0]) ∧ (∃ ob, Bs w' (.slice b Z'.length c) ob Z') ∧ Ext [] w w' := by
  have hs := Come_any w 2 2 v _ h
  rw [ns5 hl' h0] at hs
  refine hs.mono ?_
  rintro e w' ⟨v', rs', ⟨rn, rf, rt, rb, rs⟩, ⟨a', n', c', rfl⟩, rfl, hO, hI, _, x⟩
  obtain ⟨a2, c2, e2⟩ := hO.shape
  obtain ⟨ob, _, hB⟩ := (hI.pis (X := []) (by simp)).2.2.2.2
  obtain ⟨h1, h2, h3, h4, h5⟩ := hI
  obtain ⟨b, c, e3⟩ := own_shape h5
  simp only [sP3] at h1 h2 h3 h4 h5 e3 hB
  subst h1 h2 h3 h4 e3
  rw [e2] at hO ⊢
  exact ⟨a2, c2, b, c, rfl, ⟨ob, hB⟩, x⟩
theorem Bs.head {w : World} {a : Option Addr} {n c ob : Nat} {l : List UInt8} (h : Bs w (.slice a n c) ob l) (m : Nat) (hm : m ≤ l.length) : Bs w (.slice a (l.take m).length c) ob (l.take m) ∧ n = l.length ∧ l.length ≤ c := by
  have hl : (l.take m).length = m := by rw [List.length_take]; omega
  rcases h.cases with ⟨h1, rfl⟩ | ⟨off, sp, cap, h1, h2, h3, hsp, h4⟩
  · simp only [Value.slice.injEq] at h1
    obtain ⟨rfl, rfl, rfl⟩ := h1
    exact ⟨by simpa using Bs.nothing' w ob, rfl, by simp⟩
  · simp only [Value.slice.injEq] at h1
    obtain ⟨rfl, rfl, rfl⟩ := h1
    refine ⟨⟨by simp, .inr ⟨off, sp, c, rfl, by rw [hl]; omega, h3, ?_, fun j u hu => ?_⟩⟩, rfl, h2⟩
    · rcases hsp with h | h
      · exact .inl (by rw [hl]; omega)
      · exact .inr h
    · rw [List.getElem?_map, Option.map_eq_some_iff] at hu
      obtain ⟨x, hx, rfl⟩ := hu
      rw [List.getElem?_take] at hx
      split at hx
      · obtain ⟨hj, rfl⟩ := List.getElem?_eq_some_iff.1 hx
        exact h4 j hj
      · cases hx
set_option maxRecDepth 100000 in
set_option maxHeartbeats 4000000 in
theorem walkSeals (w : World) (v : Value) (ob : Nat) (l : List UInt8) (x : Int) (y : UInt8) (h : Bs w v ob l) :
    Calls Try.prog 8 #[v, .int .i64 x, .int .u8 (y.toNat : Int)] w fun e w' => e = .returned (.bool true) ∧ Below w.heap.size w w' := by
  obtain ⟨av, cv, rfl⟩ := h.shape
  have hml := sl_len h
  unfold maxLen at hml
  obtain ⟨hM, -, hlc⟩ := h.head (min l.length 2000) (by omega)
  have hmin : min (l.length : Int) 2000 = ((l.take (min l.length 2000)).length : Int) := by rw [List.length_take]; omega
  have hM2 : (l.take (min l.length 2000)).length ≤ 2000 := by rw [List.length_take]; omega
  have hM3 : (l.take (min l.length 2000)).length ≤ l.length := by rw [List.length_take]; omega
  generalize l.take (min l.length 2000) = M at *
  obtain ⟨p, hP, hp1⟩ := place_in x ((M.length : Int) + 4) (by omega) (by omega)
  have l1 : (M ++ le4 (crc M)).length = M.length + 4 := by rw [List.length_append, le4_length]
  have hsl : ∀ w1, Ext [] w w1 → Calls Try.prog 36 #[.slice av M.length cv] w1 fun e w' => ∃ g c, e = .returned (.slice (some ⟨g, 0, none⟩) (M.length + 4) c) ∧ Bs w' (.slice (some ⟨g, 0, none⟩) (M.length + 4) c) g (M ++ le4 (crc M)) ∧ Ext [] w1 w' := by
    intro w1 he
    refine (Seal_bs w1 _ ob M (hM.ext he (by simp)) (by omega)).mono ?_
    rintro e w' ⟨g, c, rfl, h1, h2, h3⟩
    exact ⟨g, c, rfl, h1.bs, h3⟩
  have hop := fun w1 v1 o1 (hb : Bs w1 v1 o1 (M ++ le4 (crc M))) => Open_yes w1 v1 o1 _ _ hb (by omega) (by omega) (opened_seal M)
  have heq := fun w1 v1 o1 (hb : Bs w1 v1 o1 M) (he : Ext [] w w1) => Equal_any w1 v1 _ o1 ob M M hb (hM.ext he (by simp))
  rw [beq_self_eq_true] at heq
  have hbad := fun w1 v1 o1 z (hz : (M ++ le4 (crc M))[p]? = some z) (hy : y ≠ 0) (hb : Bs w1 v1 o1 ((M ++ le4 (crc M)).set p (z ^^^ y))) => Open_no w1 v1 o1 _ hb (by rw [List.length_set]; omega) (by rw [List.length_set]; omega) (opened_spoiled M p z y hz hy)
  have HL1 := Lib.hid l1
  have hZ : (M ++ le4 (crc M)).length ≤ 60000 := by omega
  have hZ0 : M.length + 4 ≤ (M ++ le4 (crc M)).length := by omega
  clear l1
  generalize M ++ le4 (crc M) = Z at *
  have hpl : p < Z.length := by omega
  obtain ⟨z, hz0⟩ : ∃ z, Z[p]? = some z := ⟨_, List.getElem?_eq_getElem hpl⟩
  have hz := Lib.hid hz0
  clear hz0 h
  go_enter Try.func8, Try.ntmps8
  go_upto_region 5 with (first
    | (go_at_call 10; (with_reducible refine (wakes_any _).mono ?_); rintro e w0 ⟨rfl, x0⟩)
    | (go_at_call 36; (with_reducible refine (hsl _ x0).mono ?_); rintro e w1 ⟨g1, c1, rfl, hB1, x1⟩))
  have x1 := x0.trans x1
  go_upto_region 6 with (go_at_call 25; (with_reducible refine (nsSend _ _ _ _ hB1 hZ).mono ?_); rintro e w2 ⟨a2, c2, rfl, hP2, x2⟩)
  have d2 := Blk.new w2 [.int .u64 1, .slice a2 1 c2] 25
  have y2 := (Ext.refl [] w2).alloc (.cells #[.int .u64 1, .slice a2 1 c2] 25)
  have hx := (x1.trans x2).trans y2
  have hP2 := hP2.ext y2
  have hnb : w.heap.size ≤ w2.heap.size := (x1.trans x2).size
  generalize w2.alloc (.cells #[.int .u64 1, .slice a2 1 c2] 25) = W2 at *
  generalize w2.heap.size = nb at *
  obtain ⟨m0, m1⟩ := d2.c2
  clear hB1 x0 x1 x2 y2
  go_upto_region 10 with (go_at_call 27; (with_reducible refine (nsTwin _ _ _ hP2 hZ).mono ?_); rintro e w3 ⟨a3, c3, rfl, ⟨rs3, hP3⟩, x3⟩; have d3 := d2.ext x3 (by simp); obtain ⟨p0, p1⟩ := d3.c2; have pf := d3.frozen)
  have x4 := ((Ext.refl [nb] w3).setCell (p := ⟨nb, 0, none⟩) (.inl (by simp)) (.int .u64 2)).setCell (p := ⟨nb, 1, none⟩) (.inl (by simp)) (.slice a3 2 c3)
  have d4 := (d3.set 0 (.int .u64 2)).set 1 (.slice a3 2 c3)
  simp only [List.set_cons_zero, List.set_cons_succ] at d4
  have hP4 := (hP3.other d3 (by decide) (by decide) x4).ps
  have hx := (hx.trans x3).trans' x4 (fun i hi => .inr (by simp at hi; omega))
  generalize (w3.setCell ⟨nb, 0, none⟩ (.int .u64 2)).setCell ⟨nb, 1, none⟩ (.slice a3 2 c3) = W4 at *
  clear p0 p1 pf x3 x4 hP3 d3 m0 m1
  obtain ⟨m0, m1⟩ := d4.c2
  by_cases hy : y = 0
  · subst hy
    have hy0 : (((0 : UInt8).toNat : Nat) : Int) = 0 := rfl
    rw [hy0]
    clear hy0
    go_wp2_with (go_at_call 37; (with_reducible refine (nsSpoil0 _ _ _ _ hP4 hZ).mono ?_); rintro e w5 ⟨v5, ⟨a5, n5, c5, rfl⟩, rfl, x5⟩)
    go_ret
    exact ⟨rfl, ((hx.trans x5).alloc _).below⟩
  · have hy0 : ((y.toNat : Int) == 0) = false := by
      rw [beq_eq_false_iff_ne]
      intro e
      exact hy (UInt8.toNat_inj.1 (by simpa using e))
    have hsp := nsSpoil W4 _ Z p z y hP4 hZ hz.out hy
    have hbad := fun w1 v1 o1 => hbad w1 v1 o1 z hz.out hy
    have hZ2 : (Z.set p (z ^^^ y)).length ≤ 60000 := by rw [List.length_set]; exact hZ
    have hZ3 : 0 < (Z.set p (z ^^^ y)).length := by rw [List.length_set]; omega
    generalize Z.set p (z ^^^ y) = Z' at *
    clear hy hz
    go_upto_region 13 with (go_at_call 37; (with_reducible refine hsp.mono ?_); rintro e w5 ⟨a5, c5, rfl, hP5, x5⟩)
    have d5 := Blk.new w5 [.int .u64 2, .slice a5 2 c5] 25
    have y5 := (Ext.refl [] w5).alloc (.cells #[.int .u64 2, .slice a5 2 c5] 25)
    have hx5 := (hx.trans x5).trans y5
    have hP5 := hP5.ext y5
    have hmb : w.heap.size ≤ w5.heap.size := (hx.trans x5).size
    generalize w5.alloc (.cells #[.int .u64 2, .slice a5 2 c5] 25) = W5 at *
    generalize w5.heap.size = mb at *
    clear hx x5 y5 hP4 hP2 d2 d4 m0 m1 hsp
    obtain ⟨m0, m1⟩ := d5.c2
    have hl5 := d5.lt
    go_upto_region 14 with (go_at_call 38; (with_reducible refine (nsCome _ _ _ _ hP5 hZ hZ2 hZ3).mono ?_); rintro e w6 ⟨a6, c6, a6b, c6b, rfl, hO6, ⟨rs6, hP6⟩, x6⟩; have d6 := d5.ext x6 (by simp); have y6 := (Ext.refl [] w6).alloc (.cells #[.int .u64 0, .int .i64 0, .int .i64 0, .slice none 0 0, .bool false] 33); have d6 := d6.ext y6 (by simp); have q6 := Blk.new w6 [.int .u64 0, .int .i64 0, .int .i64 0, .slice none 0 0, .bool false] 33; have hne : mb ≠ w6.heap.size := (by have := x6.size; omega); have hne' : w6.heap.size ≠ mb := hne.symm; obtain ⟨p0, p1⟩ := d6.c2; have pf := d6.frozen; obtain ⟨t0, t1, t2, t3, t4⟩ := q6.c5; have tf := q6.frozen)
    have hP6w := hP6
    generalize hW7 : w6.alloc (.cells #[.int .u64 0, .int .i64 0, .int .i64 0, .slice none 0 0, .bool false] 33) = W7 at *
    generalize hpb : w6.heap.size = pb at *
    clear m0 m1
    have x7 := ((Ext.refl [mb] W7).setCell (p := ⟨mb, 0, none⟩) (.inl (by simp)) (.int .u64 2)).setCell (p := ⟨mb, 1, none⟩) (.inl (by simp)) (.slice a6 1 c6)
    have hO7 := own_ext (own_ext hO6 y6 (fun _ _ => by simp)) x7 (own_ne (own_ext hO6 y6 (fun _ _ => by simp)) d6 (by decide))
    have q7 := q6.ext x7 (by simpa using hne')
    have hx7 := ((hx5.trans x6).trans y6).trans' x7 (fun i hi => .inr (by simp at hi; omega))
    have hpn : w.heap.size ≤ pb := by have := x6.size; omega
    generalize hW8 : (W7.setCell ⟨mb, 0, none⟩ (.int .u64 2)).setCell ⟨mb, 1, none⟩ (.slice a6 1 c6) = W8 at *
    have x8 := (((((Ext.refl [pb] W8).setCell (p := ⟨pb, 0, none⟩) (.inl (by simp)) (.int .u64 1)).setCell (p := ⟨pb, 1, none⟩) (.inl (by simp)) (.int .i64 0)).setCell (p := ⟨pb, 2, none⟩) (.inl (by simp)) (.int .i64 1)).setCell (p := ⟨pb, 3, none⟩) (.inl (by simp)) (.slice a6b Z.length c6b)).setCell (p := ⟨pb, 4, none⟩) (.inl (by simp)) (.bool false)
    have q8 := ((((q7.set 0 (.int .u64 1)).set 1 (.int .i64 0)).set 2 (.int .i64 1)).set 3 (.slice a6b Z.length c6b)).set 4 (.bool false)
    simp only [List.set_cons_zero, List.set_cons_succ] at q8
    have hO8 := own_ext hO7 x8 (own_ne hO7 q7 (by decide))
    have d7 := (d6.set 0 (.int .u64 2)).set 1 (.slice a6 1 c6)
    simp only [List.set_cons_zero, List.set_cons_succ] at d7
    rw [hW8] at d7
    have d8 := d7.ext x8 (by simpa using hne)
    have hx8 := hx7.trans' x8 (fun i hi => .inr (by simp at hi; omega))
    have hP8 : Ps (((((W8.setCell ⟨pb, 0, none⟩ (.int .u64 1)).setCell ⟨pb, 1, none⟩ (.int .i64 0)).setCell ⟨pb, 2, none⟩ (.int .i64 1)).setCell ⟨pb, 3, none⟩ (.slice a6b Z.length c6b)).setCell ⟨pb, 4, none⟩ (.bool false)) (.slice a6 1 c6) [sP3 Z'] :=
      (hP6w.keep ((y6.mono (Y := [mb, pb]) (by simp)).trans ((x7.mono (by simp +contextual)).trans (x8.mono (by simp +contextual)))) (by intro k hk; simp at hk; omega)).ps
    obtain ⟨ob8, hB8, _⟩ := Sl.of_own hO8
    have hB8 : Bs (((((W8.setCell ⟨pb, 0, none⟩ (.int .u64 1)).setCell ⟨pb, 1, none⟩ (.int .i64 0)).setCell ⟨pb, 2, none⟩ (.int .i64 1)).setCell ⟨pb, 3, none⟩ (.slice a6b Z.length c6b)).setCell ⟨pb, 4, none⟩ (.bool false)) (.slice a6b Z.length c6b) ob8 Z := hB8
    generalize ((((W8.setCell ⟨pb, 0, none⟩ (.int .u64 1)).setCell ⟨pb, 1, none⟩ (.int .i64 0)).setCell ⟨pb, 2, none⟩ (.int .i64 1)).setCell ⟨pb, 3, none⟩ (.slice a6b Z.length c6b)).setCell ⟨pb, 4, none⟩ (.bool false) = W9 at *
    clear x8 x7 y6 x6 q7 q6 hO8 hO7 hO6 t0 t1 t2 t3 t4 tf p0 p1 pf hP6w hP6 d7 d6 hW8 hW7 hx7 hx5
    obtain ⟨m0, m1⟩ := d8.c2
    go_upto_region 15 with (go_at_call 38; (with_reducible refine (nsCome2 _ _ _ hP8 hZ2 hZ3).mono ?_); rintro e w9 ⟨a9, c9, a9b, c9b, rfl, ⟨ob9, hB9⟩, x9⟩)
    have y9 := ((Ext.refl [] w9).alloc (.cells #[.int .u64 2, .slice a9 0 c9] 25)).alloc (.cells #[.int .u64 2, .int .i64 0, .int .i64 1, .slice a9b Z'.length c9b, .bool true] 33)
    have q9 := Blk.new (w9.alloc (.cells #[.int .u64 2, .slice a9 0 c9] 25)) [.int .u64 2, .int .i64 0, .int .i64 1, .slice a9b Z'.length c9b, .bool true] 33
    simp only [World.size_alloc] at q9
    have q8 := (q8.ext x9 (by simp)).ext y9 (by simp)
    have hB8 := (hB8.ext x9 (by simp)).ext y9 (by simp)
    have hB9 := hB9.ext y9 (by simp)
    have hx9 := (hx8.trans x9).trans y9
    have q9 : Blk ((w9.alloc (.cells #[.int .u64 2, .slice a9 0 c9] 25)).alloc (.cells #[.int .u64 2, .int .i64 0, .int .i64 1, .slice a9b Z'.length c9b, .bool true] 33)) (w9.heap.size + 1) 33 [.int .u64 2, .int .i64 0, .int .i64 1, .slice a9b Z'.length c9b, .bool true] := q9
    generalize (w9.alloc (.cells #[.int .u64 2, .slice a9 0 c9] 25)).alloc (.cells #[.int .u64 2, .int .i64 0, .int .i64 1, .slice a9b Z'.length c9b, .bool true] 33) = W10 at *
    obtain ⟨t0, t1, t2, t3, t4⟩ := q8.c5
    obtain ⟨u0, u1, u2, u3, u4⟩ := q9.c5
    clear m0 m1 hP8 x9 y9 hx8
    go_wp2_with (first
      | (go_at_call 39; (with_reducible refine (hop _ _ _ hB8).mono ?_); rintro e w11 ⟨v11, rfl, hN11, x11⟩; obtain ⟨a11, c11, rfl⟩ := own_shape hN11; obtain ⟨o11, hB11, _⟩ := Sl.of_own hN11; have hB11 : Bs w11 (.slice a11 M.length c11) o11 M := hB11; have r3 := cells_ext x11 u3; have hB9' := hB9.ext x11 (by simp))
      | (go_at_call 39; (with_reducible refine (hbad _ _ _ hB9').mono ?_); rintro e w12 ⟨rfl, x12⟩; have hB12 := hB11.ext x12 (by simp); have hx12 := (hx9.trans x11).trans x12)
      | (go_at_call 35; (with_reducible refine (heq _ _ _ hB12 hx12).mono ?_); rintro e w13 ⟨rfl, rfl⟩))
    go_ret
    exact ⟨rfl, hx12.below⟩
set_option maxRecDepth 100000 in
open Go.ChangeShapes Go.WideShapes Go.ChangeAt in
theorem walk_NetSeals {H : Type} {enc : TypeId × Value → H} (W : World) (v0 : Value) (d0 : DataW H) (p0 : List MemPlace) (base0 : Nat) (h0 : DataW.Trod enc Try.prog W 0 (fun _ => true) true 29 v0 d0 p0) (k0 : Value.okWide Try.prog W .any base0 29 v0) (v1 : Value) (d1 : DataW H) (p1 : List MemPlace) (base1 : Nat) (h1 : DataW.Trod enc Try.prog W 0 (fun _ => true) true 3 v1 d1 p1) (k1 : Value.okWide Try.prog W .any base1 3 v1) (v2 : Value) (d2 : DataW H) (p2 : List MemPlace) (base2 : Nat) (h2 : DataW.Trod enc Try.prog W 0 (fun _ => true) true 5 v2 d2 p2) (k2 : Value.okWide Try.prog W .any base2 5 v2) :
    Calls Try.prog 8 #[v0, v1, v2] W fun e w' => e = .returned (.bool true) ∧ Below W.heap.size W w' := by
  obtain ⟨x, rfl, rfl, rfl, w1⟩ := open_int Try.underlying3 k1 h1
  obtain ⟨y, rfl, rfl, rfl, w2⟩ := open_int Try.underlying5 k2 h2
  obtain ⟨v, n, cp, rfl, ob, l, hl, hB⟩ := read_bytes h0 k0
  subst hl
  have hw := bounds_u8 w2
  obtain ⟨z, rfl⟩ : ∃ z : UInt8, y = (z.toNat : Int) := ⟨UInt8.ofNat y.toNat, by simp; omega⟩
  exact walkSeals W _ ob l x z hB

namespace netSeals
open Go.ChangeShapes Go.WideShapes Go.ChangeAt Go.RowKit
theorem own : ownKnob Try.prog.godebug = none := by kernel_rfl
theorem laidOut : laidOutB Try.prog = true := by kernel_rfl
set_option maxRecDepth 100000 in
theorem lifted (os : Os) (started : os.Started) (H : Type) (enc : TypeId × Value → H) :
    ReturnsInHanded {} Try.checked os 8 .any (Rows.netSealsSpec.pre6 enc Try.prog Try.f8 Rows.netSealsRow.domain false) (Rows.netSealsSpec.post enc Try.prog Try.f8 false true false false) := by
  refine returnsInHanded_of_change (C := Try.checked) own started (by kernel_rfl) Try.func8
    (ChangeSpec.witness6 (enc := enc) (C := Try.checked) false ⟨#[], #[.slice none 0 0, .int .i64 0, .int .u8 0], []⟩ 8 (by kernel_rfl) (by kernel_rfl) (by kernel_rfl) (by kernel_rfl)) ?_
  intro W base args ds gs before hval0 hW hcnd _
  have hval : ∀ (j : Nat) t v, Try.f8.params[j]? = some t → args[j]? = some v → Value.okWide Try.prog W .any base t v := hval0
  have hW' := hW
  obtain ⟨p, q, hA0, hV, rfl, hfz, hnd⟩ := hW
  have hA : DataW.TrodAll enc Try.prog W 0 (fun _ => true) true Try.f8.params.toList args.toList ds p := hA0
  rw [Try.params8] at hA hval
  obtain ⟨v0, vs0, d0, ds0, p0, q0, hargs, rfl, rfl, h0, r0⟩ := trodAll_cons hA
  obtain ⟨v1, vs1, d1, ds1, p1, q1, rfl, rfl, rfl, h1, r1⟩ := trodAll_cons r0
  obtain ⟨v2, vs2, d2, ds2, p2, q2, rfl, rfl, rfl, h2, r2⟩ := trodAll_cons r1
  obtain ⟨rfl, rfl, rfl⟩ := trodAll_nil r2
  obtain rfl : args = #[v0, v1, v2] := by cases args; simp_all
  obtain ⟨rfl, rfl⟩ := trodVars_none hV
  have lt0 : ∀ x ∈ p0, x.block < W.heap.size := by obtain ⟨m, hm⟩ := h0; exact DataW.trod_lt m _ _ _ hm
  have lt1 : ∀ x ∈ p1, x.block < W.heap.size := by obtain ⟨m, hm⟩ := h1; exact DataW.trod_lt m _ _ _ hm
  have lt2 : ∀ x ∈ p2, x.block < W.heap.size := by obtain ⟨m, hm⟩ := h2; exact DataW.trod_lt m _ _ _ hm
  have k0 := hval 0 29 v0 rfl rfl
  have k1 := hval 1 3 v1 rfl rfl
  have k2 := hval 2 5 v2 rfl rfl
  clear hA0 hval0
  refine (walk_NetSeals W v0 d0 p0 base h0 k0 v1 d1 p1 base h1 k1 v2 d2 p2 base h2 k2).mono fun e W' ⟨he, bel⟩ => ?_
  subst he
  exact ⟨_, rfl, _, _, _, [], _, [], hW', trodAll_mk1 (shut_bool Try.underlying4 _), (trodAll_cons_mk (Below.trod laidOut (by kernel_rfl) (of_decide_eq_true (by kernel_rfl)) h0 bel lt0) (trodAll_cons_mk (Below.trod laidOut (by kernel_rfl) (of_decide_eq_true (by kernel_rfl)) h1 bel lt1) (trodAll_cons_mk (Below.trod laidOut (by kernel_rfl) (of_decide_eq_true (by kernel_rfl)) h2 bel lt2) trodAll_mk0))), rfl, bel.frame _, fun h => by cases h⟩
theorem over : Rows.netSealsRow.holds Try.pinned (OpenSpec.ofChange Rows.netSealsSpec) :=
  OpenClaim.holds_of_wide 8 Try.f8 rfl rfl rfl rfl rfl rfl rfl ⟨rfl, rfl, rfl, rfl, rfl⟩ rfl rfl rfl rfl rfl (by kernel_rfl) Try.func8 (by kernel_rfl)
    (of_decide_eq_true (by kernel_rfl)) (by unfold Func.isWrapper; first | (rw [if_pos (by decide +kernel)]; kernel_rfl) | (rw [if_neg (by decide +kernel)]; exact ⟨rfl, rfl⟩))
    (fun os started H enc _ => lifted os started H enc)
theorem proved : Rows.NetSealsSaid := over
#print axioms proved
end netSeals
end Go.Proofs.Ytdiachkimgkkbaa
