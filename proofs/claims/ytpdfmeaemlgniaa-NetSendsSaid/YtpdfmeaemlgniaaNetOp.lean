
/-
  What is done, as an argument of a law: Op; kind, num, bytes.
-/
import Derived.Test.YtpdfmeaemlgniaaNetV
import Derived.Test.YtpdfmeaemlgniaaNetT
import Derived.Test.YtpdfmeaemlgniaaNetJ
import Derived.Test.YtpdfmeaemlgniaaNetS
import Derived.Test.YtpdfmeaemlgniaaNetY
namespace Go.Proofs.Ytpdfmeaemlgniaa
open Go.RowKit
open Go.Lib hiding intOf
set_option linter.unusedVariables false
set_option linter.unusedSimpArgs false
structure OpR where
  kind : Int
  fr : Int
  tt : Int
  at_ : Int
  place : Int
  other : Bool
  by_ : UInt8
  bs : List UInt8
abbrev OV (o : OpR) (a : Option Addr) (c : Nat) : Value := .agg #[.int .i64 o.kind, .int .i64 o.fr, .int .i64 o.tt, .int .i64 o.at_, .int .i64 o.place, .bool o.other, .int .u8 (o.by_.toNat : Int), .slice a o.bs.length c]
/-- its numbers are ints -/
def OpR.in64 (o : OpR) : Prop := (-9223372036854775808 ≤ o.kind ∧ o.kind < 9223372036854775808) ∧ (-9223372036854775808 ≤ o.fr ∧ o.fr < 9223372036854775808) ∧ (-9223372036854775808 ≤ o.tt ∧ o.tt < 9223372036854775808) ∧ (-9223372036854775808 ≤ o.at_ ∧ o.at_ < 9223372036854775808) ∧ (-9223372036854775808 ≤ o.place ∧ o.place < 9223372036854775808)
abbrev OpSh : Sh := .pair (.int .i64) (.pair (.int .i64) (.pair (.int .i64) (.pair (.int .i64) (.pair (.int .i64) (.pair .bool (.pair (.int .u8) (.pair ByteSh .unit)))))))
def opOf (x : Int × Int × Int × Int × Int × Bool × Int × List Int × Unit) : OpR := ⟨x.1, x.2.1, x.2.2.1, x.2.2.2.1, x.2.2.2.2.1, x.2.2.2.2.2.1, byteOf x.2.2.2.2.2.2.1, x.2.2.2.2.2.2.2.1.map byteOf⟩
theorem rep_op {W : World} {base : Nat} {cs : List Value} {x : Int × Int × Int × Int × Int × Bool × Int × List Int × Unit} (h : Rep W base OpSh cs x) :
    ∃ (a : Option Addr) (c ob : Nat), cs = (OV (opOf x) a c).cells.toList ∧ Bs W (.slice a (opOf x).bs.length c) ob (opOf x).bs ∧ (opOf x).in64 := by
  obtain ⟨c1, c2, rfl, ⟨rfl, b1⟩, c3, c4, rfl, ⟨rfl, b2⟩, c5, c6, rfl, ⟨rfl, b3⟩, c7, c8, rfl, ⟨rfl, b4⟩, c9, c10, rfl, ⟨rfl, b5⟩, c11, c12, rfl, h6, c13, c14, rfl, ⟨rfl, b7⟩, c15, c16, rfl, hb, rfl⟩ := h
  have h6 : c11 = [.bool x.2.2.2.2.2.1] := h6
  subst h6
  obtain ⟨v1, rfl⟩ : ∃ v1, c15 = [v1] := by
    have := hb.length
    match c15, this with
    | [v1], _ => exact ⟨v1, rfl⟩
  obtain ⟨oc, hB⟩ := rep_bs hb
  obtain ⟨a, c, rfl⟩ := hB.shape
  have i1 := bounds_i64 b1
  have i2 := bounds_i64 b2
  have i3 := bounds_i64 b3
  have i4 := bounds_i64 b4
  have i5 := bounds_i64 b5
  have i7 := bounds_u8 b7
  have e : ((byteOf x.2.2.2.2.2.2.1).toNat : Int) = x.2.2.2.2.2.2.1 := by
    unfold byteOf
    rw [UInt8.toNat_ofNat']
    omega
  refine ⟨a, c, oc, ?_, hB, ⟨by show _ ≤ x.1; omega, by show x.1 < _; omega⟩, ⟨by show _ ≤ x.2.1; omega, by show x.2.1 < _; omega⟩, ⟨by show _ ≤ x.2.2.1; omega, by show x.2.2.1 < _; omega⟩, ⟨by show _ ≤ x.2.2.2.1; omega, by show x.2.2.2.1 < _; omega⟩, ⟨by show _ ≤ x.2.2.2.2.1; omega, by show x.2.2.2.2.1 < _; omega⟩⟩
  show _ = [Value.int .i64 (opOf x).kind, .int .i64 (opOf x).fr, .int .i64 (opOf x).tt, .int .i64 (opOf x).at_, .int .i64 (opOf x).place, .bool (opOf x).other, .int .u8 ((opOf x).by_.toNat : Int), .slice a (opOf x).bs.length c]
  have e' : ((opOf x).by_.toNat : Int) = x.2.2.2.2.2.2.1 := e
  rw [e']
  rfl
set_option maxRecDepth 100000 in
theorem read_op {H : Type} {enc : TypeId × Value → H} {W : World} {v : Value} {d : DataW H} {p : List MemPlace} {base : Nat} (h : DataW.Trod enc Try.prog W 0 (fun _ => true) true 31 v d p) (k : Value.okWide Try.prog W .any base 31 v) :
    ∃ (o : OpR) (a : Option Addr) (c ob : Nat), v = OV o a c ∧ Bs W (.slice a o.bs.length c) ob o.bs ∧ o.in64 := by
  obtain ⟨cs, rfl, hcs⟩ := WideShapes.okWide_struct Try.underlying31 k
  obtain ⟨l, hl⟩ := trod_rep (s := OpSh) 12 (by kernel_rfl) h
  have hl' : Rep W W.heap.size OpSh cs.toList l := hl
  obtain ⟨a, c, ob, h1, h2, h3⟩ := rep_op hl'
  refine ⟨opOf l, a, c, ob, ?_, h2, h3⟩
  congr 1
  apply Array.toList_inj.1
  rw [h1]
  rfl
/-- its kind -/
def OpR.knd (o : OpR) : Nat := (o.kind % 18446744073709551616).toNat % 8
theorem u64_of (z : Int) (h1 : -9223372036854775808 ≤ z) (h2 : z < 9223372036854775808) : ∃ n : Nat, z % 18446744073709551616 = (n : Int) := ⟨(z % 18446744073709551616).toNat, by omega⟩
set_option maxHeartbeats 1000000 in
theorem kind_any (w : World) (o : OpR) (a : Option Addr) (c : Nat) (h : o.in64) : Calls Try.prog 29 #[OV o a c] w fun e w' => e = .returned (.int .u64 (o.knd : Int)) ∧ Ext [] w w' := by
  have x1 := (Ext.refl [] w).alloc (.cells #[.int .i64 o.kind, .int .i64 o.fr, .int .i64 o.tt, .int .i64 o.at_, .int .i64 o.place, .bool o.other, .int .u8 (o.by_.toNat : Int), .slice a o.bs.length c] 31)
  have b1 := Blk.new w [.int .i64 o.kind, .int .i64 o.fr, .int .i64 o.tt, .int .i64 o.at_, .int .i64 o.place, .bool o.other, .int .u8 (o.by_.toNat : Int), .slice a o.bs.length c] 31
  have k0 := b1.cell 0
  simp only [List.getElem?_cons_zero] at k0
  obtain ⟨n, hn⟩ := u64_of o.kind h.1.1 h.1.2
  have hk : (o.knd : Int) = (n : Int) % 8 := by unfold OpR.knd; rw [hn]; omega
  rw [hk]
  have hwr : IntKind.u64.wrap o.kind = (n : Int) := by rw [← hn]; rfl
  have HWR := Lib.hid hwr
  clear hk h hwr
  go_enter Try.func29, Try.ntmps29
  go_wp2_with (fail)
  go_ret
  refine ⟨?_, x1⟩
  show Ending.returned (.int .u64 ((IntKind.u64.wrap o.kind).tmod 8)) = _
  rw [HWR.out, Int.tmod_eq_emod_of_nonneg (by omega)]
/-- the number of the parcel that it names -/
def OpR.at64 (o : OpR) : Nat := (o.at_ % 18446744073709551616).toNat
def OpR.num (o : OpR) (l : List Par) : Nat := if l.length = 0 ∨ o.other = true then o.at64 else ((l[o.at64 % l.length]?).map Par.num).getD 0
set_option maxRecDepth 100000 in
set_option maxHeartbeats 4000000 in
theorem num_any (w : World) (o : OpR) (a : Option Addr) (c : Nat) (h : o.in64) (s : Nat) (v : Value) (l : List Par) (hP : Ps w v l) (hll : l.length ≤ 100000) :
    Calls Try.prog 28 #[OV o a c, NV s v] w fun e w' => e = .returned (.int .u64 (o.num l : Int)) ∧ Ext [] w w' := by
  obtain ⟨an, cn, rfl⟩ := hP.shape
  have x1 := (Ext.refl [] w).alloc (.cells #[.int .i64 o.kind, .int .i64 o.fr, .int .i64 o.tt, .int .i64 o.at_, .int .i64 o.place, .bool o.other, .int .u8 (o.by_.toNat : Int), .slice a o.bs.length c] 31)
  have x2 := (Ext.refl [] (w.alloc (.cells #[.int .i64 o.kind, .int .i64 o.fr, .int .i64 o.tt, .int .i64 o.at_, .int .i64 o.place, .bool o.other, .int .u8 (o.by_.toNat : Int), .slice a o.bs.length c] 31))).alloc (.cells #[.int .u64 (s : Int), .slice an l.length cn] 25)
  have b1 := (Blk.new w [.int .i64 o.kind, .int .i64 o.fr, .int .i64 o.tt, .int .i64 o.at_, .int .i64 o.place, .bool o.other, .int .u8 (o.by_.toNat : Int), .slice a o.bs.length c] 31).ext x2 (by simp)
  have b2 := Blk.new (w.alloc (.cells #[.int .i64 o.kind, .int .i64 o.fr, .int .i64 o.tt, .int .i64 o.at_, .int .i64 o.place, .bool o.other, .int .u8 (o.by_.toNat : Int), .slice a o.bs.length c] 31)) [.int .u64 (s : Int), .slice an l.length cn] 25
  have hE := x1.trans x2
  simp only [World.size_alloc] at b2
  have hP := hP.ext hE
  obtain ⟨n0, n1⟩ := b2.c2
  have k3 := b1.cell 3
  have k5 := b1.cell 5
  simp only [List.getElem?_cons_zero, List.getElem?_cons_succ] at k3 k5
  obtain ⟨n, hn⟩ := u64_of o.at_ h.2.2.2.1.1 h.2.2.2.1.2
  have hna : o.at64 = n := by unfold OpR.at64; rw [hn]; omega
  have hwr : IntKind.u64.wrap o.at_ = (n : Int) := by rw [← hn]; rfl
  unfold OpR.num
  rw [hna]
  clear hna h x1 x2
  by_cases h0 : l.length = 0
  · rw [if_pos (.inl h0)]
    rw [h0] at n1 b2 hE ⊢
    clear hP hn
    go_enter Try.func28, Try.ntmps28
    go_wp2_with (fail)
    go_ret
    exact ⟨rfl, hE⟩
  · cases ho : o.other
    · rw [if_neg (by simp [h0])]
      have HO := Lib.hid ho
      clear ho
      have hj : n % l.length < l.length := Nat.mod_lt _ (by omega)
      obtain ⟨p, hp⟩ : ∃ p, l[n % l.length]? = some p := ⟨_, List.getElem?_eq_getElem hj⟩
      rw [hp]
      have hjj : Int.tmod (n : Int) (l.length : Int) = ((n % l.length : Nat) : Int) := by
        rw [Int.tmod_eq_emod_of_nonneg (by omega)]; rfl
      show Calls _ _ _ _ fun e w' => e = .returned (.int .u64 (p.num : Int)) ∧ Ext [] w w'
      generalize n % l.length = j at *
      obtain ⟨ob, o', a1, c1, rfl, f0, -⟩ := hP.at j p hp
      have hl0 : (0 : Int) < (l.length : Int) := by omega
      have hl1 : ¬ (l.length : Int) = 0 := by omega
      have hl2 : ((l.length : Int) == 0) = false := by simpa using h0
      clear hP hn hp
      go_enter Try.func28, Try.ntmps28
      go_upto_region 1 with (fail)
      generalize (w.alloc (.cells #[.int .i64 o.kind, .int .i64 o.fr, .int .i64 o.tt, .int .i64 o.at_, .int .i64 o.place, .bool o.other, .int .u8 (o.by_.toNat : Int), .slice a o.bs.length c] 31)).alloc (.cells #[.int .u64 (s : Int), .slice (some ⟨ob, o', none⟩) l.length cn] 25) = W at *
      rw [HO.out] at k5
      go_upto_region 2 with (fail)
      go_region
      go_wp2_with (fail)
      go_ret
      exact ⟨rfl, hE.drew⟩
    · rw [if_pos (.inr rfl)]
      have HO := Lib.hid ho
      clear ho
      have hl0 : (0 : Int) < (l.length : Int) := by omega
      clear hP hn
      go_enter Try.func28, Try.ntmps28
      go_upto_region 1 with (fail)
      generalize (w.alloc (.cells #[.int .i64 o.kind, .int .i64 o.fr, .int .i64 o.tt, .int .i64 o.at_, .int .i64 o.place, .bool o.other, .int .u8 (o.by_.toNat : Int), .slice a o.bs.length c] 31)).alloc (.cells #[.int .u64 (s : Int), .slice an l.length cn] 25) = W at *
      rw [HO.out] at k5
      go_wp2_with (fail)
      go_ret
      exact ⟨rfl, hE⟩
/-- its bytes -/
def OpR.bts (o : OpR) : List UInt8 := o.bs.take 60001
set_option maxRecDepth 100000 in
set_option maxHeartbeats 4000000 in
theorem bytes_any (w : World) (o : OpR) (a : Option Addr) (c ob : Nat) (hB : Bs w (.slice a o.bs.length c) ob o.bs) :
    Calls Try.prog 31 #[OV o a c] w fun e w' => ∃ v, e = .returned v ∧ w'.ownsRow w.heap.size 5 1 v o.bts.length (o.bts.map BV) ∧ Ext [] w w' := by
  have hbm := sl_len hB
  unfold maxLen at hbm
  have x1 := (Ext.refl [] w).alloc (.cells #[.int .i64 o.kind, .int .i64 o.fr, .int .i64 o.tt, .int .i64 o.at_, .int .i64 o.place, .bool o.other, .int .u8 (o.by_.toNat : Int), .slice a o.bs.length c] 31)
  have b1 := Blk.new w [.int .i64 o.kind, .int .i64 o.fr, .int .i64 o.tt, .int .i64 o.at_, .int .i64 o.place, .bool o.other, .int .u8 (o.by_.toNat : Int), .slice a o.bs.length c] 31
  obtain ⟨hM, -, hc⟩ := (hB.ext x1 (by simp)).hd (min o.bs.length 60001) (by omega)
  have hmin : min (o.bs.length : Int) 60001 = ((o.bs.take (min o.bs.length 60001)).length : Int) := by rw [List.length_take]; omega
  have hml : (o.bs.take (min o.bs.length 60001)).length ≤ c := by rw [List.length_take]; omega
  have hm2 : (o.bs.take (min o.bs.length 60001)).length ≤ 60001 := by rw [List.length_take]; omega
  have hbt : o.bts = o.bs.take (min o.bs.length 60001) := by unfold OpR.bts; rw [List.take_eq_take_iff]; omega
  rw [hbt]
  generalize o.bs.take (min o.bs.length 60001) = M at *
  have y1 := (Ext.refl [] (w.alloc (.cells #[.int .i64 o.kind, .int .i64 o.fr, .int .i64 o.tt, .int .i64 o.at_, .int .i64 o.place, .bool o.other, .int .u8 (o.by_.toNat : Int), .slice a o.bs.length c] 31))).alloc (.cells #[] 5)
  have k7 := cells_ext y1 (show (w.alloc (.cells #[.int .i64 o.kind, .int .i64 o.fr, .int .i64 o.tt, .int .i64 o.at_, .int .i64 o.place, .bool o.other, .int .u8 (o.by_.toNat : Int), .slice a o.bs.length c] 31)).cell? ⟨w.heap.size, 7, none⟩ = some (.slice a o.bs.length c) from b1.cell 7)
  have hM := hM.ext y1 (by simp)
  have o2 : ((w.alloc (.cells #[.int .i64 o.kind, .int .i64 o.fr, .int .i64 o.tt, .int .i64 o.at_, .int .i64 o.place, .bool o.other, .int .u8 (o.by_.toNat : Int), .slice a o.bs.length c] 31)).alloc (.cells #[] 5)).ownsRow (w.alloc (.cells #[.int .i64 o.kind, .int .i64 o.fr, .int .i64 o.tt, .int .i64 o.at_, .int .i64 o.place, .bool o.other, .int .u8 (o.by_.toNat : Int), .slice a o.bs.length c] 31)).heap.size 5 1 (.slice (some ⟨(w.alloc (.cells #[.int .i64 o.kind, .int .i64 o.fr, .int .i64 o.tt, .int .i64 o.at_, .int .i64 o.place, .bool o.other, .int .u8 (o.by_.toNat : Int), .slice a o.bs.length c] 31)).heap.size, 0, none⟩) 0 0) 0 [] := World.ownsRow_lit (base := (w.alloc (.cells #[.int .i64 o.kind, .int .i64 o.fr, .int .i64 o.tt, .int .i64 o.at_, .int .i64 o.place, .bool o.other, .int .u8 (o.by_.toNat : Int), .slice a o.bs.length c] 31)).heap.size) _ _ 0 (Nat.le_refl _) (by decide) rfl
  simp only [World.size_alloc] at o2
  clear hbt hB
  go_enter Try.func31, Try.ntmps31
  go_wp2_with (at_builtin; refine wpList_append_sl T22 rfl (.tmp 3) (.tmp 10) rfl rfl o2 rfl hM (BV_one M) (by unfold maxLen; omega) (by omega) (by simp) ?_; intro v2 W2 ho2 q2; rw [Nat.zero_add, List.nil_append] at ho2; obtain ⟨a2, c2, rfl⟩ := own_shape ho2)
  have hlt : (w.alloc (.cells #[.int .i64 o.kind, .int .i64 o.fr, .int .i64 o.tt, .int .i64 o.at_, .int .i64 o.place, .bool o.other, .int .u8 (o.by_.toNat : Int), .slice a o.bs.length c] 31)).heap.size = w.heap.size + 1 := by simp
  go_ret
  exact ⟨_, rfl, own_mono ho2 (by omega), (x1.trans y1).trans' q2 (fun i hi => .inr (by have := own_ge o2 i hi; omega))⟩
set_option maxHeartbeats 1000000 in
theorem isNum_any (w : World) (q : Par) (a : Option Addr) (c pb k : Nat) (hk : w.cell? ⟨pb, 0, none⟩ = some (.int .u64 (k : Int))) :
    Calls Try.prog 33 #[PV q.num q.fr q.to (.slice a q.bs.length c) q.sp, pt pb] w fun e w' => e = .returned (.bool (q.num == k)) ∧ Ext [] w w' := by
  have x1 := (Ext.refl [] w).alloc (.cells #[.int .u64 (q.num : Int), .int .i64 q.fr, .int .i64 q.to, .slice a q.bs.length c, .bool q.sp] 33)
  have hk := cells_ext x1 hk
  have hb : ((q.num : Int) == (k : Int)) = (q.num == k) := by rw [Bool.eq_iff_iff, beq_iff_eq, beq_iff_eq]; omega
  go_enter Try.func33, Try.ntmps33
  go_wp2_with (fail)
  go_ret
  exact ⟨ret_bool (by first | rfl | exact hb | simp), x1⟩
set_option maxRecDepth 100000 in
set_option maxHeartbeats 4000000 in
theorem IndexFunc_any (w : World) (v : Value) (l : List Par) (k pb : Nat) (hP : Ps w v l) (hll : l.length ≤ 100000) (hk : w.cell? ⟨pb, 0, none⟩ = some (.int .u64 (k : Int))) :
    Calls Try.prog 32 #[v, .func (.func 33) #[] #[pt pb]] w fun e w' => e = .returned (.int .i64 (findR l k)) ∧ Ext [] w w' := by
  obtain ⟨a, c, rfl⟩ := hP.shape
  generalize hF : findR l k = F
  have HF := Lib.hid hF
  clear hF
  have hc := fun w' (x : Ext [] w w') (q : Par) a c => isNum_any w' q a c pb k (cells_ext x hk)
  go_enter Try.func32, Try.ntmps32
  go_wp2_with (fail)
  go_loopw [8] (fun i wr => ∃ j : Nat, i = .int .i64 (j : Int) ∧ j ≤ l.length ∧ Ext [] w wr ∧ Hid (∀ q ∈ l.take j, q.num ≠ k)) (fun i _ => l.length - (intOf i).toNat)
  case atStart => exact ⟨0, rfl, by omega, Ext.refl _ _, (by intro q hq; simp at hq)⟩
  case round =>
    obtain ⟨j, rfl, hj, hX, hI⟩ := hrel
    by_cases hlt : j < l.length
    · have hp : l[j]? = some l[j] := List.getElem?_eq_getElem hlt
      generalize l[j] = p at *
      obtain ⟨ob, o, a1, c1, rfl, p0, p1, p2, p3, p4, oc, hb⟩ := (hP.ext hX).at j p hp
      have hq := hc wr hX p a1 c1
      by_cases hk' : p.num = k
      · have HR : Hid (F = (j : Int)) := by
          show _ = _
          rw [← HF.out]
          unfold findR
          rw [fnd_hit hI.out hp hk', if_pos hlt]
        rw [show (p.num == k) = true by simpa using hk'] at hq
        clear hk' hI hp hc
        go_wp2_with (go_at_call 33; (with_reducible refine hq.mono ?_); rintro e w2 ⟨rfl, x2⟩)
        go_ret
        exact ⟨by rw [HR.out]; rfl, hX.trans x2⟩
      · have HI : Hid (∀ q ∈ l.take (j + 1), q.num ≠ k) := by
          intro q hq
          rw [List.take_add_one, hp] at hq
          rcases List.mem_append.1 hq with h | h
          · exact hI.out q h
          · simp at h; subst h; exact hk'
        rw [show (p.num == k) = false by simpa using hk'] at hq
        clear hk' hI hp hc
        go_wp2_with (go_at_call 33; (with_reducible refine hq.mono ?_); rintro e w2 ⟨rfl, x2⟩)
        go_roundw
        case rel => exact ⟨j + 1, by go_num, by omega, hX.trans x2, HI.out⟩
        case measure => simp [intOf]; omega
    · obtain rfl : j = l.length := by omega
      have HR : Hid (F = -1) := by
        show _ = _
        rw [← HF.out]
        unfold findR
        rw [fnd_miss (by have := hI.out; rw [List.take_length] at this; exact this), if_neg (by omega)]
      go_wp2_with (fail)
      go_ret
      exact ⟨by rw [HR.out]; rfl, hX⟩
end Go.Proofs.Ytpdfmeaemlgniaa
