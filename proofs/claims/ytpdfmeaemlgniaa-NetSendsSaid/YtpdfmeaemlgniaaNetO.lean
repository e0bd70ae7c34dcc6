/-
  Lose; Spoil.
-/
import Derived.Test.YtpdfmeaemlgniaaNetN
import Derived.Laws.BitsAllLaws
namespace Go.Proofs.Ytpdfmeaemlgniaa
open Go.RowKit
set_option linter.unusedVariables false
set_option linter.unusedSimpArgs false
/-- the answer as a pair: the net, the error -/
def Ans2 (w : World) (T : Told) : Ending → World → Prop := fun e w' => ∃ v' rs', (∃ a' n' c', v' = .slice a' n' c') ∧ e = .returned (.tuple #[NV T.n.s v', .int .i64 T.e]) ∧ OPs w.heap.size w' v' T.n.ps rs' ∧ Ext [] w w'
set_option maxRecDepth 100000 in
set_option maxHeartbeats 4000000 in
theorem Lose_any (w : World) (s k : Nat) (v : Value) (l : List Par) (hP : Ps w v l) :
    Calls Try.prog 39 #[NV s v, .int .u64 (k : Int)] w (Ans2 w (ofM ⟨s, l⟩ (comeM ⟨s, l⟩ k))) := by
  obtain ⟨a, c, rfl⟩ := hP.shape
  have e1 := (Ext.refl [] w).alloc (.cells #[.int .u64 (s : Int), .slice a l.length c] 25)
  have e2 := (Ext.refl [] (w.alloc (.cells #[.int .u64 (s : Int), .slice a l.length c] 25))).alloc (.cells #[.int .u64 0, .slice none 0 0] 25)
  have b1 := (Blk.new w [.int .u64 (s : Int), .slice a l.length c] 25).ext e2 (by simp)
  have b5 := Blk.new (w.alloc (.cells #[.int .u64 (s : Int), .slice a l.length c] 25)) [.int .u64 0, .slice none 0 0] 25
  have hE := e1.trans e2
  simp only [World.size_alloc] at b5
  have hP := hP.ext hE
  have hsz : ((w.alloc (.cells #[.int .u64 (s : Int), .slice a l.length c] 25)).alloc (.cells #[.int .u64 0, .slice none 0 0] 25)).heap.size = w.heap.size + 2 := by simp
  clear e1 e2
  have ch := Come_any ((w.alloc (.cells #[.int .u64 (s : Int), .slice a l.length c] 25)).alloc (.cells #[.int .u64 0, .slice none 0 0] 25)) s k _ l hP
  unfold Ans2
  generalize ofM ⟨s, l⟩ (comeM ⟨s, l⟩ k) = T at *
  clear hP
  go_enter Try.func39, Try.ntmps39
  go_upto_region 1 with (fail)
  generalize ((w.alloc (.cells #[.int .u64 (s : Int), .slice a l.length c] 25)).alloc (.cells #[.int .u64 0, .slice none 0 0] 25)) = W at *
  generalize hwb : w.heap.size = wb at *
  have HWB := Lib.hid hwb
  clear hwb
  obtain ⟨n0, n1⟩ := b1.c2
  go_upto_region 2 with (go_at_call 37; (with_reducible refine ch.mono ?_); rintro e w1 ⟨v1, rs1, r1, ⟨a1, n1, c1, rfl⟩, rfl, hO1, hI1, _, x1⟩; have b5 := b5.ext x1 (by simp); obtain ⟨ra, rc, hrb⟩ := own_shape hI1.2.2.2.2; obtain ⟨rn, rf', rt, rb, rsp⟩ := r1; dsimp only at hrb; subst hrb)
  have e2 := ((Ext.refl [] w1).alloc (.cells #[.int .u64 (T.n.s : Int), .slice a1 n1 c1] 25)).alloc (.cells #[.int .u64 (rn : Int), .int .i64 rf', .int .i64 rt, .slice ra T.p.bs.length rc, .bool rsp] 33)
  have d2 := (Blk.new w1 [.int .u64 (T.n.s : Int), .slice a1 n1 c1] 25).ext ((Ext.refl [] _).alloc (.cells #[.int .u64 (rn : Int), .int .i64 rf', .int .i64 rt, .slice ra T.p.bs.length rc, .bool rsp] 33)) (by simp)
  have b5 := b5.ext e2 (by simp)
  have hO2 := hO1.ext e2
  have hlt := (b5).lt
  have hlt1 := x1.size
  have d2 : Blk ((w1.alloc (.cells #[.int .u64 (T.n.s : Int), .slice a1 n1 c1] 25)).alloc (.cells #[.int .u64 (rn : Int), .int .i64 rf', .int .i64 rt, .slice ra T.p.bs.length rc, .bool rsp] 33)) w1.heap.size 25 [.int .u64 (T.n.s : Int), .slice a1 n1 c1] := d2
  generalize (w1.alloc (.cells #[.int .u64 (T.n.s : Int), .slice a1 n1 c1] 25)).alloc (.cells #[.int .u64 (rn : Int), .int .i64 rf', .int .i64 rt, .slice ra T.p.bs.length rc, .bool rsp] 33) = W2 at *
  obtain ⟨d0, d1⟩ := d2.c2
  obtain ⟨r0, r1⟩ := b5.c2
  have rf := b5.frozen
  have x3 := ((Ext.refl [wb + 1] W2).setCell (p := ⟨wb + 1, 0, none⟩) (.inl (by simp)) (.int .u64 (T.n.s : Int))).setCell (p := ⟨wb + 1, 1, none⟩) (.inl (by simp)) (.slice a1 n1 c1)
  have hB3 := (b5.set 0 (.int .u64 (T.n.s : Int))).set 1 (.slice a1 n1 c1)
  simp only [List.set_cons_zero, List.set_cons_succ] at hB3
  have hO3 := hO2.other b5 (by decide) (by decide) x3
  have hX3 := ((hE.trans x1).trans e2).trans' x3 (fun i hi => .inr (by have := HWB.out; simp at hi; omega))
  have HH := Lib.hid (And.intro hB3 (And.intro hO3 hX3))
  clear hB3 hO3 hX3 x3 hO2 hO1 ch hI1
  go_wp2_with (fail)
  refine ret_cell_tmp Try.results39 rfl HH.out.1 Try.underlying25 rfl net_info rfl ⟨_, rs1, ⟨_, _, _, rfl⟩, rfl, HH.out.2.1.mono (by have := HWB.out; omega), HH.out.2.2⟩
theorem own_byte {w : World} {A gb cb : Nat} {l : List UInt8} (h : w.ownsRow A 5 1 (.slice (some ⟨gb, 0, none⟩) l.length cb) l.length (l.map BV)) (k : Nat) (z : UInt8) :
    (w.setCell ⟨gb, k, none⟩ (BV z)).ownsRow A 5 1 (.slice (some ⟨gb, 0, none⟩) l.length cb) l.length ((l.set k z).map BV) := by
  have := (h.stored k (BV z)).1
  rwa [List.map_set]
theorem OPs.byte {S : Nat} {w : World} {v : Value} {l : List Par} {rs : List PRaw} (h : OPs S w v l rs) {i gb cb k : Nat} {r : PRaw} {p : Par} {z : UInt8} (hr : rs[i]? = some r) (hp : l[i]? = some p) (hb : r.b = .slice (some ⟨gb, 0, none⟩) p.bs.length cb) :
    OPs S (w.setCell ⟨gb, k, none⟩ (BV z)) v (l.set i { p with bs := p.bs.set k z }) rs := by
  have hx := (Ext.refl [gb] w).setCell (p := ⟨gb, k, none⟩) (.inl (by simp)) (BV z)
  have ho := h.all.2 i r p hr hp
  have hob : r.b.ownBlock = some gb := by rw [hb]; rfl
  refine ⟨own_ext h.own hx fun c hc m => ?_, ⟨by rw [List.length_set]; exact h.all.1, fun j q x hq hx' => ?_⟩, h.sep⟩
  · obtain rfl : c = gb := by simpa using m
    have := own_far h.own ho.2.2.2.2 (by decide) c hc
    exact this (by simpa using hob)
  · by_cases e : i = j
    · subst e
      have hil := (List.getElem?_eq_some_iff.1 hp).1
      rw [List.getElem?_set_self hil] at hx'
      obtain rfl := Option.some.inj hx'
      rw [hr] at hq
      obtain rfl := Option.some.inj hq
      obtain ⟨h1, h2, h3, h4, h5⟩ := ho
      refine ⟨h1, h2, h3, h4, ?_⟩
      rw [hb] at h5 ⊢
      have := own_byte h5 k z
      show World.ownsRow _ _ _ _ _ (p.bs.set k z).length _
      rw [List.length_set]
      exact this
    · rw [List.getElem?_set_ne e] at hx'
      refine (h.all.2 j q x hq hx').keep hx fun c hc m => ?_
      obtain rfl : c = gb := by simpa using m
      exact h.sep i j r q hr hq e c hob hc
theorem OPs.flag {S : Nat} {w : World} {g n cap : Nat} {l : List Par} {rs : List PRaw} (h : OPs S w (.slice (some ⟨g, 0, none⟩) n cap) l rs) {i : Nat} {r : PRaw} {p : Par} (hr : rs[i]? = some r) (hp : l[i]? = some p) :
    OPs S (w.setCell ⟨g, i * 5 + 4, none⟩ (.bool true)) (.slice (some ⟨g, 0, none⟩) n cap) (l.set i { p with sp := true }) (rs.set i { r with sp := true }) := by
  have hx := (Ext.refl [g] w).setCell (p := ⟨g, i * 5 + 4, none⟩) (.inl (by simp)) (.bool true)
  have hil := (List.getElem?_eq_some_iff.1 hr).1
  have hg := (own_block h.own (show (Value.slice (some ⟨g, 0, none⟩) n cap).ownBlock = some g from rfl)).1
  have hget : ∀ (j : Nat) q, (rs.set i { r with sp := true })[j]? = some q → ∃ q', rs[j]? = some q' ∧ q.b = q'.b := by
    intro j q hq
    by_cases e : i = j
    · subst e
      rw [List.getElem?_set_self hil] at hq
      obtain rfl := Option.some.inj hq
      exact ⟨r, hr, rfl⟩
    · rw [List.getElem?_set_ne e] at hq
      exact ⟨q, hq, rfl⟩
  refine ⟨?_, ⟨by rw [List.length_set, List.length_set]; exact h.all.1, fun j q x hq hx' => ?_⟩, fun j k q q' hq hq' hne b hb => ?_⟩
  · rcases own_blk h.own with ⟨h0, _⟩ | ⟨g', cap', rest, he, _, hB, hc1, hc2, hlen⟩
    · cases h0
    · simp only [Value.slice.injEq, Option.some.injEq, Addr.mk.injEq, and_true] at he
      obtain ⟨rfl, rfl, rfl⟩ := he
      have hB2 := hB.set (i * 5 + 4) (.bool true)
      rw [prows, flat_set wideP rs rest i r { r with sp := true } 4 (.bool true) hr (by decide) rfl] at hB2
      have := hB2.owns (base := S) (size := 5) (n := rs.length) (cap := cap) hg (by rw [List.length_append, flat_length wideP, List.length_set]; rw [List.length_append, flat_length wideP] at hlen; exact hlen) hc1 hc2
      rw [List.take_left' (by rw [flat_length wideP, List.length_set])] at this
      rwa [List.length_set]
  · by_cases e : i = j
    · subst e
      rw [List.getElem?_set_self hil] at hq
      obtain rfl := Option.some.inj hq
      rw [List.getElem?_set_self (by rw [← h.all.1]; exact hil)] at hx'
      obtain rfl := Option.some.inj hx'
      have ho := h.all.2 i r p hr hp
      have hk := ho.keep hx fun c hc m => by have := own_far ho.2.2.2.2 h.own (by decide) c hc; exact this (by simpa [Value.ownBlock] using m)
      exact ⟨hk.1, hk.2.1, hk.2.2.1, rfl, hk.2.2.2.2⟩
    · rw [List.getElem?_set_ne e] at hq hx'
      have ho := h.all.2 j q x hq hx'
      exact ho.keep hx fun c hc m => by have := own_far ho.2.2.2.2 h.own (by decide) c hc; exact this (by simpa [Value.ownBlock] using m)
  · obtain ⟨q1, h1, h2⟩ := hget j q hq
    obtain ⟨q2, h3, h4⟩ := hget k q' hq'
    rw [h2] at hb
    rw [h4]
    exact h.sep j k q1 q2 h1 h3 hne b hb
theorem xor_u8b (x y : UInt8) : bits .xor .u8 (x.toNat : Int) (y.toNat : Int) = (((x ^^^ y).toNat : Nat) : Int) := by
  rw [u8_xor_nat _ _ x.toNat_lt y.toNat_lt, UInt8.toNat_xor]
theorem modify_set {l : List UInt8} {k : Nat} {x : UInt8} (f : UInt8 → UInt8) (h : l[k]? = some x) : l.modify k f = l.set k (f x) := by
  apply List.ext_getElem?
  intro j
  rw [List.getElem?_modify, List.getElem?_set]
  by_cases e : k = j
  · subst e
    have hk := (List.getElem?_eq_some_iff.1 h).1
    rw [h]
    simp [hk]
  · simp [e]
def spoilAt (s : Nat) (l : List Par) (i : Nat) (p : Par) (at_ : Int) (y : UInt8) : Told :=
  if p.sp = true then { e := 5 } else if at_ < 0 ∨ (p.bs.length : Int) ≤ at_ ∨ y = 0 then { e := 2 } else
    { n := ⟨s, l.set i { p with bs := p.bs.modify at_.toNat (· ^^^ y), sp := true }⟩ }
set_option maxHeartbeats 4000000 in
theorem spoil1_any (W : World) (b S s i c1 c2 : Nat) (v : Value) (l : List Par) (rs : List PRaw) (p : Par) (at_ : Int) (y : UInt8) (hN : Blk W b 25 [.int .u64 (s : Int), v]) (hO : OPs S W v l rs) (hbS : b < S) (hp : l[i]? = some p) (hpl : p.bs.length ≤ 100000)
    (k1 : W.cell? ⟨c1, 0, none⟩ = some (.int .i64 at_)) (k2 : W.cell? ⟨c2, 0, none⟩ = some (.int .u8 (y.toNat : Int))) :
    Calls Try.prog 60 #[pt b, .int .i64 (i : Int), pt c1, pt c2] W fun e w' => ∃ (s' : Nat) (v' : Value), (∃ a' n' c', v' = .slice a' n' c') ∧ e = .returned (.int .i64 (spoilAt s l i p at_ y).e) ∧ Blk w' b 25 [.int .u64 (s' : Int), v'] ∧ DN S (spoilAt s l i p at_ y) s' v' w' ∧ Did S b [] W w' := by
  have hil := (List.getElem?_eq_some_iff.1 hp).1
  have hrl := hO.all.1
  have hml := hO.ps.len
  unfold maxLen at hml
  rcases own_blk hO.own with ⟨rfl, h0⟩ | ⟨g, cap, rest, rfl, hgS, hB, hcap, hmax, hlen⟩
  · omega
  have hr : rs[i]? = some rs[i] := List.getElem?_eq_getElem (by omega)
  generalize rs[i] = r at *
  have hoi := hO.all.2 i r p hr hp
  obtain ⟨rn, rf, rt, rb, rsp⟩ := r
  obtain ⟨pn, pf, pt', pbs, psp⟩ := p
  obtain ⟨h1, h2, h3, h4, ho⟩ := hoi
  dsimp only at h1 h2 h3 h4 ho hpl
  subst h1 h2 h3 h4
  obtain ⟨q0, q1, q2, q3, q4⟩ := blk_prow hB i _ hr
  dsimp only at q0 q1 q2 q3 q4
  obtain ⟨n0, n1⟩ := hN.c2
  have hgb : g ≠ b := by omega
  have gf := hB.frozen (i * 5 + 4)
  have hir : i < rs.length := by omega
  have HNX := Lib.hid hN
  have hsh : ∃ ab cb, rb = .slice ab pbs.length cb := own_shape ho
  obtain ⟨ab, cb, rfl⟩ := hsh
  unfold spoilAt
  dsimp only
  cases rsp
  · by_cases g1 : at_ < 0
    · rw [if_neg (by simp), if_pos (.inl g1)]
      clear hB ho hN hmax hlen hrl
      have HHr := Lib.hid hr
      clear hr hp hO
      go_enter Try.func60, Try.ntmps60
      go_wp2_with (fail)
      go_quiet (fail)
      go_wp2_with (fail)
      go_ret
      exact ⟨s, _, ⟨_, _, _, rfl⟩, rfl, HNX.out.drewN _, (fun h => by cases h), Did.ofExt ((Ext.refl _ _).drewN _)⟩
    · obtain ⟨m, rfl⟩ := Int.eq_ofNat_of_zero_le (show 0 ≤ at_ by omega)
      by_cases g2 : pbs.length ≤ m
      · rw [if_neg (by simp), if_pos (.inr (.inl (by omega)))]
        have t2 : decide ((pbs.length : Int) ≤ (m : Int)) = true := by simpa using g2
        clear hB ho hN hmax hlen hrl
        clear hr hp hO
        go_enter Try.func60, Try.ntmps60
        go_wp2_with (fail)
        go_quiet (fail)
        go_wp2_with (fail)
        go_ret
        exact ⟨s, _, ⟨_, _, _, rfl⟩, rfl, HNX.out.drewN _, (fun h => by cases h), Did.ofExt ((Ext.refl _ _).drewN _)⟩
      · have t2 : decide ((pbs.length : Int) ≤ (m : Int)) = false := by simpa using g2
        have g2' : m < pbs.length := by omega
        by_cases g3 : y = 0
        · rw [if_neg (by simp), if_pos (.inr (.inr g3))]
          subst g3
          clear hB ho hN hmax hlen hrl
          clear hr hp hO
          go_enter Try.func60, Try.ntmps60
          go_wp2_with (fail)
          go_quiet (fail)
          go_wp2_with (fail)
          go_ret
          exact ⟨s, _, ⟨_, _, _, rfl⟩, rfl, HNX.out.drewN _, (fun h => by cases h), Did.ofExt ((Ext.refl _ _).drewN _)⟩
        · rw [if_neg (by simp), if_neg (by rintro (h | h | h); omega; omega; exact g3 h)]
          have hy0 : y.toNat ≠ 0 := fun h => g3 (UInt8.toNat_inj.1 h)
          have t3 : ((y.toNat : Int) == 0) = false := by simp; omega
          have hx : pbs[m]? = some pbs[m] := List.getElem?_eq_getElem g2'
          generalize pbs[m] = x at *
          rcases own_blk ho with ⟨h0, h00⟩ | ⟨gb, cb', rest', he, hgbS, hBb, hc1, hc2, hlenb⟩
          · omega
          simp only [Value.slice.injEq] at he
          obtain ⟨rfl, -, rfl⟩ := he
          have qx : W.cell? ⟨gb, m, none⟩ = some (.int .u8 (x.toNat : Int)) := by
            rw [hBb.cell, List.getElem?_append_left (by simpa using g2'), List.getElem?_map, hx]; rfl
          have qf := hBb.frozen m
          have hgg : gb ≠ g := fun e => by have := own_far ho hO.own (by decide) gb rfl; exact this (by simp [Value.ownBlock, e])
          have hgg' : g ≠ gb := fun e => hgg e.symm
          obtain ⟨z, hz⟩ : ∃ z, x ^^^ y = z := ⟨_, rfl⟩
          have hxor : bits .xor .u8 (x.toNat : Int) (y.toNat : Int) = (z.toNat : Int) := by rw [xor_u8b, hz]
          have HZ := Lib.hid hz
          clear hz
          clear hB ho hN hmax hlen hrl hBb hlenb
          go_enter Try.func60, Try.ntmps60
          go_wp2_with (fail)
          go_quiet (fail)
          go_upto_region 6 with (fail)
          have xq := (Ext.refl [] W).drewN nq
          have hOV := hO.ext xq
          have q3 := cells_ext xq q3
          have q4 := cells_ext xq q4
          have qx := cells_ext xq qx
          have k1 := cells_ext xq k1
          have k2 := cells_ext xq k2
          have qf : (W.drewN nq).frozen? ⟨gb, m, none⟩ = false := qf
          have gf : (W.drewN nq).frozen? ⟨g, i * 5 + 4, none⟩ = false := gf
          have HNV := Lib.hid (HNX.out.drewN nq)
          have hd0 := Did.ofExt (S := S) (b := b) (C := []) xq
          generalize W.drewN nq = V at *
          have hOB := hOV.byte (k := m) (z := z) hr hp rfl
          have hdb := hd0.cell gb m (BV z) (.inr (.inl hgbS))
          have hNB := Lib.hid (HNV.out.other ⟨gb, m, none⟩ (by show b ≠ gb; omega) (BV z))
          have hpm : pbs.modify m (· ^^^ y) = pbs.set m z := by rw [modify_set _ hx, HZ.out]
          have hOF := hOB.flag hr (p := ⟨rn, rf, rt, pbs.set m z, false⟩) (by rw [List.getElem?_set_self hil])
          rw [List.set_set] at hOF
          have hdf := hdb.cell g (i * 5 + 4) (.bool true) (.inr (.inl hgS))
          have hNF := Lib.hid (hNB.out.other ⟨g, i * 5 + 4, none⟩ (by show b ≠ g; omega) (.bool true))
          have HH := Lib.hid (And.intro hOF (And.intro hdf hpm))
          clear hOB hdb hNB hpm hOF hdf hO hOV hp hr hx hd0
          unfold BV at HH hNF
          go_region
          go_wp2_with (fail)
          go_ret
          refine ⟨s, _, ⟨_, _, _, rfl⟩, rfl, Blk.drew hNF.out, fun _ => ⟨rfl, rs.set i ⟨rn, rf, rt, .slice (some ⟨gb, 0, none⟩) pbs.length cb, true⟩, ?_⟩, HH.out.2.1.exts ((Ext.refl [] _).drew) (by simp)⟩
          show OPs S _ _ (l.set i ⟨rn, rf, rt, pbs.modify ((m : Int).toNat) (· ^^^ y), true⟩) _
          rw [Int.toNat_natCast, HH.out.2.2]
          exact HH.out.1.ext ((Ext.refl [] _).drew)
  · rw [if_pos rfl]
    clear hB ho hN hmax hlen hrl hr hp hO
    go_enter Try.func60, Try.ntmps60
    go_wp2_with (fail)
    go_ret
    exact ⟨s, _, ⟨_, _, _, rfl⟩, rfl, HNX.out, (fun h => by cases h), Did.ofExt (Ext.refl _ _)⟩
end Go.Proofs.Ytpdfmeaemlgniaa
