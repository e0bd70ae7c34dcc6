/-
  bowspritlaw24.NetFills: as many parcels as there may be, one less, one more; sent and doubled. Of every number.
-/
import Derived.Test.YtdiachkimgkkbaaNetY
import Derived.Test.YtdiachkimgkkbaaNetW
import Derived.Test.YtdiachkimgkkbaaRep
import Derived.Test.YtdiachkimgkkbaaRows
import Derived.Test.YtdiachkimgkkbaaChecked
import Derived.ProofKit
import Derived.OpenShut
import Derived.ChangeOld
namespace Go.Proofs.Ytdiachkimgkkbaa
open Go.RowKit
set_option linter.unusedVariables false
set_option linter.unusedSimpArgs false
/-- n parcels from b + 1 on -/
def fl : Nat → Nat → List Par
  | b, 0 => []
  | b, n + 1 => ⟨b + 1, 0, 1, [], false⟩ :: fl (b + 1) n
theorem fl_length : ∀ (n b : Nat), (fl b n).length = n
  | 0, b => rfl
  | n + 1, b => by rw [fl, List.length_cons, fl_length n]
theorem fl_snoc : ∀ (n b : Nat), fl b (n + 1) = fl b n ++ [⟨b + n + 1, 0, 1, [], false⟩]
  | 0, b => rfl
  | n + 1, b => by
    rw [fl, fl_snoc n (b + 1), fl, List.cons_append, show b + 1 + n + 1 = b + (n + 1) + 1 by omega]
theorem fl_take : ∀ (n b m : Nat), m ≤ n → (fl b n).take m = fl b m
  | n, b, 0, _ => by simp [fl]
  | 0, b, m + 1, h => by omega
  | n + 1, b, m + 1, h => by rw [fl, fl, List.take_succ_cons, fl_take n (b + 1) m (by omega)]
theorem fl_chk (s : Nat) : ∀ (n b : Nat), b + n ≤ s → chk s b (fl b n) = true
  | 0, b, _ => rfl
  | n + 1, b, h => by
    rw [fl, chk, fl_chk s n (b + 1) (by omega)]
    have h1 : decide (b < b + 1) = true := by simp
    have h2 : decide (b + 1 ≤ s) = true := by simp; omega
    have h3 : parOK ⟨b + 1, 0, 1, [], false⟩ = true := by unfold parOK isWay isNode; simp
    dsimp only
    rw [h1, h2, h3]; rfl
theorem fl_bs : ∀ (n b : Nat), ∀ q ∈ fl b n, q.bs = []
  | 0, b, q, h => by simp [fl] at h
  | n + 1, b, q, h => by
    rw [fl] at h
    rcases List.mem_cons.1 h with rfl | h
    · rfl
    · exact fl_bs n (b + 1) q h
theorem fl_right (n : Nat) (h : n ≤ 20000) : right ⟨20000, fl 0 n⟩ = true := by
  simp [right, fl_length, h, fl_chk 20000 n 0 (by omega)]
def rawOf (p : Par) : PRaw := ⟨p.num, p.fr, p.to, .slice none 0 0, p.sp⟩
theorem fl_ris (w : World) (n b : Nat) : RIs [] w ((fl b n).map rawOf) (fl b n) := by
  refine ⟨by simp, fun k r p hr hp => ?_⟩
  rw [List.getElem?_map, hp] at hr
  obtain rfl := Option.some.inj hr
  refine ⟨rfl, rfl, rfl, rfl, 0, by simp, ?_⟩
  rw [fl_bs n b p (List.mem_of_getElem? hp)]
  exact Sl.nil _ _ _
theorem own_head {w : World} {A n c : Nat} {a : Option Addr} {rs : List PRaw} (h : w.ownsRow A 33 5 (.slice a n c) rs.length (prows rs)) (m : Nat) (hm : m ≤ rs.length) (h0 : 0 < rs.length) : rs.length ≤ c ∧ ∃ ob, Rs w (.slice a m c) ob (rs.take m) := by
  obtain ⟨ob, hs, _⟩ := Sl.of_own h
  rcases hs.2 with ⟨h1, h2⟩ | ⟨off, sp, cap, h1, h2, h3, hsp, h4⟩
  · omega
  · simp only [Value.slice.injEq] at h1
    obtain ⟨rfl, rfl, rfl⟩ := h1
    have hcell : ∀ (j : Nat) u, (prows (rs.take m))[j]? = some u → (prows rs)[j]? = some u := fun j u hu => by
      have e : prows (rs.take m) = (prows rs).take (m * 5) := (flat_take wideP rs m).symm
      rw [e] at hu
      by_cases hj : j < m * 5
      · rwa [List.getElem?_take_of_lt hj] at hu
      · rw [List.getElem?_eq_none (by rw [List.length_take]; omega)] at hu; cases hu
    refine ⟨h2, ob, by rw [flat_length wideP], .inr ⟨off, sp, c, by rw [List.length_take, Nat.min_eq_left hm], by rw [List.length_take]; omega, h3, ?_, fun j u hu => h4 j u (hcell j u hu)⟩⟩
    rcases hsp with h | h
    · omega
    · exact .inr h
set_option maxRecDepth 100000 in
set_option maxHeartbeats 4000000 in
theorem walkFills (w : World) (more : Int) (tw : Bool) :
    Calls Try.prog 5 #[.int .i64 more, .bool tw] w fun e w' => e = .returned (.bool true) ∧ Below w.heap.size w w' := by
  go_enter Try.func5, Try.ntmps5
  go_upto_region 4 with (go_at_call 10; (with_reducible refine (wakes_any _).mono ?_); rintro e w1 ⟨rfl, x1⟩)
  have y1 := (Ext.refl [] w1).alloc (.cells #[.int .u64 0, .slice none 0 0] 25)
  have b1 := Blk.new w1 [.int .u64 0, .slice none 0 0] 25
  have hX := x1.trans y1
  have hnb : w.heap.size ≤ w1.heap.size := x1.size
  generalize w1.alloc (.cells #[.int .u64 0, .slice none 0 0] 25) = W at *
  generalize w1.heap.size = nb at *
  clear x1 y1
  go_wp2_with (fail)
  go_loopw [15] (fun i wr => ∃ (k : Nat) (a : Option Addr) (c : Nat), i = .int .i64 (k : Int) ∧ k ≤ 20000 ∧ Ext [] w wr ∧ Blk wr nb 25 [.int .u64 0, .slice a k c] ∧ wr.ownsRow w.heap.size 33 5 (.slice a k c) k (prows ((fl 0 k).map rawOf))) (fun i _ => 20000 - (intOf i).toNat)
  case atStart => exact ⟨0, none, 0, rfl, by omega, hX, b1, World.ownsRow_nil _ _ _ _⟩
  case round =>
    obtain ⟨k, a, c, rfl, hk, xr, hN, hO⟩ := hrel
    by_cases hlt : k < 20000
    · obtain ⟨d0, d1⟩ := hN.c2
      have y2 := (Ext.refl [] wr).alloc (.cells #[.int .u64 ((k : Int) + 1), .int .i64 0, .int .i64 1, .slice none 0 0, .bool false] 33)
      have hO2 := own_ext hO y2 (fun _ _ => by simp)
      have hN2 := hN.ext y2 (by simp)
      have hbase : w.heap.size ≤ (wr.alloc (.cells #[.int .u64 ((k : Int) + 1), .int .i64 0, .int .i64 1, .slice none 0 0, .bool false] 33)).heap.size := Nat.le_trans xr.size y2.size
      go_wp2_with (at_builtin; refine wpList_append_sl TPar rfl (.tmp 19) (.tmp 24) rfl rfl hO2 rfl (Sl.lit wr [.int .u64 ((k : Int) + 1), .int .i64 0, .int .i64 1, .slice none 0 0, .bool false] 33 5 1 rfl (by decide)) (by intro u hu; simp at hu; rcases hu with rfl | rfl | rfl | rfl | rfl <;> rfl) (by unfold maxLen; omega) (by omega) hbase ?_; intro v6 W6 r1 r2; obtain ⟨a6, c6, rfl⟩ := own_shape r1; have q2 : Ext (Value.slice a k c).ownBlock.toList _ W6 := r2; have hN6 := hN2.ext q2 (fun m => own_ne hO2 hN2 (by decide) nb (by simpa using m) (by simp)); have zf := hN6.frozen 1; have k6 := hN6.cell 1)
      have x6 := (Ext.refl [nb] W6).setCell (p := ⟨nb, 1, none⟩) (.inl (by simp)) (.slice a6 (k + 1) c6)
      have hN7 := hN6.set 1 (.slice a6 (k + 1) c6)
      simp only [List.set_cons_zero, List.set_cons_succ] at hN7
      have hfs : (fl 0 (k + 1)).map rawOf = (fl 0 k).map rawOf ++ [⟨k + 1, 0, 1, .slice none 0 0, false⟩] := by
        rw [fl_snoc, List.map_append, Nat.zero_add]; rfl
      have r3 : W6.ownsRow w.heap.size 33 5 (.slice a6 (k + 1) c6) (k + 1) (prows ((fl 0 (k + 1)).map rawOf)) := by
        rw [hfs, prows, flat_append, flat_one]
        exact r1
      have hO7 := own_ext r3 x6 (own_ne r3 hN6 (by decide))
      have hX7 := ((xr.trans y2).trans' q2 (fun i hi => .inr (own_ge hO2 i hi))).trans' x6 (fun i hi => .inr (by simp at hi; omega))
      go_roundw
      case rel => exact ⟨k + 1, a6, c6, by go_num, by omega, hX7, hN7, hO7⟩
      case measure => simp [intOf]; omega
    · obtain rfl : k = 20000 := by omega
      obtain ⟨t, ht⟩ : ∃ t, Int.tmod more 3 = t := ⟨_, rfl⟩
      have ht1 : -2 ≤ t ∧ t ≤ 2 := by
        rw [← ht]
        by_cases h0 : 0 ≤ more
        · rw [Int.tmod_eq_emod_of_nonneg h0]; omega
        · rw [show more = -(-more) by omega, Int.neg_tmod, Int.tmod_eq_emod_of_nonneg (by omega)]; omega
      obtain ⟨r, hr, hr2⟩ : ∃ r : Nat, Int.tmod (t + 3) 3 = (r : Int) ∧ r ≤ 2 := by
        refine ⟨((t + 3) % 3).toNat, ?_, by omega⟩
        rw [Int.tmod_eq_emod_of_nonneg (by omega)]
        omega
      obtain ⟨m, hm⟩ : ∃ m : Nat, (20000 : Int) - (r : Int) = (m : Int) := ⟨20000 - r, by omega⟩
      have hm2 : m ≤ 20000 := by omega
      obtain ⟨hcap, -⟩ := own_head (rs := (fl 0 20000).map rawOf) (m := m) (by rw [List.length_map, fl_length]; exact hO) (by rw [List.length_map, fl_length]; exact hm2) (by rw [List.length_map, fl_length]; omega)
      rw [List.length_map, fl_length] at hcap
      obtain ⟨d0, d1⟩ := hN.c2
      have df := hN.frozen
      have htr : (-2 : Int) ≤ t := ht1.1
      have htr2 : t ≤ (2 : Int) := ht1.2
      have hmc : m ≤ c := by omega
      clear hX b1
      go_upto_region 11 with (fail)
      have x1 := ((Ext.refl [nb] wr).setCell (p := ⟨nb, 0, none⟩) (.inl (by simp)) (.int .u64 20000)).setCell (p := ⟨nb, 1, none⟩) (.inl (by simp)) (.slice a m c)
      have hN1 := (hN.set 0 (.int .u64 20000)).set 1 (.slice a m c)
      simp only [List.set_cons_zero, List.set_cons_succ] at hN1
      have hO1 := own_ext hO x1 (own_ne hO hN (by decide))
      have hX := xr.trans' x1 (fun i hi => .inr (by simp at hi; omega))
      generalize (wr.setCell ⟨nb, 0, none⟩ (.int .u64 20000)).setCell ⟨nb, 1, none⟩ (.slice a m c) = W1 at *
      obtain ⟨-, ob, hR⟩ := own_head (rs := (fl 0 20000).map rawOf) (m := m) (by rw [List.length_map, fl_length]; exact hO1) (by rw [List.length_map, fl_length]; exact hm2) (by rw [List.length_map, fl_length]; omega)
      have hPs : Ps W1 (.slice a m c) (fl 0 m) := ⟨ob, _, hR, by rw [← List.map_take, fl_take _ _ _ hm2]; exact fl_ris _ _ _⟩
      have hPl := fl_right m hm2
      have hPn := fl_length m 0
      have hPb := fl_bs m 0
      generalize fl 0 m = l at *
      clear hO hR hN hO1 x1 xr d0 d1 df hmc htr htr2 ht1 hr hr2 hcap ht hm
      have hlb : ∀ q ∈ l, q.bs.length ≤ 100000 := fun q hq => by rw [hPb q hq]; simp
      have sd : ∀ w', Ext [] W1 w' → Calls Try.prog 25 #[.agg #[.int .u64 20000, .slice a m c], .int .i64 2, .int .i64 3, .slice none 0 0] w' (Ans3 w' (sendM ⟨20000, l⟩ 2 3 [])) := fun w' x => by
        have := Send_any w' 20000 _ l 2 3 (.slice none 0 0) 0 [] (hPs.ext x) (Sl.nil _ _ _) (by simp)
        unfold ofM at this
        rw [if_pos hPl] at this
        exact this
      have sr : ∀ w', Ext [] W1 w' → Calls Try.prog 26 #[.agg #[.int .u64 20000, .slice a m c], .int .i64 2, .int .i64 3, .slice none 0 0] w' (Ans3 w' (sendM ⟨20000, l⟩ 2 3 [])) := fun w' x => RefSend_any w' 20000 _ l 2 3 none 0 0 [] (hPs.ext x) (Sl.nil _ _ _) (by omega) hlb (by omega)
      have td : ∀ w', Ext [] W1 w' → Calls Try.prog 27 #[.agg #[.int .u64 20000, .slice a m c], .int .u64 1] w' (Ans3 w' (twinM ⟨20000, l⟩ 1)) := fun w' x => by
        have := Twin_any w' 20000 1 _ l (hPs.ext x)
        unfold ofM at this
        rw [if_pos hPl] at this
        exact this
      have tr : ∀ w', Ext [] W1 w' → Calls Try.prog 28 #[.agg #[.int .u64 20000, .slice a m c], .int .u64 1] w' (Ans3 w' (twinM ⟨20000, l⟩ 1)) := fun w' x => RefTwin_any w' 20000 1 _ l (hPs.ext x) (by omega) hlb (by omega)
      generalize sendM ⟨20000, l⟩ 2 3 [] = T at *
      generalize twinM ⟨20000, l⟩ 1 = V at *
      clear hPs hPl hPn hPb hlb hm2
      obtain ⟨n0, n1⟩ := hN1.c2
      have hnl := hN1.lt
      go_upto_region 12 with (go_at_call 25; (with_reducible refine (sd _ (Ext.refl [] W1)).mono ?_); rintro e w2 ⟨v2, rs2, ⟨a2, m2, c2, rfl⟩, rfl, hO2, x2⟩)
      have y2 := (Ext.refl [] w2).alloc (.cells #[.int .u64 (T.n.s : Int), .slice a2 m2 c2] 25)
      have b7 := Blk.new w2 [.int .u64 (T.n.s : Int), .slice a2 m2 c2] 25
      have hp70 : W1.heap.size ≤ w2.heap.size := x2.size
      have hO2 := hO2.ext y2
      have x2 := x2.trans y2
      have n0 := cells_ext x2 n0
      have n1 := cells_ext x2 n1
      generalize w2.alloc (.cells #[.int .u64 (T.n.s : Int), .slice a2 m2 c2] 25) = W2 at *
      generalize w2.heap.size = p7 at *
      clear y2
      go_upto_region 13 with (go_at_call 26; (with_reducible refine (sr _ x2).mono ?_); rintro e w3 ⟨v3, rs3, ⟨a3, m3, c3, rfl⟩, rfl, hO3, x3⟩)
      have b7w := b7
      have x3w := x3
      have y3 := (Ext.refl [] w3).alloc (.cells #[.int .u64 (T.n.s : Int), .slice a3 m3 c3] 25)
      have b10 := Blk.new w3 [.int .u64 (T.n.s : Int), .slice a3 m3 c3] 25
      have hO3 := hO3.ext y3
      have x3 := x3.trans y3
      have hO2 := hO2.ext x3
      have b7 := b7.ext x3 (by simp)
      have n0 := cells_ext x3 n0
      have n1 := cells_ext x3 n1
      have x3 := x2.trans x3
      have hne : p7 ≠ w3.heap.size := by have := b7w.lt; have := x3w.size; omega
      have hp7 : W1.heap.size ≤ p7 := hp70
      have hp10 : W1.heap.size ≤ w3.heap.size := Nat.le_trans x2.size x3w.size
      clear b7w x3w
      generalize w3.alloc (.cells #[.int .u64 (T.n.s : Int), .slice a3 m3 c3] 25) = W3 at *
      generalize w3.heap.size = p10 at *
      clear y3
      have hss : ∀ n, sameNt n n = true := fun n => by unfold sameNt; simp
      cases tw
      · have rs := RefSame_any W3 T.n.s T.n.s _ _ _ _ hO2.ps hO3.ps
        rw [hss] at rs
        obtain ⟨i0, i1⟩ := b7.c2
        obtain ⟨j0, j1⟩ := b10.c2
        clear sd sr td tr n0 n1
        generalize T.n.s = Ts at *
        generalize T.n.ps = Tp at *
        generalize T.num = Tn at *
        generalize T.e = Te at *
        go_wp2_with (go_at_call 15; (with_reducible refine rs.mono ?_); rintro e w4 ⟨rfl, x4⟩)
        go_ret
        exact ⟨ret_bool (by simp), ((hX.trans x3).trans x4).below⟩
      · clear sd sr hO2 hO3
        go_upto_region 15 with (go_at_call 27; (with_reducible refine (td _ x3).mono ?_); rintro e w4 ⟨v4, rs4, ⟨a4, m4, c4, rfl⟩, rfl, hO4, x4⟩; have b74 := b7.ext x4 (by simp); obtain ⟨i0, i1⟩ := b74.c2; have if7 := b74.frozen)
        have y4 := ((Ext.refl [p7] w4).setCell (p := ⟨p7, 0, none⟩) (.inl (by simp)) (.int .u64 (V.n.s : Int))).setCell (p := ⟨p7, 1, none⟩) (.inl (by simp)) (.slice a4 m4 c4)
        have b75 := (b74.set 0 (.int .u64 (V.n.s : Int))).set 1 (.slice a4 m4 c4)
        simp only [List.set_cons_zero, List.set_cons_succ] at b75
        have b105 := (b10.ext x4 (by simp)).ext y4 (by simpa using hne.symm)
        have hO5 := hO4.other b74 (by decide) (by decide) y4
        have x5 := (x3.trans x4).trans' y4 (fun i hi => .inr (by simp at hi; omega))
        have n0 := (cells_ext x4 n0)
        have n1 := (cells_ext x4 n1)
        have n0 := y4.read n0 (by simp; omega)
        have n1 := y4.read n1 (by simp; omega)
        generalize (w4.setCell ⟨p7, 0, none⟩ (.int .u64 (V.n.s : Int))).setCell ⟨p7, 1, none⟩ (.slice a4 m4 c4) = W5 at *
        clear i0 i1 if7 y4 b74 b7 b10 hO4
        go_upto_region 16 with (go_at_call 28; (with_reducible refine (tr _ x5).mono ?_); rintro e w6 ⟨v6, rs6, ⟨a6, m6, c6, rfl⟩, rfl, hO6, x6⟩; have b106 := b105.ext x6 (by simp); obtain ⟨i0, i1⟩ := b106.c2; have if7 := b106.frozen)
        have y6 := ((Ext.refl [p10] w6).setCell (p := ⟨p10, 0, none⟩) (.inl (by simp)) (.int .u64 (V.n.s : Int))).setCell (p := ⟨p10, 1, none⟩) (.inl (by simp)) (.slice a6 m6 c6)
        have b107 := (b106.set 0 (.int .u64 (V.n.s : Int))).set 1 (.slice a6 m6 c6)
        simp only [List.set_cons_zero, List.set_cons_succ] at b107
        have b77 := (b75.ext x6 (by simp)).ext y6 (by simpa using hne)
        have hO7 := hO6.other b106 (by decide) (by decide) y6
        have hO57 := (hO5.ext x6).other b106 (by decide) (by decide) y6
        have x7 := (x5.trans x6).trans' y6 (fun i hi => .inr (by simp at hi; omega))
        generalize (w6.setCell ⟨p10, 0, none⟩ (.int .u64 (V.n.s : Int))).setCell ⟨p10, 1, none⟩ (.slice a6 m6 c6) = W7 at *
        clear i0 i1 if7 y6 b106 b105 hO6 hO5 n0 n1
        have rs := RefSame_any W7 V.n.s V.n.s _ _ _ _ hO57.ps hO7.ps
        rw [hss] at rs
        obtain ⟨i0, i1⟩ := b77.c2
        obtain ⟨j0, j1⟩ := b107.c2
        clear td tr
        generalize V.n.s = Ts at *
        generalize V.n.ps = Tp at *
        generalize V.num = Tn at *
        generalize V.e = Te at *
        go_wp2_with (go_at_call 15; (with_reducible refine rs.mono ?_); rintro e w8 ⟨rfl, x8⟩)
        go_ret
        exact ⟨ret_bool (by simp), ((hX.trans x7).trans x8).below⟩
set_option maxRecDepth 100000 in
open Go.ChangeShapes Go.WideShapes Go.ChangeAt in
theorem walk_NetFills {H : Type} {enc : TypeId × Value → H} (W : World) (v0 : Value) (d0 : DataW H) (p0 : List MemPlace) (base0 : Nat) (h0 : DataW.Trod enc Try.prog W 0 (fun _ => true) true 3 v0 d0 p0) (k0 : Value.okWide Try.prog W .any base0 3 v0) (v1 : Value) (d1 : DataW H) (p1 : List MemPlace) (base1 : Nat) (h1 : DataW.Trod enc Try.prog W 0 (fun _ => true) true 4 v1 d1 p1) (k1 : Value.okWide Try.prog W .any base1 4 v1) :
    Calls Try.prog 5 #[v0, v1] W fun e w' => e = .returned (.bool true) ∧ Below W.heap.size W w' := by
  obtain ⟨x, rfl, rfl, rfl, w1⟩ := open_int Try.underlying3 k0 h0
  obtain ⟨b, rfl⟩ := WideShapes.okWide_bool Try.underlying4 k1
  exact walkFills W x b

namespace netFills
open Go.ChangeShapes Go.WideShapes Go.ChangeAt Go.RowKit
theorem own : ownKnob Try.prog.godebug = none := by kernel_rfl
theorem laidOut : laidOutB Try.prog = true := by kernel_rfl
set_option maxRecDepth 100000 in
theorem lifted (os : Os) (started : os.Started) (H : Type) (enc : TypeId × Value → H) :
    ReturnsInHanded {} Try.checked os 5 .any (Rows.netFillsSpec.pre6 enc Try.prog Try.f5 Rows.netFillsRow.domain false) (Rows.netFillsSpec.post enc Try.prog Try.f5 false true false false) := by
  refine returnsInHanded_of_change (C := Try.checked) own started (by kernel_rfl) Try.func5
    (ChangeSpec.witness6 (enc := enc) (C := Try.checked) false ⟨#[], #[.int .i64 0, .bool false], []⟩ 8 (by kernel_rfl) (by kernel_rfl) (by kernel_rfl) (by kernel_rfl)) ?_
  intro W base args ds gs before hval0 hW hcnd _
  have hval : ∀ (j : Nat) t v, Try.f5.params[j]? = some t → args[j]? = some v → Value.okWide Try.prog W .any base t v := hval0
  have hW' := hW
  obtain ⟨p, q, hA0, hV, rfl, hfz, hnd⟩ := hW
  have hA : DataW.TrodAll enc Try.prog W 0 (fun _ => true) true Try.f5.params.toList args.toList ds p := hA0
  rw [Try.params5] at hA hval
  obtain ⟨v0, vs0, d0, ds0, p0, q0, hargs, rfl, rfl, h0, r0⟩ := trodAll_cons hA
  obtain ⟨v1, vs1, d1, ds1, p1, q1, rfl, rfl, rfl, h1, r1⟩ := trodAll_cons r0
  obtain ⟨rfl, rfl, rfl⟩ := trodAll_nil r1
  obtain rfl : args = #[v0, v1] := by cases args; simp_all
  obtain ⟨rfl, rfl⟩ := trodVars_none hV
  have lt0 : ∀ x ∈ p0, x.block < W.heap.size := by obtain ⟨m, hm⟩ := h0; exact DataW.trod_lt m _ _ _ hm
  have lt1 : ∀ x ∈ p1, x.block < W.heap.size := by obtain ⟨m, hm⟩ := h1; exact DataW.trod_lt m _ _ _ hm
  have k0 := hval 0 3 v0 rfl rfl
  have k1 := hval 1 4 v1 rfl rfl
  clear hA0 hval0
  refine (walk_NetFills W v0 d0 p0 base h0 k0 v1 d1 p1 base h1 k1).mono fun e W' ⟨he, bel⟩ => ?_
  subst he
  exact ⟨_, rfl, _, _, _, [], _, [], hW', trodAll_mk1 (shut_bool Try.underlying4 _), (trodAll_cons_mk (Below.trod laidOut (by kernel_rfl) (of_decide_eq_true (by kernel_rfl)) h0 bel lt0) (trodAll_cons_mk (Below.trod laidOut (by kernel_rfl) (of_decide_eq_true (by kernel_rfl)) h1 bel lt1) trodAll_mk0)), rfl, bel.frame _, fun h => by cases h⟩
theorem over : Rows.netFillsRow.holds Try.pinned (OpenSpec.ofChange Rows.netFillsSpec) :=
  OpenClaim.holds_of_wide 5 Try.f5 rfl rfl rfl rfl rfl rfl rfl ⟨rfl, rfl, rfl, rfl, rfl⟩ rfl rfl rfl rfl rfl (by kernel_rfl) Try.func5 (by kernel_rfl)
    (of_decide_eq_true (by kernel_rfl)) (by unfold Func.isWrapper; first | (rw [if_pos (by decide +kernel)]; kernel_rfl) | (rw [if_neg (by decide +kernel)]; exact ⟨rfl, rfl⟩))
    (fun os started H enc _ => lifted os started H enc)
theorem proved : Rows.NetFillsSaid := over
#print axioms proved
end netFills
end Go.Proofs.Ytdiachkimgkkbaa
