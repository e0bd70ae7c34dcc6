
/-
  A table's line: lineOf.
-/
import Derived.Test.YtjmfcjidhmaibaaGreatDoorCatN
import Derived.Test.YtjmfcjidhmaibaaGreatDoorCatE
import Derived.Deep.AppendLies
namespace Go.Proofs.YtjmfcjidhmaibaaGreatDoor
open Go.RowKit
open Go.Lib hiding intOf
set_option linter.unusedVariables false

def bTable : ByteArray := ⟨#[116, 97, 98, 108, 101]⟩
def bBy : ByteArray := ⟨#[98, 121]⟩
def colParts : List Col → List ByteArray
  | [] => []
  | c :: l => c.n :: B (kw c.k) :: colParts l
def nameAt (cs : List Col) (k : Int) : ByteArray := ((cs[k.toNat]?).map Col.n).getD ⟨#[]⟩
def byParts (ks : List Int) : List ByteArray := if ks = [] then [] else [bBy]
/-- the words of a table's line -/
def tabParts (t : Tab) : List ByteArray := [bTable, t.n] ++ colParts t.cols ++ byParts t.keys ++ t.keys.map (nameAt t.cols)
def lineB (t : Tab) : List UInt8 := Lib.join ((tabParts t).map L) [32] ++ [10]
theorem TStr : SliceTy Tryz.prog 71 9 1 16 (.string ⟨#[]⟩) := SliceTy.mk' (by kernel_rfl) (by kernel_rfl) rfl (by decide)
theorem colParts_append : ∀ (l m : List Col), colParts (l ++ m) = colParts l ++ colParts m
  | [], m => rfl
  | c :: l, m => by simp [colParts, colParts_append l m]
theorem colParts_succ {l : List Col} {k : Nat} {c : Col} (h : l[k]? = some c) : colParts (l.take (k + 1)) = colParts (l.take k) ++ [c.n, B (kw c.k)] := by
  rw [List.take_add_one, h, colParts_append]; rfl
theorem colParts_length : ∀ (l : List Col), (colParts l).length = 2 * l.length
  | [] => rfl
  | c :: l => by simp [colParts, colParts_length l]; omega
theorem areKeys_mem {n : Int} : ∀ {l : List Int} {m : Int}, areKeys n m l = true → ∀ k ∈ l, m ≤ k ∧ k < n
  | [], m, _, k, hk => by simp at hk
  | x :: r, m, h, k, hk => by
    simp only [areKeys, Bool.and_eq_true, decide_eq_true_eq] at h
    obtain ⟨⟨h1, h2⟩, h3⟩ := h
    rcases List.mem_cons.1 hk with rfl | hk
    · exact ⟨h1, h2⟩
    · have := areKeys_mem h3 k hk
      omega
theorem tab_keys {t : Tab} (h : isTab t = true) : ∀ k ∈ t.keys, 0 ≤ k ∧ k < (t.cols.length : Int) := by
  unfold isTab at h
  simp only [Bool.and_eq_true, decide_eq_true_eq] at h
  exact areKeys_mem h.2
theorem name_len {l : List UInt8} (h : isName l = true) : l.length ≤ 16 := by
  unfold isName at h
  simp only [Bool.and_eq_true, decide_eq_true_eq] at h
  exact h.1.1.1.2
theorem kw_len (k : Int) : (kw k).length ≤ 4 := by
  unfold kw
  repeat' split
  all_goals simp
theorem lens_le : ∀ (l : List (List UInt8)) (m : Nat), (∀ x ∈ l, x.length ≤ m) → Lib.lens l ≤ m * l.length
  | [], m, _ => by simp [Lib.lens]
  | x :: l, m, h => by
    have h1 := lens_le l m (fun y hy => h y (by simp [hy]))
    have h2 := h x (by simp)
    unfold Lib.lens at *
    simp only [List.map_cons, List.sum_cons, List.length_cons, Nat.mul_add, Nat.mul_one] at *
    omega
theorem tab_cols {t : Tab} (h : isTab t = true) : ∀ c ∈ t.cols, isCol c = true := by
  unfold isTab fitsL at h
  simp only [Bool.and_eq_true, decide_eq_true_eq] at h
  exact fun c hc => List.all_eq_true.1 h.1.2.2.2 c hc
theorem tab_name {t : Tab} (h : isTab t = true) : isName (L t.n) = true := by
  unfold isTab at h
  simp only [Bool.and_eq_true, decide_eq_true_eq] at h
  exact h.1.1
theorem col_name {c : Col} (h : isCol c = true) : isName (L c.n) = true := by
  unfold isCol at h
  simp only [Bool.and_eq_true, decide_eq_true_eq] at h
  exact h.1
theorem colParts_small : ∀ (l : List Col), (∀ c ∈ l, isCol c = true) → ∀ x ∈ colParts l, (L x).length ≤ 16
  | [], _, x, hx => by simp [colParts] at hx
  | c :: l, h, x, hx => by
    rw [colParts, List.mem_cons, List.mem_cons] at hx
    rcases hx with rfl | rfl | hx
    · exact name_len (col_name (h c (by simp)))
    · have := kw_len c.k
      rw [L_B]; omega
    · exact colParts_small l (fun d hd => h d (by simp [hd])) x hx
theorem parts_small {t : Tab} (h : isTab t = true) : ∀ x ∈ tabParts t, (L x).length ≤ 16 := by
  intro x hx
  unfold tabParts at hx
  rw [List.mem_append, List.mem_append, List.mem_append] at hx
  rcases hx with ((hx | hx) | hx) | hx
  · simp at hx
    rcases hx with rfl | rfl
    · decide
    · exact name_len (tab_name h)
  · exact colParts_small _ (tab_cols h) x hx
  · unfold byParts at hx
    split at hx
    · simp at hx
    · obtain rfl : x = bBy := by simpa using hx
      decide
  · obtain ⟨k, hk, rfl⟩ := List.mem_map.1 hx
    have := tab_keys h k hk
    have hlt : k.toNat < t.cols.length := by omega
    unfold nameAt
    rw [List.getElem?_eq_getElem hlt]
    exact name_len (col_name (tab_cols h _ (List.getElem_mem hlt)))
theorem parts_count {t : Tab} (h : isTab t = true) : (tabParts t).length ≤ 15 := by
  have := tab_small h
  unfold tabParts byParts
  simp only [List.length_append, colParts_length, List.length_map, List.length_cons, List.length_nil]
  split <;> simp <;> omega
theorem tab_line_len {t : Tab} (h : isTab t = true) : (Lib.join ((tabParts t).map L) [32]).length ≤ 300 := by
  have h1 := parts_small h
  have h2 := parts_count h
  have h3 := lens_le ((tabParts t).map L) 16 (by intro x hx; obtain ⟨y, hy, rfl⟩ := List.mem_map.1 hx; exact h1 y hy)
  rw [List.length_map] at h3
  cases hp : (tabParts t).map L with
  | nil => simp [Lib.join_nil]
  | cons x r =>
    have hl := congrArg List.length hp
    rw [List.length_map, List.length_cons] at hl
    rw [hp] at h3
    rw [Lib.join_length]
    simp only [List.length_cons, List.length_nil]
    omega
theorem strs_one (l : List ByteArray) : ∀ u ∈ l.map Value.string, u.oneCell' = true := by
  intro u hu; obtain ⟨x, _, rfl⟩ := List.mem_map.1 hu; rfl
/-- append(s, x...) as one step of a region that draws, s the call's own, x a slice that has an address -/
theorem step_append_sl {P : Program} {w : World} {ops : Array Oper} {o : Oper} {a : Act} {K : Act → World → Prop} {Q : Exit → Act → World → Prop} {E : Prop}
    {t e : TypeId} {size bytes : Nat} {z : Value} (T : SliceTy P t e size bytes z) (hgd : o.guard = none) (s x : Operand)
    (ho : o.op = .call { callee := .builtin .append, args := #[s, x], argTypes := #[t, t] })
    {base n m ob off cap : Nat} {v : Value} {xs news : List Value} (hs : a.eval s = v) (hown : w.ownsRow base e size v n xs) (hx : a.eval x = .slice (some ⟨ob, off, none⟩) m cap) (hsl : Sl w (.slice (some ⟨ob, off, none⟩) m cap) ob size m news) (h1 : ∀ u ∈ news, u.oneCell' = true)
    (h63 : n + m ≤ maxLen) (hbytes : (n + m) * bytes ≤ 140737488355328) (hbase : base ≤ w.heap.size)
    (h : ∀ v' w', w'.ownsRow base e size v' (n + m) (xs ++ news) → Ext v.ownBlock.toList w w' → K (a.put o.dst v') w') :
    if Region.wanted o (yielded ops a.tmps) = true then Oper.wp P o a w K Q else E := by
  have hw : Region.wanted o (yielded ops a.tmps) = true := by simp [Region.wanted, hgd]
  rw [if_pos hw]
  obtain ⟨i, i1, i2, i3, i4⟩ := T.info
  refine wp_append_own w s x t ho base e i z size bytes T.und i1 i2 i3 i4 T.zc T.pos v n xs hs hown ⟨ob, off, none⟩ m cap news hx hsl.1 (fun j u hu => ?_) h1 h63 hbytes hbase fun v' w' r1 r2 _ => h v' w' r1 (Ext.ofGrown r2)
  rcases hsl.2 with ⟨e1, _⟩ | ⟨off', sp, cap', e1, _, _, _, h3⟩
  · simp at e1
  · simp only [Value.slice.injEq, Option.some.injEq, Addr.mk.injEq, true_and] at e1
    obtain ⟨⟨rfl, rfl⟩, -⟩ := e1
    rw [add_off]
    exact h3 j u hu
theorem keepX2 {X : List Nat} {W w w' : World} {b0 o0 b1 o1 : Nat} {v0 v1 : Value} (h : w.cell? ⟨b0, o0, none⟩ = some v0 ∧ w.cell? ⟨b1, o1, none⟩ = some v1 ∧ Ext X W w) (e : Ext [] w w') : w'.cell? ⟨b0, o0, none⟩ = some v0 ∧ w'.cell? ⟨b1, o1, none⟩ = some v1 ∧ Ext X W w' := ⟨e.read h.1 (by simp), keepX h.2 e⟩
theorem keepY2 {X : List Nat} {W w w' : World} {b0 o0 b1 o1 : Nat} {v0 v1 : Value} (h : w.cell? ⟨b0, o0, none⟩ = some v0 ∧ w.cell? ⟨b1, o1, none⟩ = some v1 ∧ Ext X W w) (e : Ext X w w') (h0 : b0 ∉ X) (h1 : b1 ∉ X) : w'.cell? ⟨b0, o0, none⟩ = some v0 ∧ w'.cell? ⟨b1, o1, none⟩ = some v1 ∧ Ext X W w' := ⟨e.read h.1 h0, e.read h.2.1 h1, h.2.2.trans e⟩
set_option maxRecDepth 100000 in
set_option maxHeartbeats 2000000 in
theorem lineOf_any (w : World) (t : Tab) (a1 : Option Addr) (c1 : Nat) (a2 : Option Addr) (c2 : Nat) (oc ok : Nat) (hC : Cs w (.slice a1 t.cols.length c1) oc t.cols) (hK : Is w (.slice a2 t.keys.length c2) ok t.keys) (hT : isTab t = true) (hG : Glob w) :
    Calls Tryz.prog 19 #[TV t.n (.slice a1 t.cols.length c1) (.slice a2 t.keys.length c2)] w fun e w' => e = .returned (.string (B (lineB t))) ∧ Ext [] w w' := by
  obtain ⟨n4, k4⟩ := tab_small hT
  obtain ⟨n, cs, ks⟩ := t
  dsimp only at *
  have hE := (Ext.refl [] w).alloc (.cells #[.string n, .slice a1 cs.length c1, .slice a2 ks.length c2] 41)
  have d0 := new_cells w [.string n, .slice a1 cs.length c1, .slice a2 ks.length c2] 41 0 _ rfl
  have d1 := new_cells w [.string n, .slice a1 cs.length c1, .slice a2 ks.length c2] 41 1 _ rfl
  have d2 := new_cells w [.string n, .slice a1 cs.length c1, .slice a2 ks.length c2] 41 2 _ rfl
  have hks : ∀ K ∈ ks, 0 ≤ K ∧ K < (cs.length : Int) := tab_keys hT
  have hfin0 : ∀ qs : List ByteArray, qs = tabParts ⟨n, cs, ks⟩ → lineB ⟨n, cs, ks⟩ = Lib.join (qs.map L) [32] ++ [10] ∧ (Lib.join (qs.map L) [32]).length ≤ 1000 := fun qs h => by
    subst h
    exact ⟨rfl, Nat.le_trans (tab_line_len hT) (by decide)⟩
  go_enter Tryz.func19, Tryz.ntmps19
  go_upto_region 1 with (fail)
  generalize w.alloc (.cells #[.string n, .slice a1 cs.length c1, .slice a2 ks.length c2] 41) = W at *
  generalize w.heap.size = b at *
  have hB0 := Blk.new W [.string bTable, .string n] 9
  have hE1 := (Ext.refl [] W).alloc (.cells #[.string bTable, .string n] 9)
  have hO := hB0.owns (base := W.heap.size) (size := 1) (n := 2) (cap := 2) (Nat.le_refl _) rfl (Nat.le_refl _) (by decide)
  go_upto_region 2 with (fail)
  rw [show (⟨#[116, 97, 98, 108, 101]⟩ : ByteArray) = bTable from rfl]
  generalize W.alloc (.cells #[.string bTable, .string n] 9) = W1 at *
  have d0' := cells_ext hE1 d0
  have d1' := cells_ext hE1 d1
  have d2' := cells_ext hE1 d2
  generalize hv0 : Value.slice (some ⟨W.heap.size, 0, none⟩) 2 2 = v0 at *
  clear hv0 hB0
  go_wp2_with (fail)
  go_loopw [3, 14] (fun v i wr => ∃ (k : Nat) (ps : List ByteArray), k ≤ cs.length ∧ i = .int .i64 k ∧ ps.length ≤ 2 + 2 * k ∧ wr.ownsRow W.heap.size 9 1 v ps.length (ps.map Value.string) ∧ Ext [] W wr ∧ Hid (ps = [bTable, n] ++ colParts (cs.take k))) (fun v i _ => cs.length - (intOf i).toNat)
  case atStart => exact ⟨0, [bTable, n], by omega, rfl, by simp, hO, hE1, rfl⟩
  case round =>
    clear hO hE1 d0' d1' d2'
    obtain ⟨k, ps, hk, rfl, hps, hO, hX, hP⟩ := hrel
    by_cases hlt : k < cs.length
    · obtain ⟨o, N, K, rfl, hx, c0, c1⟩ := (hC.ext (hE.trans hX) (by simp)).at k hlt
      have e1 := (Ext.refl [] wr).alloc (.cells #[.string N, .int .i64 K] 67)
      have f0 := new_cells wr [.string N, .int .i64 K] 67 0 _ rfl
      have f1 := new_cells wr [.string N, .int .i64 K] 67 1 _ rfl
      have hO1 := own_ext hO e1 (by simp)
      have hw := fun U (x : Ext [] wr U) => wordOf_any U K (hG.ext ((hE.trans hX).trans x))
      go_upto_region 5 with (fail)
      generalize wr.alloc (.cells #[.string N, .int .i64 K] 67) = W2 at *
      generalize hb2e : wr.heap.size = b2 at *
      have hb2 : b2 ∉ u3.ownBlock.toList := fun hm => by have := (hO.lt b2 (by simpa using hm)).2; omega
      go_region_held3 (fun w' => w'.cell? ⟨b2, 0, none⟩ = some (.string N) ∧ w'.cell? ⟨b2, 1, none⟩ = some (.int .i64 K) ∧ Ext u3.ownBlock.toList W2 w')
        (first | exact ⟨f0, f1, (Ext.refl _ W2).drew⟩ | assumption | exact keepX2 (by assumption) ((Ext.refl [] _).alloc _))
        (first
          | (go_at_call 37; (with_reducible refine (hw _ e1.drew).mono ?_); rintro e w1 ⟨rfl, h1⟩; have s1 := keepX2 (by assumption) h1)
          | (refine step_append_sl TStr rfl (.tmp 18) (.tmp 24) rfl rfl (own_ext hO1 (((Ext.refl [] W2).drew.trans h1).alloc _) (by simp)) rfl (Sl.lit w1 [.string N, .string (B (kw K))] 9 1 2 rfl (by decide)) (by intro u hu; simp at hu; rcases hu with rfl | rfl <;> rfl) (by unfold maxLen; omega) (by omega) (Nat.le_trans (hX.trans e1).size (((Ext.refl [] W2).drew.trans h1).alloc _).size) ?_; intro v' w3 hO' h3; have s3 := keepY2 (by assumption) h3 hb2 hb2))
      have hO2 : w3.ownsRow W.heap.size 9 1 v' (ps ++ [N, B (kw K)]).length ((ps ++ [N, B (kw K)]).map Value.string) := by
        rw [List.length_append, List.map_append]; exact hO'
      have hX2 : Ext [] W w3 := (hX.trans e1).trans' s3.2.2 (fun i hi => .inr (own_ge hO i hi))
      have hP2 : Hid (ps ++ [N, B (kw K)] = [bTable, n] ++ colParts (cs.take (k + 1))) := by
        show _ = _
        rw [hP.out, colParts_succ hx, List.append_assoc]
      clear hO hO' hX hP hx s1 s3
      go_wp2_with (fail)
      go_roundw
      case rel => exact ⟨k + 1, _, by omega, by go_num, by rw [List.length_append]; simp; omega, hO2, hX2, hP2⟩
      case measure => simp [intOf]; omega
    · obtain rfl : k = cs.length := by omega
      rw [List.take_length] at hP
      have g1 := cells_ext hX d1
      have g2 := cells_ext hX d2
      by_cases hk0 : ks = []
      · have q0 : decide (0 < ks.length) = false := by rw [hk0]; rfl
        have q0' : ¬ (0 < ks.length) := by rw [hk0]; simp
        have HK := Lib.hid hk0
        clear hk0
        go_wp2_with (fail)
        go_loopw [3, 37] (fun v i wr => ∃ (k : Nat) (qs : List ByteArray), k ≤ ks.length ∧ i = .int .i64 k ∧ qs.length ≤ 20 + k ∧ wr.ownsRow W.heap.size 9 1 v qs.length (qs.map Value.string) ∧ Ext [] W wr ∧ Hid (qs = ps ++ (ks.take k).map (nameAt cs))) (fun v i _ => ks.length - (intOf i).toNat)
        case atStart => exact ⟨0, ps, by omega, rfl, by first | omega | (rw [List.length_append]; simp; omega), hO, hX, by simp [Hid]⟩
        case round =>
          clear hO hX g1 g2
          obtain ⟨k, qs, hk, rfl, hqs, hO, hX, hQ⟩ := hrel
          have g1 := cells_ext hX d1
          by_cases hlt2 : k < ks.length
          · exact absurd hlt2 (by omega)
          · obtain rfl : k = ks.length := by omega
            rw [List.take_length] at hQ
            have hfin := hfin0 qs (by rw [hQ.out]; exact by rw [hP.out]; simp [tabParts, byParts, HK.out])
            obtain ⟨os, hS, -⟩ := Sl.of_own hO
            have hS' : Sl wr _ os 1 qs.length (qs.map Value.string) := hS
            have hj := Join_any wr _ os qs ⟨#[32]⟩ hS' (by omega) (by have := hfin.2; unfold L at this ⊢; simp only at this ⊢; omega)
            rw [show L ⟨#[32]⟩ = [32] from rfl] at hj
            obtain ⟨h1, h2⟩ := hfin
            have hsz : (B (Lib.join (qs.map L) [32])).size ≤ 1000 := h2
            generalize Lib.join (qs.map L) [32] = J at *
            clear hQ hS hS' hO
            go_wp2_with (go_at_call 38; (with_reducible refine hj.mono ?_); rintro e w1 ⟨rfl, x1⟩)
            go_ret
            exact ⟨by rw [h1]; rfl, (hE.trans hX).trans x1⟩
      · have q0 : 0 < ks.length := List.length_pos_iff.2 hk0
        have HK := Lib.hid hk0
        clear hk0
        go_wp2_with (at_builtin; refine wpList_append_sl TStr rfl (.tmp 31) (.tmp 32) rfl rfl (hO.alloc _) rfl (Sl.one wr _ _) (by intro u hu; simp at hu; subst hu; rfl) (by unfold maxLen; omega) (by omega) (by have := hX.size; simp; omega) ?_; intro v2 w2 hO2 h2; have hX2 := (hX.alloc (.cells #[.string bBy] 9)).trans' h2 (fun i hi => .inr (own_ge hO i hi)); have k2 := cells_ext (Ext.refl [] w2) (hX2.read d2 (by simp)))
        go_loopw [3, 37] (fun v i wr => ∃ (k : Nat) (qs : List ByteArray), k ≤ ks.length ∧ i = .int .i64 k ∧ qs.length ≤ 20 + k ∧ wr.ownsRow W.heap.size 9 1 v qs.length (qs.map Value.string) ∧ Ext [] W wr ∧ Hid (qs = (ps ++ [bBy]) ++ (ks.take k).map (nameAt cs))) (fun v i _ => ks.length - (intOf i).toNat)
        case atStart => exact ⟨0, (ps ++ [bBy]), by omega, rfl, by first | omega | (rw [List.length_append]; simp; omega), (by rw [List.length_append, List.map_append]; exact hO2), hX2, by simp [Hid]⟩
        case round =>
          clear hO hX g1 g2 hO2 hX2 k2
          obtain ⟨k, qs, hk, rfl, hqs, hO, hX, hQ⟩ := hrel
          have g1 := cells_ext hX d1
          by_cases hlt2 : k < ks.length
          · obtain ⟨o2, K, rfl, hy, y0⟩ := (hK.ext (hE.trans hX) (by simp)).at k hlt2
            obtain ⟨hK0, hK1⟩ := hks K (List.mem_of_getElem? hy)
            obtain ⟨m, rfl⟩ : ∃ m : Nat, K = m := ⟨K.toNat, by omega⟩
            obtain ⟨o, N, K', rfl, hx, c0, -⟩ := (hC.ext (hE.trans hX) (by simp)).at m (by omega)
            have hQ2 : Hid (qs ++ [N] = (ps ++ [bBy]) ++ (ks.take (k + 1)).map (nameAt cs)) := by
              show _ = _
              rw [hQ.out, List.take_add_one, hy, List.map_append, List.append_assoc]
              congr 2
              simp [nameAt, hx]
            have hbm : (m : Int) < (cs.length : Int) := hK1
            clear hx hy hQ
            go_wp2_with (at_builtin; refine wpList_append_sl TStr rfl (.tmp 41) (.tmp 48) rfl rfl (hO.alloc _) rfl (Sl.one wr _ _) (by intro u hu; simp at hu; subst hu; rfl) (by unfold maxLen; omega) (by omega) (by have := hX.size; simp; omega) ?_; intro v' w3 hO' h3; have hX3 := (hX.alloc (.cells #[.string N] 9)).trans' h3 (fun i hi => .inr (own_ge hO i hi)))
            go_roundw
            case rel => exact ⟨k + 1, qs ++ [N], by omega, by go_num, by rw [List.length_append]; simp; omega, by rw [List.length_append, List.map_append]; exact hO', hX3, hQ2⟩
            case measure => simp [intOf]; omega
          · obtain rfl : k = ks.length := by omega
            rw [List.take_length] at hQ
            have hfin := hfin0 qs (by rw [hQ.out]; exact by rw [hP.out]; simp [tabParts, byParts, HK.out])
            obtain ⟨os, hS, -⟩ := Sl.of_own hO
            have hS' : Sl wr _ os 1 qs.length (qs.map Value.string) := hS
            have hj := Join_any wr _ os qs ⟨#[32]⟩ hS' (by omega) (by have := hfin.2; unfold L at this ⊢; simp only at this ⊢; omega)
            rw [show L ⟨#[32]⟩ = [32] from rfl] at hj
            obtain ⟨h1, h2⟩ := hfin
            have hsz : (B (Lib.join (qs.map L) [32])).size ≤ 1000 := h2
            generalize Lib.join (qs.map L) [32] = J at *
            clear hQ hS hS' hO
            go_wp2_with (go_at_call 38; (with_reducible refine hj.mono ?_); rintro e w1 ⟨rfl, x1⟩)
            go_ret
            exact ⟨by rw [h1]; rfl, (hE.trans hX).trans x1⟩
end Go.Proofs.YtjmfcjidhmaibaaGreatDoor
