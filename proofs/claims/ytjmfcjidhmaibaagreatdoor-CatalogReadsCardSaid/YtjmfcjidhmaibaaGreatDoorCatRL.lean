
/-
  The reference of catalogs: Line, Print.
-/
import Derived.Test.YtjmfcjidhmaibaaGreatDoorCatS
import Derived.Test.YtjmfcjidhmaibaaGreatDoorCatP
namespace Go.Proofs.YtjmfcjidhmaibaaGreatDoor
open Go.RowKit
open Go.Lib hiding intOf
set_option linter.unusedVariables false

theorem joinS (x : List UInt8) (r : List (List UInt8)) (y : List UInt8) : join ((x :: r) ++ [y]) [32] = join (x :: r) [32] ++ ([32] ++ y) := by
  rw [List.cons_append, join_cons, join_cons, List.append_assoc]
  congr 1
  simp [joinTail]
theorem joinS' {r : List (List UInt8)} (h : r ≠ []) (y : List UInt8) : join (r ++ [y]) [32] = join r [32] ++ ([32] ++ y) := by
  cases r with
  | nil => exact absurd rfl h
  | cons x r => exact joinS x r y
/-- what stands of the line behind k columns -/
def lineC (n : ByteArray) (cs : List Col) : List UInt8 := join (([bTable, n] ++ colParts cs).map L) [32]
theorem lineC_nil (n : ByteArray) : lineC n [] = [116, 97, 98, 108, 101, 32] ++ L n := by
  unfold lineC
  show join ([L bTable] ++ [L n]) [32] = _
  rw [joinS, join_one]
  simp [L, bTable]
theorem lineC_succ {n : ByteArray} {cs : List Col} {k : Nat} {c : Col} (h : cs[k]? = some c) : lineC n (cs.take (k + 1)) = lineC n (cs.take k) ++ ([32] ++ (L c.n ++ ([32] ++ kw c.k))) := by
  unfold lineC
  rw [colParts_succ h, ← List.append_assoc, List.map_append]
  show join (_ ++ ([L c.n] ++ [kw c.k])) [32] = _
  rw [← List.append_assoc, joinS' (by simp), joinS' (by simp)]
  simp
/-- and behind j keys -/
def lineK (n : ByteArray) (cs : List Col) (ks : List Int) : List UInt8 := join (([bTable, n] ++ colParts cs ++ byParts ks ++ ks.map (nameAt cs)).map L) [32]
theorem lineK_nil (n : ByteArray) (cs : List Col) : lineK n cs [] = lineC n cs := by unfold lineK lineC byParts; simp
theorem lineK_succ {n : ByteArray} {cs : List Col} {ks : List Int} {j : Nat} {K : Int} {c : Col} (h : ks[j]? = some K) (hc : cs[K.toNat]? = some c) :
    lineK n cs (ks.take (j + 1)) = lineK n cs (ks.take j) ++ ((if j = 0 then [32, 98, 121] else []) ++ ([32] ++ L c.n)) := by
  have hj : j < ks.length := (List.getElem?_eq_some_iff.1 h).1
  have hn : nameAt cs K = c.n := by unfold nameAt; rw [hc]; rfl
  unfold lineK
  rw [List.take_add_one, h]
  by_cases h0 : j = 0
  · subst h0
    rw [if_pos rfl]
    show join ((([bTable, n] ++ colParts cs ++ byParts ([] ++ [K])) ++ [nameAt cs K]).map L) [32] = join ((([bTable, n] ++ colParts cs ++ []) ++ []).map L) [32] ++ _
    have e : byParts ([] ++ [K]) = [bBy] := rfl
    rw [e, hn, List.map_append]
    show join ((([bTable, n] ++ colParts cs) ++ [bBy]).map L ++ [L c.n]) [32] = _
    rw [joinS' (by simp), List.map_append]
    show join (([bTable, n] ++ colParts cs).map L ++ [[98, 121]]) [32] ++ _ = _
    rw [joinS' (by simp), List.append_nil, List.append_nil]
    simp
  · rw [if_neg h0]
    have e1 : byParts (ks.take j ++ (some K).toList) = byParts (ks.take j) := by
      unfold byParts
      rw [if_neg (by simp), if_neg]
      intro e
      have := congrArg List.length e
      simp only [List.length_take, List.length_nil] at this
      omega
    rw [e1]
    have e2 : (([bTable, n] ++ colParts cs ++ byParts (ks.take j) ++ (ks.take j ++ (some K).toList).map (nameAt cs)).map L) = ([bTable, n] ++ colParts cs ++ byParts (ks.take j) ++ (ks.take j).map (nameAt cs)).map L ++ [L (nameAt cs K)] := by simp
    rw [e2, joinS' (by simp), hn]
    rfl
theorem lineB_eq (n : ByteArray) (cs : List Col) (ks : List Int) : lineB ⟨n, cs, ks⟩ = lineK n cs ks ++ [10] := rfl
set_option maxRecDepth 100000 in
set_option maxHeartbeats 4000000 in
theorem rLine_any (w : World) (t : Tab) (a1 : Option Addr) (c1 : Nat) (a2 : Option Addr) (c2 : Nat) (oc ok : Nat) (hC : Cs w (.slice a1 t.cols.length c1) oc t.cols) (hK : Is w (.slice a2 t.keys.length c2) ok t.keys) (hT : isTab t = true) :
    Calls Tryz.prog 22 #[TV t.n (.slice a1 t.cols.length c1) (.slice a2 t.keys.length c2)] w fun e w' => e = .returned (.string (B (lineB t))) ∧ Ext [] w w' := by
  obtain ⟨n4, k4⟩ := tab_small hT
  have hks := Lib.hid (tab_keys hT)
  have hcs := Lib.hid (fun c hc => name_len (col_name (tab_cols hT c hc)))
  have hn := name_len (tab_name hT)
  clear hT
  obtain ⟨n, cs, ks⟩ := t
  dsimp only at *
  have hn : n.size ≤ 16 := hn
  have hE := (Ext.refl [] w).alloc (.cells #[.string n, .slice a1 cs.length c1, .slice a2 ks.length c2] 41)
  have d0 := new_cells w [.string n, .slice a1 cs.length c1, .slice a2 ks.length c2] 41 0 _ rfl
  have d1 := new_cells w [.string n, .slice a1 cs.length c1, .slice a2 ks.length c2] 41 1 _ rfl
  have d2 := new_cells w [.string n, .slice a1 cs.length c1, .slice a2 ks.length c2] 41 2 _ rfl
  have e0 : (⟨#[116, 97, 98, 108, 101, 32]⟩ : ByteArray) ++ n = B ([116, 97, 98, 108, 101, 32] ++ L n) := L_inj.1 (by rw [L_append, L_B]; rfl)
  have z0 : (B ([116, 97, 98, 108, 101, 32] ++ L n)).size = n.size + 6 := by show ([116, 97, 98, 108, 101, 32] ++ L n).length = _; rw [size_L]; simp
  have H0 : Hid ([116, 97, 98, 108, 101, 32] ++ L n = lineC n (cs.take 0)) := (lineC_nil n).symm
  generalize [116, 97, 98, 108, 101, 32] ++ L n = x0 at *
  go_enter Tryz.func22, Tryz.ntmps22
  go_upto_region 1 with (fail)
  generalize w.alloc (.cells #[.string n, .slice a1 cs.length c1, .slice a2 ks.length c2] 41) = W at *
  generalize w.heap.size = b at *
  go_wp2_with (fail)
  go_loopw [3, 4] (fun s i wr => ∃ (k : Nat) (tx : List UInt8), k ≤ cs.length ∧ s = .string (B tx) ∧ i = .int .i64 k ∧ (B tx).size ≤ 40 + 60 * k ∧ Ext [] W wr ∧ Hid (tx = lineC n (cs.take k))) (fun s i _ => cs.length - (intOf i).toNat)
  case atStart => exact ⟨0, _, by omega, rfl, rfl, by omega, Ext.refl _ _, H0⟩
  case round =>
    obtain ⟨k, tx, hk, rfl, rfl, hz, hX, hS⟩ := hrel
    have g1 := cells_ext hX d1
    have g2 := cells_ext hX d2
    by_cases hlt : k < cs.length
    · obtain ⟨o, N, K, rfl, hx, p0, p1⟩ := (hC.ext (hE.trans hX) (by simp)).at k hlt
      have nw : ∀ m, Calls Tryz.prog 40 #[.int .i64 K] (wr.drewN m) fun e w' => e = .returned (.string (B (kw K))) ∧ w' = wr.drewN m := fun m => (Word_any _ K).mono (fun e w' h => ⟨h.1, h.2.symm⟩)
      have hN := hcs.out _ (List.mem_of_getElem? hx)
      have hKl := kw_len K
      have hN : N.size ≤ 16 := hN
      have hsc := lineC_succ (n := n) hx
      rw [← hS.out] at hsc
      generalize kw K = y at *
      obtain ⟨x1, h1⟩ : ∃ x1, tx ++ [32] = x1 := ⟨_, rfl⟩
      obtain ⟨x2, h2⟩ : ∃ x2, x1 ++ L N = x2 := ⟨_, rfl⟩
      obtain ⟨x3, h3⟩ : ∃ x3, x2 ++ [32] = x3 := ⟨_, rfl⟩
      obtain ⟨x4, h4⟩ : ∃ x4, x3 ++ y = x4 := ⟨_, rfl⟩
      have HS : Hid (x4 = lineC n (cs.take (k + 1))) := by show _ = _; rw [hsc, ← h4, ← h3, ← h2, ← h1]; simp
      have ha1 : B tx ++ ⟨#[32]⟩ = B x1 := L_inj.1 (by rw [L_append, L_B, L_B, ← h1]; rfl)
      have ha2 : B x1 ++ N = B x2 := L_inj.1 (by rw [L_append, L_B, L_B, h2])
      have ha3 : B x2 ++ ⟨#[32]⟩ = B x3 := L_inj.1 (by rw [L_append, L_B, L_B, ← h3]; rfl)
      have ha4 : B x3 ++ B y = B x4 := L_inj.1 (by rw [L_append, L_B, L_B, L_B, h4])
      have hs1 : (B x1).size = (B tx).size + 1 := by show x1.length = tx.length + 1; rw [← h1]; simp
      have hs2 : (B x2).size = (B x1).size + N.size := by show x2.length = x1.length + (L N).length; rw [← h2]; simp
      have hs3 : (B x3).size = (B x2).size + 1 := by show x3.length = x2.length + 1; rw [← h3]; simp
      have hs4 : (B x4).size = (B x3).size + y.length := by show x4.length = x3.length + y.length; rw [← h4]; simp
      have hs5 : (B y).size = y.length := rfl
      have b1 : ¬ (9223372036854775807 < (B tx).size + 1) := by omega
      have b2 : ¬ (9223372036854775807 < (B x1).size + N.size) := by omega
      have b3 : ¬ (9223372036854775807 < (B x2).size + 1) := by omega
      have b4 : ¬ (9223372036854775807 < (B x3).size + (B y).size) := by omega
      have HZ : Hid ((B x4).size ≤ 40 + 60 * (k + 1)) := by show _ ≤ _; omega
      clear hs1 hs2 hs3 hs4 hs5 hz hS hx hsc h1 h2 h3 h4
      go_upto_region 5 with (fail)
      go_quiet ((go_at_call 40; exact Calls.quiet_of_same (nw _)))
      go_wp2_with (fail)
      go_roundw
      case rel => exact ⟨k + 1, x4, by omega, rfl, by go_num, HZ.out, hX.drewN _, HS⟩
      case measure => simp [intOf]; omega
    · obtain rfl : k = cs.length := by omega
      have HK : Hid (tx = lineK n cs (ks.take 0)) := by
        show _ = _
        rw [List.take_zero, lineK_nil, hS.out, List.take_length]
      clear hS
      go_wp2_with (fail)
      go_loopw [3, 5] (fun s i vr => ∃ (j : Nat) (ty : List UInt8), j ≤ ks.length ∧ s = .string (B ty) ∧ i = .int .i64 j ∧ (B ty).size ≤ 400 + 60 * j ∧ Ext [] wr vr ∧ Hid (ty = lineK n cs (ks.take j))) (fun s i _ => ks.length - (intOf i).toNat)
      case atStart => exact ⟨0, _, by omega, rfl, rfl, by omega, Ext.refl _ _, HK⟩
      case round =>
        obtain ⟨j, ty, hj, rfl, rfl, hz, hZ, hS⟩ := hrel
        have g1 := cells_ext hZ g1
        have g2 := cells_ext hZ g2
        by_cases hlt : j < ks.length
        · obtain ⟨o2, K, rfl, hy, y0⟩ := (hK.ext ((hE.trans hX).trans hZ) (by simp)).at j hlt
          obtain ⟨hK0, hK1⟩ := hks.out K (List.mem_of_getElem? hy)
          obtain ⟨m, rfl⟩ : ∃ m : Nat, K = m := ⟨K.toNat, by omega⟩
          obtain ⟨o, N, K, rfl, hx, p0, -⟩ := (hC.ext ((hE.trans hX).trans hZ) (by simp)).at m (by omega)
          have hN := hcs.out _ (List.mem_of_getElem? hx)
          have hN : N.size ≤ 16 := hN
          have hsucc := lineK_succ (n := n) hy hx
          rw [← hS.out] at hsucc
          by_cases h0 : j = 0
          · rw [if_pos h0] at hsucc
            have HS : Hid (ty ++ ([32, 98, 121] ++ ([32] ++ L N)) = lineK n cs (ks.take (j + 1))) := hsucc.symm
            have q0 : ((j : Int) == 0) = true := by simp; omega
            have ha1 : B ty ++ ⟨#[32, 98, 121]⟩ = B (ty ++ [32, 98, 121]) := L_inj.1 (by rw [L_append, L_B, L_B]; rfl)
            have ha2 : B (ty ++ [32, 98, 121]) ++ ⟨#[32]⟩ = B (ty ++ [32, 98, 121, 32]) := L_inj.1 (by rw [L_append, L_B, L_B]; simp [L])
            have ha3 : B (ty ++ [32, 98, 121, 32]) ++ N = B (ty ++ ([32, 98, 121] ++ ([32] ++ L N))) := L_inj.1 (by rw [L_append, L_B, L_B]; simp)
            have hs1 : (B (ty ++ [32, 98, 121])).size = (B ty).size + 3 := by show (ty ++ [32, 98, 121]).length = ty.length + 3; simp
            have hs2 : (B (ty ++ [32, 98, 121, 32])).size = (B ty).size + 4 := by show (ty ++ [32, 98, 121, 32]).length = ty.length + 4; simp
            have hs3 : (B (ty ++ ([32, 98, 121] ++ ([32] ++ L N)))).size = (B ty).size + 4 + N.size := by show (ty ++ ([32, 98, 121] ++ ([32] ++ L N))).length = ty.length + 4 + (L N).length; simp; omega
            clear hS hsucc hx hy h0
            go_upto_region 11 with (fail)
            go_quiet (fail)
            go_wp2_with (fail)
            go_roundw
            case rel => exact ⟨j + 1, ty ++ ([32, 98, 121] ++ ([32] ++ L N)), by omega, rfl, by go_num, by omega, hZ.drewN _, HS⟩
            case measure => simp [intOf]; omega
          · rw [if_neg h0, List.nil_append] at hsucc
            have HS : Hid (ty ++ ([32] ++ L N) = lineK n cs (ks.take (j + 1))) := hsucc.symm
            have q0 : ((j : Int) == 0) = false := by simp; omega
            have ha2 : B ty ++ ⟨#[32]⟩ = B (ty ++ [32]) := L_inj.1 (by rw [L_append, L_B, L_B]; rfl)
            have ha3 : B (ty ++ [32]) ++ N = B (ty ++ ([32] ++ L N)) := L_inj.1 (by rw [L_append, L_B, L_B]; simp)
            have hs2 : (B (ty ++ [32])).size = (B ty).size + 1 := by show (ty ++ [32]).length = ty.length + 1; simp
            have hs3 : (B (ty ++ ([32] ++ L N))).size = (B ty).size + 1 + N.size := by show (ty ++ ([32] ++ L N)).length = ty.length + 1 + (L N).length; simp; omega
            clear hS hsucc hx hy
            go_upto_region 11 with (fail)
            go_quiet (fail)
            go_wp2_with (fail)
            go_roundw
            case rel => exact ⟨j + 1, ty ++ ([32] ++ L N), by omega, rfl, by go_num, by omega, hZ.drewN _, HS⟩
            case measure => simp [intOf]; omega
        · obtain rfl : j = ks.length := by omega
          have HS : Hid (ty = lineK n cs ks) := by show _ = _; rw [hS.out, List.take_length]
          have ha1 : B ty ++ ⟨#[10]⟩ = B (ty ++ [10]) := L_inj.1 (by rw [L_append, L_B, L_B]; rfl)
          clear hS
          go_wp2_with (fail)
          go_ret
          refine ⟨?_, (hE.trans hX).trans hZ⟩
          rw [lineB_eq, ← HS.out]
          rfl
set_option maxRecDepth 100000 in
set_option maxHeartbeats 2000000 in
theorem rPrint_any (w : World) (v : Value) (l : List Tab) (hC : Ts w v l) (hI : isCat l = true) :
    Calls Tryz.prog 9 #[KV v] w fun e w' => e = .returned (.string (B (printC l))) ∧ Ext [] w w' := by
  have hl4 := cat_len hI
  have hts := Lib.hid (cat_tab hI)
  clear hI
  obtain ⟨a, c, rfl⟩ := hC.shape
  have hE := (Ext.refl [] w).alloc (.cells #[.slice a l.length c] 24)
  have c0 := new_cells w [.slice a l.length c] 24 0 _ rfl
  go_enter Tryz.func9, Tryz.ntmps9
  go_upto_region 1 with (fail)
  generalize w.alloc (.cells #[.slice a l.length c] 24) = W at *
  generalize w.heap.size = b at *
  go_wp2_with (fail)
  go_loopw [3, 4] (fun s i wr => ∃ (k : Nat) (tx : List UInt8), k ≤ l.length ∧ s = .string (B tx) ∧ i = .int .i64 k ∧ (B tx).size ≤ 301 * k ∧ Ext [] W wr ∧ Hid (tx = printC (l.take k))) (fun s i _ => l.length - (intOf i).toNat)
  case atStart => exact ⟨0, [], by omega, rfl, rfl, by decide, Ext.refl _ _, rfl⟩
  case round =>
    obtain ⟨k, tx, hk, rfl, rfl, hz, hX, hS⟩ := hrel
    have c1 := cells_ext hX c0
    by_cases hlt : k < l.length
    · have hx : l[k]? = some l[k] := List.getElem?_eq_getElem hlt
      obtain ⟨ob, o, a1, m1, a2, m2, rfl, p0, p1, p2, ⟨oc, q1⟩, ok, q2⟩ := (hC.ext (hE.trans hX)).at k _ hx
      have hbt := hts.out _ (List.mem_of_getElem? hx)
      have hps := printC_succ hx
      have hw := lineB_len hbt
      generalize l[k] = t at *
      have rl := rLine_any wr t a1 m1 a2 m2 oc ok q1 q2 hbt
      rw [← hS.out] at hps
      have HS : Hid (tx ++ lineB t = printC (l.take (k + 1))) := hps.symm
      generalize lineB t = y at *
      have ha : B tx ++ B y = B (tx ++ y) := L_inj.1 (by rw [L_append, L_B, L_B, L_B])
      have hs1 : (B y).size = y.length := rfl
      have hs2 : (B (tx ++ y)).size = (B tx).size + y.length := by show (tx ++ y).length = tx.length + y.length; simp
      clear hx hS hps hbt q1 q2
      go_wp2_with (go_at_call 22; (with_reducible refine rl.mono ?_); rintro e v1 ⟨rfl, y1⟩)
      go_roundw
      case rel => exact ⟨k + 1, tx ++ y, by omega, rfl, by go_num, by omega, hX.trans y1, HS⟩
      case measure => simp [intOf]; omega
    · obtain rfl : k = l.length := by omega
      have HS : Hid (tx = printC l) := by show _ = _; rw [hS.out, List.take_length]
      clear hS
      go_wp2_with (fail)
      go_ret
      exact ⟨by rw [← HS.out]; rfl, hE.trans hX⟩
end Go.Proofs.YtjmfcjidhmaibaaGreatDoor
