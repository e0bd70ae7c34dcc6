
import Derived.Test.YtdiachkimgkkbaaOctG
import Derived.Test.YtdiachkimgkkbaaCrc
import Derived.Laws.BitsAllLaws
namespace Go.Proofs.Ytdiachkimgkkbaa
open Go.RowKit
set_option linter.unusedVariables false

theorem xor_u32 (a b : Nat) (ha : a < 4294967296) (hb : b < 4294967296) : bits .xor .u32 (a : Int) (b : Int) = ((a ^^^ b : Nat) : Int) := u32_xor_nat a b ha hb
theorem st_odd {r : Nat} (h : r < 4294967296) (h1 : r % 2 = 1) : bits .xor .u32 ((r : Int) / 2) 2197175160 = (st r : Nat) := by
  have := xor_u32 (r / 2) 2197175160 (by omega) (by decide)
  unfold st
  rw [if_pos h1, ← show (2197175160 : Nat) = poly from rfl, ← this]
  rfl
theorem st_even {r : Nat} (h1 : r % 2 = 0) : (r : Int) / 2 = (st r : Nat) := by
  unfold st
  rw [if_neg (by omega)]
  rfl
theorem low_bit (r : Nat) (h : r < 4294967296) : bits .and .u32 (r : Int) 1 = (r % 2 : Nat) := by
  rw [show (1 : Int) = ((1 : Nat) : Int) from rfl, u32_and_nat r 1 h (by decide), nat_mask1]

set_option maxHeartbeats 400000 in
theorem halved_any (w : World) (r : Nat) (h : r < 4294967296) :
    Calls Try.prog 88 #[.int .u32 (r : Int)] w fun e w' => e = .returned (.int .u32 (st r : Nat)) ∧ w = w' := by
  have hb := low_bit r h
  rcases Nat.mod_two_eq_zero_or_one r with h1 | h1
  · have e : (bits .and .u32 (r : Int) 1 == 0) = true := by rw [hb, h1]; rfl
    have hs := st_even h1
    have hs' := Lib.hid hs
    clear hb h1 hs
    go_enter Try.func88, Try.ntmps88
    go_wp2
    go_ret
    exact ⟨ret_int hs'.out, rfl⟩
  · have e : (bits .and .u32 (r : Int) 1 == 0) = false := by rw [hb, h1]; rfl
    have hs := st_odd h h1
    have hs' := Lib.hid hs
    clear hb h1 hs
    go_enter Try.func88, Try.ntmps88
    go_wp2
    go_ret
    exact ⟨ret_int hs'.out, rfl⟩

theorem zero_table (w : World) : (zeroValue 112).run Try.prog w = .ok (.agg (tab 0 0).toArray) w := by
  have h : (Try.prog.info? 112).map (·.zero) = some (some (.agg (tab 0 0).toArray)) := by kernel_rfl
  unfold zeroValue typeInfo
  cases hi : Try.prog.info? 112 with
  | none => simp [hi] at h
  | some i =>
    have : i.zero = some (.agg (tab 0 0).toArray) := by simpa [hi] using h
    simp [hi, this]

/-- guards for arms: the operation that stands next loads, or stores, a whole table -/
theorem at_load_table {P : Program} {ops : Array Oper} {rest : List Oper} {a : Act} {w : World} {Q : Exit → Act → World → Prop} {dst : Option Tmp} {x : Operand} {ty : TypeId} {pos : String} {after : Array Edge} {g : Option (Nat × Bool)}
    (h : wpList P ops Q ({ dst, op := .load 112 x, type := ty, pos, after, guard := g } :: rest) a w) :
    wpList P ops Q ({ dst, op := .load 112 x, type := ty, pos, after, guard := g } :: rest) a w := h
theorem at_store_table {P : Program} {ops : Array Oper} {rest : List Oper} {a : Act} {w : World} {Q : Exit → Act → World → Prop} {dst : Option Tmp} {x y : Operand} {ty : TypeId} {pos : String} {after : Array Edge} {g : Option (Nat × Bool)}
    (h : wpList P ops Q ({ dst, op := .store 112 x y, type := ty, pos, after, guard := g } :: rest) a w) :
    wpList P ops Q ({ dst, op := .store 112 x y, type := ty, pos, after, guard := g } :: rest) a w := h
theorem table_info : (Try.prog.info? 112).map (·.size) = some 256 := by kernel_rfl

set_option maxRecDepth 100000 in
set_option maxHeartbeats 400000 in
theorem steps_any (w : World) :
    Calls Try.prog 82 #[] w fun e w' => e = .returned (.agg (tab 8 0).toArray) ∧ Ext [] w w' := by
  have hz := zero_table
  generalize hT : tab 0 0 = T at hz
  have hT' := Lib.hid hT
  clear hT
  go_enter Try.func82, Try.ntmps82
  go_wp2
  clear hz
  have hE := ((Ext.refl [] w).alloc (Obj.cells T.toArray 112)).alloc (Obj.cells T.toArray 112)
  have hB2 := Blk.new (w.alloc (Obj.cells T.toArray 112)) T 112
  have hB1 := (Blk.new w T 112).ext ((Ext.refl [] (w.alloc (Obj.cells T.toArray 112))).alloc (Obj.cells T.toArray 112)) (by simp)
  rw [World.size_alloc] at hB2
  obtain rfl := hT'.out
  go_loopw [2, 6] (fun r i wr => ∃ k : Nat, k ≤ 8 ∧ r = .int .u32 (sts k 1 : Nat) ∧ i = .int .i64 k ∧ Blk wr w.heap.size 112 (tab 0 0) ∧ Blk wr (w.heap.size + 1) 112 (tab k 0) ∧ Ext [] w wr) (fun _ i _ => 8 - (intOf i).toNat)
  case atStart => exact ⟨0, by omega, rfl, rfl, hB1, hB2, hE⟩
  case round =>
    obtain ⟨k, hk, rfl, rfl, h1, h2, h3⟩ := hrel
    clear hE hB1 hB2
    by_cases hlt : k < 8
    · have hh := halved_any wr (sts k 1) (sts_lt _ (by decide))
      rw [← sts_snoc] at hh
      obtain ⟨H, hH, hH1, hH2⟩ : ∃ H : Nat, H = 2 ^ (7 - k) ∧ 1 ≤ H ∧ H ≤ 128 := ⟨_, rfl, Nat.pow_pos (by decide), by
        have := Nat.pow_le_pow_right (n := 2) (by decide) (show 7 - k ≤ 7 by omega); simpa using this⟩
      have hxl := sts_lt (k + 1) (r := 1) (by decide)
      have hdiv : (256 : Int) / 2 ^ (k + 1) = (H : Int) := by
        have e : (256 : Nat) / 2 ^ (k + 1) = H := by
          rw [hH, show (256 : Nat) = 2 ^ (7 - k) * 2 ^ (k + 1) by rw [← Nat.pow_add, show 7 - k + (k + 1) = 8 by omega]]
          exact Nat.mul_div_cancel _ (Nat.pow_pos (by decide))
        rw [← e]; simp
      have h8 : 2 ^ (8 - k) = 2 * H := by rw [hH, ← Nat.pow_succ']; congr 1; omega
      have h28 : 2 ^ k * 2 ^ (8 - k) = 256 := by rw [← Nat.pow_add, show k + (8 - k) = 8 by omega]
      have hst := fun m hm => tab_step k m hlt hm
      have hnx := tab_next k hlt
      have hXX := (rfl : sts (k + 1) 1 = sts (k + 1) 1)
      generalize hX : sts (k + 1) 1 = X at hh hst hxl hXX
      generalize sts k 1 = Y at *
      have HX := Lib.hid hX
      have HH := Lib.hid hH
      have H8 := Lib.hid h8
      have H28 := Lib.hid h28
      have HST := Lib.hid hst
      have HNX := Lib.hid hnx
      clear hX hH h8 h28 hst hnx hXX
      go_wp2_with (go_at_call 88; refine hh.mono ?_; rintro e w' ⟨rfl, rfl⟩)
      clear hdiv hh
      go_loopw [5] (fun i v => ∃ m q : Nat, m ≤ 2 ^ k ∧ Hid (q = m * 2 ^ (8 - k)) ∧ i = .int .i64 q ∧ Blk v w.heap.size 112 (tab 0 0) ∧ Blk v (w.heap.size + 1) 112 (tab k m) ∧ Ext [] w v) (fun i _ => 256 - (intOf i).toNat)
      case atStart => exact ⟨0, 0, Nat.zero_le _, Lib.hid (by simp), rfl, h1, h2, h3⟩
      case round =>
        obtain ⟨m, q, hm, hq, rfl, g1, g2, g3⟩ := hrel
        clear h1 h2 h3
        by_cases hlt2 : q < 256
        · have hm2 : m < 2 ^ k := by
            have : m * 2 ^ (8 - k) < 2 ^ k * 2 ^ (8 - k) := by rw [H28.out, ← hq.out]; exact hlt2
            exact Nat.lt_of_mul_lt_mul_right this
          obtain ⟨b1, b2, x, hx, hx1, hx2⟩ := HST.out m hm2 q (q + H) hq.out (by rw [hq.out, HH.out])
          have c1 : wr.cell? ⟨w.heap.size + 1, q, none⟩ = some (.int .u32 (x : Int)) := (g2.cell q).trans hx1
          obtain ⟨y, hy⟩ : ∃ y, wr.cell? ⟨w.heap.size + 1, q + H, none⟩ = some y := by
            rw [g2.cell]; exact ⟨_, List.getElem?_eq_getElem (by rw [tab_length]; omega)⟩
          have f1 : wr.frozen? ⟨w.heap.size + 1, q + H, none⟩ = false := g2.frozen _
          have hxor := xor_u32 x X hx hxl
          have g2' := g2.set (q + H) (.int .u32 ((x ^^^ X : Nat) : Int))
          rw [hx2] at g2'
          have HQ : Hid (q + 2 * H = (m + 1) * 2 ^ (8 - k)) := Lib.hid (by rw [Nat.add_mul, Nat.one_mul, ← hq.out, H8.out])
          clear hx1 hx2 g2 hq HST HNX H28 H8 HH
          go_wp2
          go_roundw
          case rel => exact ⟨m + 1, q + 2 * H, by omega, HQ, by go_num, g1.other _ (by simp) _, g2', g3.setCell (by simp) _⟩
          case measure => simp [intOf]; omega
        · have hm2 : m = 2 ^ k := by
            have : 2 ^ k * 2 ^ (8 - k) ≤ m * 2 ^ (8 - k) := by rw [H28.out, ← hq.out]; omega
            have := Nat.le_of_mul_le_mul_right this (Nat.pow_pos (by decide))
            omega
          subst hm2
          rw [HNX.out] at g2
          have hgt : (q : Int) < 256 → False := by omega
          clear hm hq HST HNX H28 H8 HH
          go_wp2
          go_roundw
          case rel => exact ⟨k + 1, by omega, by rw [HX.out], by go_num, g1, g2, g3⟩
          case measure => simp [intOf]; omega
    · obtain rfl : k = 8 := by omega
      have hl1 : (tab 0 0).length = 256 := tab_length _ _
      have hl2 : (tab 8 0).length = 256 := tab_length _ _
      have h1c : ∀ u ∈ tab 8 0, u.oneCell' = true := tab_one _ _
      obtain ⟨F, hF⟩ : ∃ F, F = tab 8 0 := ⟨_, rfl⟩
      rw [← hF] at h2 h1c hl2
      have hF' := Lib.hid hF
      clear hF
      generalize tab 0 0 = T at h1 hl1
      generalize sts 8 1 = X
      have hl1' := Lib.hid hl1
      have hl2' := Lib.hid hl2
      clear hl1 hl2
      go_wp2_with (first
        | ((with_reducible refine at_load_table ?_); refine wpList_load_row rfl _ _ rfl (w.heap.size + 1) rfl _ _ _ _ h2 Try.underlying112 rfl (by rw [table_info]; simp [hl2'.out]) ?_)
        | ((with_reducible refine at_store_table ?_); refine wpList_store_row rfl _ _ _ rfl w.heap.size _ rfl rfl _ _ h1 (by rw [table_info]; simp [hl2'.out]) (by simp [hl1'.out, hl2'.out]) (by simp; exact h1c) ?_))
      have hR : (wr.setRow w.heap.size F.toArray).heap[w.heap.size]? = some (.cells F.toArray 112 (0, 0)) := setRow_heap _ _ _ _ _ _ h1
      refine bodyPost_ret (results_cell_row (p := 0) rfl _ _ w.heap.size _ _ _ _ rfl hR Try.underlying112 rfl (by rw [table_info]; simp [hl2'.out])) rfl ⟨by rw [hF'.out], ?_⟩
      exact h3.trans' (X := []) (Y := [w.heap.size]) ⟨rfl, rfl, rfl, by simp [World.setRow], fun k hk hx => setRow_other _ _ _ _ (by simpa using hx)⟩ (by simp)

/-- the table's block: what steps made -/
def tableF : List Value := tab 8 0
theorem tableF_length : tableF.length = 256 := tab_length _ _
theorem tableF_at (j : Nat) (hj : j < 256) : tableF[j]? = some (.int .u32 (sts 8 j : Nat)) := by
  unfold tableF tab tabN
  rw [List.getElem?_map, List.getElem?_map, List.getElem?_range hj]
  simp only [Option.map_some, entry, UV]
  rw [if_pos (.inl (by simp [Nat.mod_one]))]

theorem closure_any (w : World) (r t : Nat) (R : Nat) (c : UInt8) (hR : R < 4294967296) (hr : Blk w r 92 [.int .u32 (R : Int)]) (ht : Blk w t 112 tableF) :
    Calls Try.prog 83 #[.int .u8 (c.toNat : Int), .pointer (some ⟨r, 0, none⟩), .pointer (some ⟨t, 0, none⟩)] w fun e w' => e = .returned (.tuple #[]) ∧ ∃ n, w' = (w.setCell ⟨r, 0, none⟩ (.int .u32 (take8 R c : Nat))).drewN n := by
  have c1 : w.cell? ⟨r, 0, none⟩ = some (.int .u32 (R : Int)) := hr.cell 0
  have f1 : w.frozen? ⟨r, 0, none⟩ = false := hr.frozen _
  have hc := c.toNat_lt
  have hJ : bits .xor .u8 ((R : Int) % 256) (c.toNat : Int) = ((R % 256 ^^^ c.toNat : Nat) : Int) := u8_xor_nat (R % 256) c.toNat (by omega) (by omega)
  have hJl : R % 256 ^^^ c.toNat < 256 := Nat.xor_lt_two_pow (n := 8) (by omega) (by omega)
  have hT := (ht.cell _).trans (tableF_at _ hJl)
  have hS := sts_lt 8 (show R % 256 ^^^ c.toNat < 4294967296 by omega)
  have hX := xor_u32 (R / 256) (sts 8 (R % 256 ^^^ c.toNat)) (by omega) hS
  rw [← take8_table] at hX
  have hX : bits .xor .u32 ((R : Int) / 256) (sts 8 (R % 256 ^^^ c.toNat) : Nat) = (take8 R c : Nat) := hX
  generalize take8 R c = X at *
  generalize sts 8 (R % 256 ^^^ c.toNat) = S at *
  generalize R % 256 ^^^ c.toNat = J at *
  generalize c.toNat = C at *
  have hJl : (J : Int) < 256 := by omega
  clear hr ht hc
  go_enter Try.func83, Try.ntmps83
  go_wp2
  go_region
  go_end0
  exact ⟨rfl, 1, rfl⟩

theorem not_u32 (a : Nat) (ha : a < 4294967296) : bits .xor .u32 4294967295 (a : Int) = ((ones ^^^ a : Nat) : Int) := u32_xor_nat 4294967295 a (by decide) ha

set_option maxRecDepth 100000 in
set_option maxHeartbeats 400000 in
theorem Sum32_any (w : World) (v : Value) (ob : Nat) (l : List UInt8) (h : Bs w v ob l) (hl : l.length ≤ 1000000) :
    Calls Try.prog 76 #[v] w fun e w' => e = .returned (.int .u32 (crc l : Nat)) ∧ Ext [] w w' := by
  obtain ⟨av, cv, rfl⟩ := h.shape
  have hz := zero_table
  have hs := steps_any w
  have hT : tab 8 0 = tableF := rfl
  rw [hT] at hs
  clear hT
  have hT1 : (tab 0 0).length = 256 := tab_length _ _
  have hF1 : tableF.length = 256 := tableF_length
  have hFc : ∀ u ∈ tableF, u.oneCell' = true := tab_one _ _
  obtain ⟨F, hF⟩ : ∃ F, F = tableF := ⟨_, rfl⟩
  rw [← hF] at hs hF1 hFc
  generalize tab 0 0 = T at *
  have hT1' := Lib.hid hT1
  have hF1' := Lib.hid hF1
  have hF' := Lib.hid hF
  clear hT1 hF1 hF
  go_enter Try.func76, Try.ntmps76
  go_wp2_with (first
    | (go_at_call 82; refine hs.mono ?_; rintro e w1 ⟨rfl, hE1⟩)
    | ((with_reducible refine at_store_table ?_); refine wpList_store_row rfl _ _ _ rfl w1.heap.size _ rfl rfl _ _ (Blk.new w1 T 112) (by rw [table_info]; simp [hF1'.out]) (by simp [hT1'.out, hF1'.out]) (by simp; exact hFc) ?_))
  have hE2 := ((Ext.refl [] w1).alloc (Obj.cells T.toArray 112))
  have hB1 : Blk ((w1.alloc (Obj.cells T.toArray 112)).setRow w1.heap.size F.toArray) w1.heap.size 112 F := setRow_heap _ _ _ _ _ _ (Blk.new w1 T 112)
  have hE3 : Ext [] w1 ((w1.alloc (Obj.cells T.toArray 112)).setRow w1.heap.size F.toArray) :=
    hE2.trans' (Y := [w1.heap.size]) ⟨rfl, rfl, rfl, by simp [World.setRow], fun k hk hx => setRow_other _ _ _ _ (by simpa using hx)⟩ (by simp)
  have hsz : ((w1.alloc (Obj.cells T.toArray 112)).setRow w1.heap.size F.toArray).heap.size = w1.heap.size + 1 := by simp [World.setRow]
  generalize (w1.alloc (Obj.cells T.toArray 112)).setRow w1.heap.size F.toArray = w2 at *
  have hE4 := (hE1.trans hE3).alloc (Obj.cells #[Value.int IntKind.u32 4294967295] 92)
  have hB2 := Blk.new w2 [Value.int IntKind.u32 4294967295] 92
  rw [hsz] at hB2
  have hB3 := hB1.ext ((Ext.refl [] w2).alloc (Obj.cells #[Value.int IntKind.u32 4294967295] 92)) (by simp)
  have hge := hE1.size
  clear hE2 hB1 hE3 hs hFc hT1' hF1' hE1 hsz
  generalize w1.heap.size = tb at *
  go_loopw [12] (fun i wr => ∃ k : Nat, k ≤ l.length ∧ i = .int .i64 k ∧ Blk wr tb 112 F ∧ Blk wr (tb + 1) 92 [.int .u32 (reg ones (l.take k) : Nat)] ∧ Ext [] w wr) (fun i _ => l.length - (intOf i).toNat)
  case atStart => exact ⟨0, Nat.zero_le _, rfl, hB3, hB2, hE4⟩
  case round =>
    obtain ⟨k, hk, rfl, g1, g2, g3⟩ := hrel
    clear hB3 hB2 hE4
    by_cases hlt : k < l.length
    · obtain ⟨o, x, rfl, hx, hc⟩ := (h.ext g3 (by simp)).at k hlt
      have hrl : reg ones (l.take k) < 4294967296 := reg_lt _ (by decide)
      have hcl := closure_any wr (tb + 1) tb _ x hrl g2 (by rw [← hF'.out]; exact g1)
      have htk : take8 (reg ones (l.take k)) x = reg ones (l.take (k + 1)) := by rw [List.take_add_one, hx, ← reg_snoc]; rfl
      rw [htk] at hcl
      have hset := g2.set 0 (.int .u32 (reg ones (l.take (k + 1)) : Nat))
      generalize hY : reg ones (l.take (k + 1)) = Y at *
      have HY := Lib.hid hY
      clear hY
      generalize reg ones (l.take k) = Z at *
      clear hx htk hrl
      go_wp2_with (go_at_call 83; refine hcl.mono ?_; rintro e w' ⟨rfl, n, rfl⟩)
      go_roundw
      case rel => exact ⟨k + 1, by omega, by go_num, (g1.other _ (by simp) _).drewN _, by rw [HY.out]; exact hset.drewN _, (g3.setCell (.inr (by show w.heap.size ≤ tb + 1; omega)) _).drewN _⟩
      case measure => simp [intOf]; omega
    · obtain rfl : k = l.length := by omega
      rw [List.take_of_length_le (Nat.le_refl _)] at g2
      have hrl : reg ones l < 4294967296 := reg_lt _ (by decide)
      have hn := not_u32 (reg ones l) hrl
      have hcr : ((ones ^^^ reg ones l : Nat) : Int) = (crc l : Nat) := rfl
      rw [hcr] at hn
      have c2 := g2.cell 0
      have hn' := Lib.hid hn
      clear hcr hn
      generalize reg ones l = Z at *
      go_wp2
      go_ret
      exact ⟨ret_int hn'.out, g3⟩
end Go.Proofs.Ytdiachkimgkkbaa