
/-
  NetTells's round: two nets in memory of their own.
-/
import Derived.Test.YtdiachkimgkkbaaNetTW
import Derived.Test.YtdiachkimgkkbaaNetW
namespace Go.Proofs.Ytdiachkimgkkbaa
open Go.RowKit
open Go.Lib hiding intOf
set_option linter.unusedVariables false
set_option linter.unusedSimpArgs false
theorem HeldBut.each {P : Program} {ops : Array Oper} {Q : Exit → Act → World → Prop} {md : Region.Mode} {S : World → Prop} {D : List Nat} {n : Nat} {listed : Array Bool} {a : Act} {w : World} (l : List Nat) (hr : Region.ready md ops listed = l) (hne : l.isEmpty = false)
    (h : ∀ i ∈ l, wpOp P ops Q i (fun b u => (i ∉ D → S u) ∧ HeldBut P md ops Q S D n (listed.setIfInBounds i true) b u) a w) : HeldBut P md ops Q S D (n + 1) listed a w :=
  ⟨fun h0 => (by rw [hr] at h0; subst h0; cases hne), fun j hj => (by rw [hr] at hj; exact h j hj)⟩
theorem keep4 {u u' : World} {pb ob o s s0 : Nat} {v v0 : Value} {X : List Nat} (h : u.cell? ⟨pb, 0, none⟩ = some (.int .u64 (s : Int)) ∧ u.cell? ⟨pb, 1, none⟩ = some v ∧ u.cell? ⟨ob, o, none⟩ = some (.int .u64 (s0 : Int)) ∧ u.cell? ⟨ob, o + 1, none⟩ = some v0) (e : Ext X u u') (h1 : pb ∉ X) (h2 : ob ∉ X) :
    u'.cell? ⟨pb, 0, none⟩ = some (.int .u64 (s : Int)) ∧ u'.cell? ⟨pb, 1, none⟩ = some v ∧ u'.cell? ⟨ob, o, none⟩ = some (.int .u64 (s0 : Int)) ∧ u'.cell? ⟨ob, o + 1, none⟩ = some v0 :=
  ⟨e.read h.1 h1, e.read h.2.1 h1, e.read h.2.2.1 h2, e.read h.2.2.2 h2⟩
theorem getS6 {A B C D E F : Prop} {X : Prop} (h : (A ∧ B) ∧ (C ∧ D) ∧ (E ∧ F) ∧ X) : X := h.2.2.2
theorem keep6 {w0 u u' : World} {b9 b10 pb : Nat} {v1 v2 v3 v4 v5 v6 : Value} (h : (u.cell? ⟨b9, 0, none⟩ = some v1 ∧ u.cell? ⟨b9, 1, none⟩ = some v2) ∧ (u.cell? ⟨b10, 0, none⟩ = some v3 ∧ u.cell? ⟨b10, 1, none⟩ = some v4) ∧ (u.cell? ⟨pb, 0, none⟩ = some v5 ∧ u.cell? ⟨pb, 1, none⟩ = some v6) ∧ Ext [] w0 u) (e : Ext [] u u') :
    (u'.cell? ⟨b9, 0, none⟩ = some v1 ∧ u'.cell? ⟨b9, 1, none⟩ = some v2) ∧ (u'.cell? ⟨b10, 0, none⟩ = some v3 ∧ u'.cell? ⟨b10, 1, none⟩ = some v4) ∧ (u'.cell? ⟨pb, 0, none⟩ = some v5 ∧ u'.cell? ⟨pb, 1, none⟩ = some v6) ∧ Ext [] w0 u' :=
  ⟨⟨cells_ext e h.1.1, cells_ext e h.1.2⟩, ⟨cells_ext e h.2.1.1, cells_ext e h.2.1.2⟩, ⟨cells_ext e h.2.2.1.1, cells_ext e h.2.2.1.2⟩, h.2.2.2.trans e⟩
theorem cell_lt {w : World} {b i : Nat} {u : Value} (h : w.cell? ⟨b, i, none⟩ = some u) : b < w.heap.size := World.block_lt_of_cell? _ _ h
set_option maxRecDepth 100000 in
set_option maxHeartbeats 4000000 in
theorem walkTells (w : World) (a : Option Addr) (c : Nat) (L : List NX) (a1 : Option Addr) (c1 : Nat) (l1 : List Int) (a2 : Option Addr) (c2 : Nat) (l2 : List Int) (hN : Ns w a L) (hL : L.length ≤ maxLen) (hZ1 : Zs w a1 l1) (hl1 : l1.length ≤ maxLen) (hZ2 : Zs w a2 l2) (hl2 : l2.length ≤ maxLen) :
    Calls Try.prog 4 #[.slice a L.length c, .slice a1 l1.length c1, .slice a2 l2.length c2] w fun e w' => e = .returned (.bool true) ∧ Below w.heap.size w w' := by
  unfold maxLen at hL hl1 hl2
  go_enter Try.func4, Try.ntmps4
  go_wp2_with (go_at_call 10; (with_reducible refine (wakes_any _).mono ?_); rintro e w1 ⟨rfl, x1⟩)
  go_loopw [26] (fun i wr => ∃ k : Nat, k ≤ L.length ∧ i = .int .i64 (k : Int) ∧ Ext [] w wr) (fun i _ => L.length - (intOf i).toNat)
  case atStart => exact ⟨0, by omega, rfl, x1⟩
  case round =>
    obtain ⟨k, hk, rfl, hX⟩ := hrel
    clear x1
    by_cases hlt : k < L.length
    · obtain ⟨⟨s, v, l⟩, hx⟩ : ∃ x, L[k]? = some x := ⟨_, List.getElem?_eq_getElem hlt⟩
      obtain ⟨⟨s0, v0, l0⟩, hx0⟩ : ∃ x, L[0]? = some x := ⟨_, List.getElem?_eq_getElem (by omega)⟩
      obtain ⟨ob, o, rfl, e0, e1, hP⟩ := (hN.ext hX) k _ hx
      obtain ⟨ob', o', hoo, f0, f1, hP0⟩ := (hN.ext hX) 0 _ hx0
      simp only [Option.some.injEq, Addr.mk.injEq, and_true] at hoo
      obtain ⟨rfl, rfl⟩ := hoo
      dsimp only at e0 e1 f0 f1 hP hP0
      obtain ⟨av, cv, rfl⟩ := hP.shape
      obtain ⟨av0, cv0, rfl⟩ := hP0.shape
      simp only [Nat.zero_mul, Nat.add_zero] at f0 f1
      have y1 := (Ext.refl [] wr).alloc (.cells #[.int .u64 (s : Int), .slice av l.length cv] 25)
      have b8 := Blk.new wr [.int .u64 (s : Int), .slice av l.length cv] 25
      have f0 := cells_ext y1 f0
      have f1 := cells_ext y1 f1
      have hP := hP.ext y1
      have hP0 := hP0.ext y1
      have hXr := hX
      have hX := hX.trans y1
      clear hx hx0
      by_cases hk6 : k = 6
      · subst hk6
        go_wp2_with (fail)
        go_ret
        exact ⟨rfl, hX.below⟩
      · have hk6' : ((k : Int) == 6) = false := by rw [beq_eq_false_iff_ne]; omega
        go_upto_region 7 with (fail)
        clear e0 e1
        generalize wr.alloc (.cells #[.int .u64 (s : Int), .slice av l.length cv] 25) = W at *
        generalize wr.heap.size = pb at *
        go_cut [9, 10] (fun s9 s10 wx => ∃ (b9 b10 : Nat) (v9 v10 : Value), s9 = pt b9 ∧ s10 = pt b10 ∧ Ext [] W wx ∧ Blk wx b9 25 [.int .u64 (s : Int), v9] ∧ Blk wx b10 25 [.int .u64 (s0 : Int), v10] ∧ Ps wx v9 (shortL l) ∧ Ps wx v10 (shortL l0))
        case first =>
          have hS0 : (W.drew.cell? ⟨pb, 0, none⟩ = some (.int .u64 (s : Int)) ∧ W.drew.cell? ⟨pb, 1, none⟩ = some (.slice av l.length cv) ∧ W.drew.cell? ⟨ob, o, none⟩ = some (.int .u64 (s0 : Int)) ∧ W.drew.cell? ⟨ob, o + 1, none⟩ = some (.slice av0 l0.length cv0)) := by
            obtain ⟨g0, g1⟩ := b8.c2
            exact ⟨g0, g1, f0, f1⟩
          have hL0 : (0 : Int) < (L.length : Int) := by omega
          have hL0' : 0 < L.length := by omega
          have hL0'' : ((0 : Int) == (L.length : Int)) = false := by rw [beq_eq_false_iff_ne]; omega
          have hPd := hP
          have hP0d := hP0
          have xU := (Ext.refl [] W).drew
          have hpl := b8.lt
          have hol := cell_lt f0
          refine region_but (fun u => (u.cell? ⟨pb, 0, none⟩ = some (.int .u64 (s : Int)) ∧ u.cell? ⟨pb, 1, none⟩ = some (.slice av l.length cv) ∧ u.cell? ⟨ob, o, none⟩ = some (.int .u64 (s0 : Int)) ∧ u.cell? ⟨ob, o + 1, none⟩ = some (.slice av0 l0.length cv0))) [] 10 rfl (by kernel_rfl) ?_
          clear b8 f0 f1 hP hP0
          generalize W.drew = D0 at *
          refine HeldBut.take (i := 0) (v := ?_) rfl (by kernel_rfl) (by kernel_rfl) (by kernel_rfl) (by kernel_rfl) (fun _ _ _ h => h) (Or.inl ⟨by kernel_rfl, ?_⟩) hS0 ?_; rotate_left 1; (focus (intro u hu; (try dsimp only at hu); go_simp; try with_reducible rfl))
          try simp only [Act.put, List.getElem_toArray, List.getElem_cons_zero, List.getElem_cons_succ, List.setIfInBounds_toArray, List.set_cons_zero, List.set_cons_succ]
          refine HeldBut.take (i := 2) (v := ?_) rfl (by kernel_rfl) (by kernel_rfl) (by kernel_rfl) (by kernel_rfl) (fun _ _ _ h => h) (Or.inl ⟨by kernel_rfl, ?_⟩) hS0 ?_; rotate_left 1; (focus (intro u hu; (try dsimp only at hu); go_simp; try with_reducible rfl))
          try simp only [Act.put, List.getElem_toArray, List.getElem_cons_zero, List.getElem_cons_succ, List.setIfInBounds_toArray, List.set_cons_zero, List.set_cons_succ]
          refine HeldBut.take (i := 3) (v := ?_) rfl (by kernel_rfl) (by kernel_rfl) (by kernel_rfl) (by kernel_rfl) (fun _ _ _ h => h) (Or.inl ⟨by kernel_rfl, ?_⟩) hS0 ?_; rotate_left 1; (focus (intro u hu; (try dsimp only at hu); go_simp; try with_reducible rfl))
          try simp only [Act.put, List.getElem_toArray, List.getElem_cons_zero, List.getElem_cons_succ, List.setIfInBounds_toArray, List.set_cons_zero, List.set_cons_succ]
          refine HeldBut.take (i := 4) (v := ?_) rfl (by kernel_rfl) (by kernel_rfl) (by kernel_rfl) (by kernel_rfl) (fun _ _ _ h => h) (Or.inl ⟨by kernel_rfl, ?_⟩) hS0 ?_; rotate_left 1; (focus (intro u hu; (try dsimp only at hu); go_simp; try with_reducible rfl))
          try simp only [Act.put, List.getElem_toArray, List.getElem_cons_zero, List.getElem_cons_succ, List.setIfInBounds_toArray, List.set_cons_zero, List.set_cons_succ]
          refine HeldBut.each [1, 6, 7] (by kernel_rfl) rfl ?_
          intro i hi; simp only [List.mem_cons, List.mem_nil_iff, or_false] at hi; rcases hi with rfl | rfl | rfl
          · refine HeldBut.step (i := 1) rfl (fun K hK => ?_)
            try simp only [List.getElem_toArray, List.getElem_cons_zero, List.getElem_cons_succ]
            go_simp
            go_at_call 11
            (with_reducible refine (short_any _ _ _ _ (hPd.ext xU)).mono ?_)
            rintro e w9 ⟨v1, rs9, ⟨a9, n9, c9, rfl⟩, rfl, hO9, x1⟩
            dsimp only
            have hS1 := keep4 hS0 x1 (by simp) (by simp)
            refine hK.out _ _ (fun _ => hS1) ?_; clear hK K
            try simp only [Act.put, List.getElem_toArray, List.getElem_cons_zero, List.getElem_cons_succ, List.setIfInBounds_toArray, List.set_cons_zero, List.set_cons_succ]
            have xU := xU.trans x1
            clear hS0 x1
            have hS0 := hS1; clear hS1
            refine HeldBut.each [5, 6, 7] (by kernel_rfl) rfl ?_
            intro i hi; simp only [List.mem_cons, List.mem_nil_iff, or_false] at hi; rcases hi with rfl | rfl | rfl
            · refine HeldBut.step (i := 5) rfl (fun K hK => ?_)
              try simp only [List.getElem_toArray, List.getElem_cons_zero, List.getElem_cons_succ]
              go_simp
              go_at_call 11
              (with_reducible refine (short_any _ _ _ _ (hP0d.ext xU)).mono ?_)
              rintro e w10 ⟨v1, rs10, ⟨a10, n10, c10, rfl⟩, rfl, hO10, x1⟩
              dsimp only
              have hS1 := keep4 hS0 x1 (by simp) (by simp)
              refine hK.out _ _ (fun _ => hS1) ?_; clear hK K
              try simp only [Act.put, List.getElem_toArray, List.getElem_cons_zero, List.getElem_cons_succ, List.setIfInBounds_toArray, List.set_cons_zero, List.set_cons_succ]
              have hO9 := hO9.ext x1
              have xU := xU.trans x1
              clear hS0 x1
              have hS0 := hS1; clear hS1
              refine HeldBut.each [6, 7] (by kernel_rfl) rfl ?_
              intro i hi; simp only [List.mem_cons, List.mem_nil_iff, or_false] at hi; rcases hi with rfl | rfl
              · refine HeldBut.step (i := 6) rfl (fun K hK => ?_)
                try simp only [List.getElem_toArray, List.getElem_cons_zero, List.getElem_cons_succ]
                go_simp
                have e6 := (Ext.refl [] w10).alloc (.cells #[.int .u64 0, .slice none 0 0] 25)
                have hO9 := hO9.ext e6
                have hO10 := hO10.ext e6
                have g9 := Blk.new w10 [.int .u64 0, .slice none 0 0] 25
                have hS1 := keep4 hS0 e6 (by simp) (by simp)
                have l9 := xU.size
                have xU := xU.trans e6
                refine hK.out _ _ (fun _ => hS1) ?_; clear hK K
                try simp only [Act.put, List.getElem_toArray, List.getElem_cons_zero, List.getElem_cons_succ, List.setIfInBounds_toArray, List.set_cons_zero, List.set_cons_succ]
                clear hS0 e6
                have hS0 := hS1; clear hS1
                generalize w10.alloc (.cells #[.int .u64 0, .slice none 0 0] 25) = U6 at *
                generalize w10.heap.size = b9 at *
                refine HeldBut.each [7] (by kernel_rfl) rfl ?_
                intro i hi; simp only [List.mem_cons, List.mem_nil_iff, or_false] at hi; rcases hi with rfl
                · refine HeldBut.step (i := 7) rfl (fun K hK => ?_)
                  try simp only [List.getElem_toArray, List.getElem_cons_zero, List.getElem_cons_succ]
                  go_simp
                  have e6 := (Ext.refl [] U6).alloc (.cells #[.int .u64 0, .slice none 0 0] 25)
                  have hne : b9 ≠ U6.heap.size := by have := g9.lt; omega
                  have g9 := g9.ext e6 (by simp)
                  have hO9 := hO9.ext e6
                  have hO10 := hO10.ext e6
                  have g10 := Blk.new U6 [.int .u64 0, .slice none 0 0] 25
                  have hS1 := keep4 hS0 e6 (by simp) (by simp)
                  have l10 := xU.size
                  have xU := xU.trans e6
                  refine hK.out _ _ (fun _ => hS1) ?_; clear hK K
                  try simp only [Act.put, List.getElem_toArray, List.getElem_cons_zero, List.getElem_cons_succ, List.setIfInBounds_toArray, List.set_cons_zero, List.set_cons_succ]
                  clear hS0 e6
                  have hS0 := hS1; clear hS1
                  generalize U6.alloc (.cells #[.int .u64 0, .slice none 0 0] 25) = U7 at *
                  generalize U6.heap.size = b10 at *
                  refine HeldBut.each [8] (by kernel_rfl) rfl ?_
                  intro i hi; simp only [List.mem_cons, List.mem_nil_iff, or_false] at hi; rcases hi with rfl
                  · obtain ⟨d0, d1⟩ := g9.c2
                    have df := g9.frozen
                    refine HeldBut.step (i := 8) rfl (fun K hK => ?_)
                    try simp only [List.getElem_toArray, List.getElem_cons_zero, List.getElem_cons_succ]
                    go_simp
                    have e8 := ((Ext.refl [b9] U7).setCell (p := ⟨b9, 0, none⟩) (.inl (by simp)) (.int .u64 (s : Int))).setCell (p := ⟨b9, 1, none⟩) (.inl (by simp)) (.slice a9 n9 c9)
                    have hS1 := keep4 hS0 e8 (by simp; omega) (by simp; omega)
                    have g10 := g10.ext e8 (by simp; omega)
                    have hO9 := hO9.other g9 (by decide) (by decide) e8
                    have hO10 := hO10.other g9 (by decide) (by decide) e8
                    have g9 := (g9.set 0 (.int .u64 (s : Int))).set 1 (.slice a9 n9 c9)
                    simp only [List.set_cons_zero, List.set_cons_succ] at g9
                    have xU := xU.trans' e8 (fun i hi => .inr (by simp at hi; omega))
                    refine hK.out _ _ (fun _ => hS1) ?_; clear hK K
                    try simp only [Act.put, List.getElem_toArray, List.getElem_cons_zero, List.getElem_cons_succ, List.setIfInBounds_toArray, List.set_cons_zero, List.set_cons_succ]
                    clear hS0 e8 d0 d1 df
                    have hS0 := hS1; clear hS1
                    generalize (U7.setCell ⟨b9, 0, none⟩ (.int .u64 (s : Int))).setCell ⟨b9, 1, none⟩ (.slice a9 n9 c9) = U8 at *
                    refine HeldBut.each [9] (by kernel_rfl) rfl ?_
                    intro i hi; simp only [List.mem_cons, List.mem_nil_iff, or_false] at hi; rcases hi with rfl
                    · obtain ⟨d0, d1⟩ := g10.c2
                      have df := g10.frozen
                      refine HeldBut.step (i := 9) rfl (fun K hK => ?_)
                      try simp only [List.getElem_toArray, List.getElem_cons_zero, List.getElem_cons_succ]
                      go_simp
                      have e8 := ((Ext.refl [b10] U8).setCell (p := ⟨b10, 0, none⟩) (.inl (by simp)) (.int .u64 (s0 : Int))).setCell (p := ⟨b10, 1, none⟩) (.inl (by simp)) (.slice a10 n10 c10)
                      have hS1 := keep4 hS0 e8 (by simp; omega) (by simp; omega)
                      have g9 := g9.ext e8 (by simp; omega)
                      have hO9 := hO9.other g10 (by decide) (by decide) e8
                      have hO10 := hO10.other g10 (by decide) (by decide) e8
                      have g10 := (g10.set 0 (.int .u64 (s0 : Int))).set 1 (.slice a10 n10 c10)
                      simp only [List.set_cons_zero, List.set_cons_succ] at g10
                      have xU := xU.trans' e8 (fun i hi => .inr (by simp at hi; omega))
                      refine hK.out _ _ (fun _ => hS1) ?_; clear hK K
                      try simp only [Act.put, List.getElem_toArray, List.getElem_cons_zero, List.getElem_cons_succ, List.setIfInBounds_toArray, List.set_cons_zero, List.set_cons_succ]
                      clear hS0 e8 d0 d1 df
                      have hS0 := hS1; clear hS1
                      generalize (U8.setCell ⟨b10, 0, none⟩ (.int .u64 (s0 : Int))).setCell ⟨b10, 1, none⟩ (.slice a10 n10 c10) = U9 at *
                      refine HeldBut.done (by kernel_rfl) ?_ _
                      go_wp2_with (fail)
                      go_meet
                      exact ⟨b9, b10, _, _, rfl, rfl, xU, g9, g10, hO9.ps, hO10.ps⟩
              · refine HeldBut.step (i := 7) rfl (fun K hK => ?_)
                try simp only [List.getElem_toArray, List.getElem_cons_zero, List.getElem_cons_succ]
                go_simp
                have e6 := (Ext.refl [] w10).alloc (.cells #[.int .u64 0, .slice none 0 0] 25)
                have hO9 := hO9.ext e6
                have hO10 := hO10.ext e6
                have g10 := Blk.new w10 [.int .u64 0, .slice none 0 0] 25
                have hS1 := keep4 hS0 e6 (by simp) (by simp)
                have l10 := xU.size
                have xU := xU.trans e6
                refine hK.out _ _ (fun _ => hS1) ?_; clear hK K
                try simp only [Act.put, List.getElem_toArray, List.getElem_cons_zero, List.getElem_cons_succ, List.setIfInBounds_toArray, List.set_cons_zero, List.set_cons_succ]
                clear hS0 e6
                have hS0 := hS1; clear hS1
                generalize w10.alloc (.cells #[.int .u64 0, .slice none 0 0] 25) = U7 at *
                generalize w10.heap.size = b10 at *
                refine HeldBut.each [6] (by kernel_rfl) rfl ?_
                intro i hi; simp only [List.mem_cons, List.mem_nil_iff, or_false] at hi; rcases hi with rfl
                · refine HeldBut.step (i := 6) rfl (fun K hK => ?_)
                  try simp only [List.getElem_toArray, List.getElem_cons_zero, List.getElem_cons_succ]
                  go_simp
                  have e6 := (Ext.refl [] U7).alloc (.cells #[.int .u64 0, .slice none 0 0] 25)
                  have hne : b10 ≠ U7.heap.size := by have := g10.lt; omega
                  have g10 := g10.ext e6 (by simp)
                  have hO9 := hO9.ext e6
                  have hO10 := hO10.ext e6
                  have g9 := Blk.new U7 [.int .u64 0, .slice none 0 0] 25
                  have hS1 := keep4 hS0 e6 (by simp) (by simp)
                  have l9 := xU.size
                  have xU := xU.trans e6
                  refine hK.out _ _ (fun _ => hS1) ?_; clear hK K
                  try simp only [Act.put, List.getElem_toArray, List.getElem_cons_zero, List.getElem_cons_succ, List.setIfInBounds_toArray, List.set_cons_zero, List.set_cons_succ]
                  clear hS0 e6
                  have hS0 := hS1; clear hS1
                  generalize U7.alloc (.cells #[.int .u64 0, .slice none 0 0] 25) = U6 at *
                  generalize U7.heap.size = b9 at *
                  refine HeldBut.each [8] (by kernel_rfl) rfl ?_
                  intro i hi; simp only [List.mem_cons, List.mem_nil_iff, or_false] at hi; rcases hi with rfl
                  · obtain ⟨d0, d1⟩ := g9.c2
                    have df := g9.frozen
                    refine HeldBut.step (i := 8) rfl (fun K hK => ?_)
                    try simp only [List.getElem_toArray, List.getElem_cons_zero, List.getElem_cons_succ]
                    go_simp
                    have e8 := ((Ext.refl [b9] U6).setCell (p := ⟨b9, 0, none⟩) (.inl (by simp)) (.int .u64 (s : Int))).setCell (p := ⟨b9, 1, none⟩) (.inl (by simp)) (.slice a9 n9 c9)
                    have hS1 := keep4 hS0 e8 (by simp; omega) (by simp; omega)
                    have g10 := g10.ext e8 (by simp; omega)
                    have hO9 := hO9.other g9 (by decide) (by decide) e8
                    have hO10 := hO10.other g9 (by decide) (by decide) e8
                    have g9 := (g9.set 0 (.int .u64 (s : Int))).set 1 (.slice a9 n9 c9)
                    simp only [List.set_cons_zero, List.set_cons_succ] at g9
                    have xU := xU.trans' e8 (fun i hi => .inr (by simp at hi; omega))
                    refine hK.out _ _ (fun _ => hS1) ?_; clear hK K
                    try simp only [Act.put, List.getElem_toArray, List.getElem_cons_zero, List.getElem_cons_succ, List.setIfInBounds_toArray, List.set_cons_zero, List.set_cons_succ]
                    clear hS0 e8 d0 d1 df
                    have hS0 := hS1; clear hS1
                    generalize (U6.setCell ⟨b9, 0, none⟩ (.int .u64 (s : Int))).setCell ⟨b9, 1, none⟩ (.slice a9 n9 c9) = U8 at *
                    refine HeldBut.each [9] (by kernel_rfl) rfl ?_
                    intro i hi; simp only [List.mem_cons, List.mem_nil_iff, or_false] at hi; rcases hi with rfl
                    · obtain ⟨d0, d1⟩ := g10.c2
                      have df := g10.frozen
                      refine HeldBut.step (i := 9) rfl (fun K hK => ?_)
                      try simp only [List.getElem_toArray, List.getElem_cons_zero, List.getElem_cons_succ]
                      go_simp
                      have e8 := ((Ext.refl [b10] U8).setCell (p := ⟨b10, 0, none⟩) (.inl (by simp)) (.int .u64 (s0 : Int))).setCell (p := ⟨b10, 1, none⟩) (.inl (by simp)) (.slice a10 n10 c10)
                      have hS1 := keep4 hS0 e8 (by simp; omega) (by simp; omega)
                      have g9 := g9.ext e8 (by simp; omega)
                      have hO9 := hO9.other g10 (by decide) (by decide) e8
                      have hO10 := hO10.other g10 (by decide) (by decide) e8
                      have g10 := (g10.set 0 (.int .u64 (s0 : Int))).set 1 (.slice a10 n10 c10)
                      simp only [List.set_cons_zero, List.set_cons_succ] at g10
                      have xU := xU.trans' e8 (fun i hi => .inr (by simp at hi; omega))
                      refine hK.out _ _ (fun _ => hS1) ?_; clear hK K
                      try simp only [Act.put, List.getElem_toArray, List.getElem_cons_zero, List.getElem_cons_succ, List.setIfInBounds_toArray, List.set_cons_zero, List.set_cons_succ]
                      clear hS0 e8 d0 d1 df
                      have hS0 := hS1; clear hS1
                      generalize (U8.setCell ⟨b10, 0, none⟩ (.int .u64 (s0 : Int))).setCell ⟨b10, 1, none⟩ (.slice a10 n10 c10) = U9 at *
                      refine HeldBut.done (by kernel_rfl) ?_ _
                      go_wp2_with (fail)
                      go_meet
                      exact ⟨b9, b10, _, _, rfl, rfl, xU, g9, g10, hO9.ps, hO10.ps⟩
            · refine HeldBut.step (i := 6) rfl (fun K hK => ?_)
              try simp only [List.getElem_toArray, List.getElem_cons_zero, List.getElem_cons_succ]
              go_simp
              have e6 := (Ext.refl [] w9).alloc (.cells #[.int .u64 0, .slice none 0 0] 25)
              have hO9 := hO9.ext e6
              have g9 := Blk.new w9 [.int .u64 0, .slice none 0 0] 25
              have hS1 := keep4 hS0 e6 (by simp) (by simp)
              have l9 := xU.size
              have xU := xU.trans e6
              refine hK.out _ _ (fun _ => hS1) ?_; clear hK K
              try simp only [Act.put, List.getElem_toArray, List.getElem_cons_zero, List.getElem_cons_succ, List.setIfInBounds_toArray, List.set_cons_zero, List.set_cons_succ]
              clear hS0 e6
              have hS0 := hS1; clear hS1
              generalize w9.alloc (.cells #[.int .u64 0, .slice none 0 0] 25) = U6 at *
              generalize w9.heap.size = b9 at *
              refine HeldBut.each [5, 7] (by kernel_rfl) rfl ?_
              intro i hi; simp only [List.mem_cons, List.mem_nil_iff, or_false] at hi; rcases hi with rfl | rfl
              · refine HeldBut.step (i := 5) rfl (fun K hK => ?_)
                try simp only [List.getElem_toArray, List.getElem_cons_zero, List.getElem_cons_succ]
                go_simp
                go_at_call 11
                (with_reducible refine (short_any _ _ _ _ (hP0d.ext xU)).mono ?_)
                rintro e w10 ⟨v1, rs10, ⟨a10, n10, c10, rfl⟩, rfl, hO10, x1⟩
                dsimp only
                have hS1 := keep4 hS0 x1 (by simp) (by simp)
                refine hK.out _ _ (fun _ => hS1) ?_; clear hK K
                try simp only [Act.put, List.getElem_toArray, List.getElem_cons_zero, List.getElem_cons_succ, List.setIfInBounds_toArray, List.set_cons_zero, List.set_cons_succ]
                have g9 := g9.ext x1 (by simp)
                have hO9 := hO9.ext x1
                have xU := xU.trans x1
                clear hS0 x1
                have hS0 := hS1; clear hS1
                refine HeldBut.each [7] (by kernel_rfl) rfl ?_
                intro i hi; simp only [List.mem_cons, List.mem_nil_iff, or_false] at hi; rcases hi with rfl
                · refine HeldBut.step (i := 7) rfl (fun K hK => ?_)
                  try simp only [List.getElem_toArray, List.getElem_cons_zero, List.getElem_cons_succ]
                  go_simp
                  have e6 := (Ext.refl [] w10).alloc (.cells #[.int .u64 0, .slice none 0 0] 25)
                  have hne : b9 ≠ w10.heap.size := by have := g9.lt; omega
                  have g9 := g9.ext e6 (by simp)
                  have hO9 := hO9.ext e6
                  have hO10 := hO10.ext e6
                  have g10 := Blk.new w10 [.int .u64 0, .slice none 0 0] 25
                  have hS1 := keep4 hS0 e6 (by simp) (by simp)
                  have l10 := xU.size
                  have xU := xU.trans e6
                  refine hK.out _ _ (fun _ => hS1) ?_; clear hK K
                  try simp only [Act.put, List.getElem_toArray, List.getElem_cons_zero, List.getElem_cons_succ, List.setIfInBounds_toArray, List.set_cons_zero, List.set_cons_succ]
                  clear hS0 e6
                  have hS0 := hS1; clear hS1
                  generalize w10.alloc (.cells #[.int .u64 0, .slice none 0 0] 25) = U7 at *
                  generalize w10.heap.size = b10 at *
                  refine HeldBut.each [8] (by kernel_rfl) rfl ?_
                  intro i hi; simp only [List.mem_cons, List.mem_nil_iff, or_false] at hi; rcases hi with rfl
                  · obtain ⟨d0, d1⟩ := g9.c2
                    have df := g9.frozen
                    refine HeldBut.step (i := 8) rfl (fun K hK => ?_)
                    try simp only [List.getElem_toArray, List.getElem_cons_zero, List.getElem_cons_succ]
                    go_simp
                    have e8 := ((Ext.refl [b9] U7).setCell (p := ⟨b9, 0, none⟩) (.inl (by simp)) (.int .u64 (s : Int))).setCell (p := ⟨b9, 1, none⟩) (.inl (by simp)) (.slice a9 n9 c9)
                    have hS1 := keep4 hS0 e8 (by simp; omega) (by simp; omega)
                    have g10 := g10.ext e8 (by simp; omega)
                    have hO9 := hO9.other g9 (by decide) (by decide) e8
                    have hO10 := hO10.other g9 (by decide) (by decide) e8
                    have g9 := (g9.set 0 (.int .u64 (s : Int))).set 1 (.slice a9 n9 c9)
                    simp only [List.set_cons_zero, List.set_cons_succ] at g9
                    have xU := xU.trans' e8 (fun i hi => .inr (by simp at hi; omega))
                    refine hK.out _ _ (fun _ => hS1) ?_; clear hK K
                    try simp only [Act.put, List.getElem_toArray, List.getElem_cons_zero, List.getElem_cons_succ, List.setIfInBounds_toArray, List.set_cons_zero, List.set_cons_succ]
                    clear hS0 e8 d0 d1 df
                    have hS0 := hS1; clear hS1
                    generalize (U7.setCell ⟨b9, 0, none⟩ (.int .u64 (s : Int))).setCell ⟨b9, 1, none⟩ (.slice a9 n9 c9) = U8 at *
                    refine HeldBut.each [9] (by kernel_rfl) rfl ?_
                    intro i hi; simp only [List.mem_cons, List.mem_nil_iff, or_false] at hi; rcases hi with rfl
                    · obtain ⟨d0, d1⟩ := g10.c2
                      have df := g10.frozen
                      refine HeldBut.step (i := 9) rfl (fun K hK => ?_)
                      try simp only [List.getElem_toArray, List.getElem_cons_zero, List.getElem_cons_succ]
                      go_simp
                      have e8 := ((Ext.refl [b10] U8).setCell (p := ⟨b10, 0, none⟩) (.inl (by simp)) (.int .u64 (s0 : Int))).setCell (p := ⟨b10, 1, none⟩) (.inl (by simp)) (.slice a10 n10 c10)
                      have hS1 := keep4 hS0 e8 (by simp; omega) (by simp; omega)
                      have g9 := g9.ext e8 (by simp; omega)
                      have hO9 := hO9.other g10 (by decide) (by decide) e8
                      have hO10 := hO10.other g10 (by decide) (by decide) e8
                      have g10 := (g10.set 0 (.int .u64 (s0 : Int))).set 1 (.slice a10 n10 c10)
                      simp only [List.set_cons_zero, List.set_cons_succ] at g10
                      have xU := xU.trans' e8 (fun i hi => .inr (by simp at hi; omega))
                      refine hK.out _ _ (fun _ => hS1) ?_; clear hK K
                      try simp only [Act.put, List.getElem_toArray, List.getElem_cons_zero, List.getElem_cons_succ, List.setIfInBounds_toArray, List.set_cons_zero, List.set_cons_succ]
                      clear hS0 e8 d0 d1 df
                      have hS0 := hS1; clear hS1
                      generalize (U8.setCell ⟨b10, 0, none⟩ (.int .u64 (s0 : Int))).setCell ⟨b10, 1, none⟩ (.slice a10 n10 c10) = U9 at *
                      refine HeldBut.done (by kernel_rfl) ?_ _
                      go_wp2_with (fail)
                      go_meet
                      exact ⟨b9, b10, _, _, rfl, rfl, xU, g9, g10, hO9.ps, hO10.ps⟩
              · refine HeldBut.step (i := 7) rfl (fun K hK => ?_)
                try simp only [List.getElem_toArray, List.getElem_cons_zero, List.getElem_cons_succ]
                go_simp
                have e6 := (Ext.refl [] U6).alloc (.cells #[.int .u64 0, .slice none 0 0] 25)
                have hne : b9 ≠ U6.heap.size := by have := g9.lt; omega
                have g9 := g9.ext e6 (by simp)
                have hO9 := hO9.ext e6
                have g10 := Blk.new U6 [.int .u64 0, .slice none 0 0] 25
                have hS1 := keep4 hS0 e6 (by simp) (by simp)
                have l10 := xU.size
                have xU := xU.trans e6
                refine hK.out _ _ (fun _ => hS1) ?_; clear hK K
                try simp only [Act.put, List.getElem_toArray, List.getElem_cons_zero, List.getElem_cons_succ, List.setIfInBounds_toArray, List.set_cons_zero, List.set_cons_succ]
                clear hS0 e6
                have hS0 := hS1; clear hS1
                generalize U6.alloc (.cells #[.int .u64 0, .slice none 0 0] 25) = U7 at *
                generalize U6.heap.size = b10 at *
                refine HeldBut.each [5] (by kernel_rfl) rfl ?_
                intro i hi; simp only [List.mem_cons, List.mem_nil_iff, or_false] at hi; rcases hi with rfl
                · refine HeldBut.step (i := 5) rfl (fun K hK => ?_)
                  try simp only [List.getElem_toArray, List.getElem_cons_zero, List.getElem_cons_succ]
                  go_simp
                  go_at_call 11
                  (with_reducible refine (short_any _ _ _ _ (hP0d.ext xU)).mono ?_)
                  rintro e w10 ⟨v1, rs10, ⟨a10, n10, c10, rfl⟩, rfl, hO10, x1⟩
                  dsimp only
                  have hS1 := keep4 hS0 x1 (by simp) (by simp)
                  refine hK.out _ _ (fun _ => hS1) ?_; clear hK K
                  try simp only [Act.put, List.getElem_toArray, List.getElem_cons_zero, List.getElem_cons_succ, List.setIfInBounds_toArray, List.set_cons_zero, List.set_cons_succ]
                  have g9 := g9.ext x1 (by simp)
                  have g10 := g10.ext x1 (by simp)
                  have hO9 := hO9.ext x1
                  have xU := xU.trans x1
                  clear hS0 x1
                  have hS0 := hS1; clear hS1
                  refine HeldBut.each [8] (by kernel_rfl) rfl ?_
                  intro i hi; simp only [List.mem_cons, List.mem_nil_iff, or_false] at hi; rcases hi with rfl
                  · obtain ⟨d0, d1⟩ := g9.c2
                    have df := g9.frozen
                    refine HeldBut.step (i := 8) rfl (fun K hK => ?_)
                    try simp only [List.getElem_toArray, List.getElem_cons_zero, List.getElem_cons_succ]
                    go_simp
                    have e8 := ((Ext.refl [b9] w10).setCell (p := ⟨b9, 0, none⟩) (.inl (by simp)) (.int .u64 (s : Int))).setCell (p := ⟨b9, 1, none⟩) (.inl (by simp)) (.slice a9 n9 c9)
                    have hS1 := keep4 hS0 e8 (by simp; omega) (by simp; omega)
                    have g10 := g10.ext e8 (by simp; omega)
                    have hO9 := hO9.other g9 (by decide) (by decide) e8
                    have hO10 := hO10.other g9 (by decide) (by decide) e8
                    have g9 := (g9.set 0 (.int .u64 (s : Int))).set 1 (.slice a9 n9 c9)
                    simp only [List.set_cons_zero, List.set_cons_succ] at g9
                    have xU := xU.trans' e8 (fun i hi => .inr (by simp at hi; omega))
                    refine hK.out _ _ (fun _ => hS1) ?_; clear hK K
                    try simp only [Act.put, List.getElem_toArray, List.getElem_cons_zero, List.getElem_cons_succ, List.setIfInBounds_toArray, List.set_cons_zero, List.set_cons_succ]
                    clear hS0 e8 d0 d1 df
                    have hS0 := hS1; clear hS1
                    generalize (w10.setCell ⟨b9, 0, none⟩ (.int .u64 (s : Int))).setCell ⟨b9, 1, none⟩ (.slice a9 n9 c9) = U8 at *
                    refine HeldBut.each [9] (by kernel_rfl) rfl ?_
                    intro i hi; simp only [List.mem_cons, List.mem_nil_iff, or_false] at hi; rcases hi with rfl
                    · obtain ⟨d0, d1⟩ := g10.c2
                      have df := g10.frozen
                      refine HeldBut.step (i := 9) rfl (fun K hK => ?_)
                      try simp only [List.getElem_toArray, List.getElem_cons_zero, List.getElem_cons_succ]
                      go_simp
                      have e8 := ((Ext.refl [b10] U8).setCell (p := ⟨b10, 0, none⟩) (.inl (by simp)) (.int .u64 (s0 : Int))).setCell (p := ⟨b10, 1, none⟩) (.inl (by simp)) (.slice a10 n10 c10)
                      have hS1 := keep4 hS0 e8 (by simp; omega) (by simp; omega)
                      have g9 := g9.ext e8 (by simp; omega)
                      have hO9 := hO9.other g10 (by decide) (by decide) e8
                      have hO10 := hO10.other g10 (by decide) (by decide) e8
                      have g10 := (g10.set 0 (.int .u64 (s0 : Int))).set 1 (.slice a10 n10 c10)
                      simp only [List.set_cons_zero, List.set_cons_succ] at g10
                      have xU := xU.trans' e8 (fun i hi => .inr (by simp at hi; omega))
                      refine hK.out _ _ (fun _ => hS1) ?_; clear hK K
                      try simp only [Act.put, List.getElem_toArray, List.getElem_cons_zero, List.getElem_cons_succ, List.setIfInBounds_toArray, List.set_cons_zero, List.set_cons_succ]
                      clear hS0 e8 d0 d1 df
                      have hS0 := hS1; clear hS1
                      generalize (U8.setCell ⟨b10, 0, none⟩ (.int .u64 (s0 : Int))).setCell ⟨b10, 1, none⟩ (.slice a10 n10 c10) = U9 at *
                      refine HeldBut.done (by kernel_rfl) ?_ _
                      go_wp2_with (fail)
                      go_meet
                      exact ⟨b9, b10, _, _, rfl, rfl, xU, g9, g10, hO9.ps, hO10.ps⟩
            · refine HeldBut.step (i := 7) rfl (fun K hK => ?_)
              try simp only [List.getElem_toArray, List.getElem_cons_zero, List.getElem_cons_succ]
              go_simp
              have e6 := (Ext.refl [] w9).alloc (.cells #[.int .u64 0, .slice none 0 0] 25)
              have hO9 := hO9.ext e6
              have g10 := Blk.new w9 [.int .u64 0, .slice none 0 0] 25
              have hS1 := keep4 hS0 e6 (by simp) (by simp)
              have l10 := xU.size
              have xU := xU.trans e6
              refine hK.out _ _ (fun _ => hS1) ?_; clear hK K
              try simp only [Act.put, List.getElem_toArray, List.getElem_cons_zero, List.getElem_cons_succ, List.setIfInBounds_toArray, List.set_cons_zero, List.set_cons_succ]
              clear hS0 e6
              have hS0 := hS1; clear hS1
              generalize w9.alloc (.cells #[.int .u64 0, .slice none 0 0] 25) = U7 at *
              generalize w9.heap.size = b10 at *
              refine HeldBut.each [5, 6] (by kernel_rfl) rfl ?_
              intro i hi; simp only [List.mem_cons, List.mem_nil_iff, or_false] at hi; rcases hi with rfl | rfl
              · refine HeldBut.step (i := 5) rfl (fun K hK => ?_)
                try simp only [List.getElem_toArray, List.getElem_cons_zero, List.getElem_cons_succ]
                go_simp
                go_at_call 11
                (with_reducible refine (short_any _ _ _ _ (hP0d.ext xU)).mono ?_)
                rintro e w10 ⟨v1, rs10, ⟨a10, n10, c10, rfl⟩, rfl, hO10, x1⟩
                dsimp only
                have hS1 := keep4 hS0 x1 (by simp) (by simp)
                refine hK.out _ _ (fun _ => hS1) ?_; clear hK K
                try simp only [Act.put, List.getElem_toArray, List.getElem_cons_zero, List.getElem_cons_succ, List.setIfInBounds_toArray, List.set_cons_zero, List.set_cons_succ]
                have g10 := g10.ext x1 (by simp)
                have hO9 := hO9.ext x1
                have xU := xU.trans x1
                clear hS0 x1
                have hS0 := hS1; clear hS1
                refine HeldBut.each [6] (by kernel_rfl) rfl ?_
                intro i hi; simp only [List.mem_cons, List.mem_nil_iff, or_false] at hi; rcases hi with rfl
                · refine HeldBut.step (i := 6) rfl (fun K hK => ?_)
                  try simp only [List.getElem_toArray, List.getElem_cons_zero, List.getElem_cons_succ]
                  go_simp
                  have e6 := (Ext.refl [] w10).alloc (.cells #[.int .u64 0, .slice none 0 0] 25)
                  have hne : b10 ≠ w10.heap.size := by have := g10.lt; omega
                  have g10 := g10.ext e6 (by simp)
                  have hO9 := hO9.ext e6
                  have hO10 := hO10.ext e6
                  have g9 := Blk.new w10 [.int .u64 0, .slice none 0 0] 25
                  have hS1 := keep4 hS0 e6 (by simp) (by simp)
                  have l9 := xU.size
                  have xU := xU.trans e6
                  refine hK.out _ _ (fun _ => hS1) ?_; clear hK K
                  try simp only [Act.put, List.getElem_toArray, List.getElem_cons_zero, List.getElem_cons_succ, List.setIfInBounds_toArray, List.set_cons_zero, List.set_cons_succ]
                  clear hS0 e6
                  have hS0 := hS1; clear hS1
                  generalize w10.alloc (.cells #[.int .u64 0, .slice none 0 0] 25) = U6 at *
                  generalize w10.heap.size = b9 at *
                  refine HeldBut.each [8] (by kernel_rfl) rfl ?_
                  intro i hi; simp only [List.mem_cons, List.mem_nil_iff, or_false] at hi; rcases hi with rfl
                  · obtain ⟨d0, d1⟩ := g9.c2
                    have df := g9.frozen
                    refine HeldBut.step (i := 8) rfl (fun K hK => ?_)
                    try simp only [List.getElem_toArray, List.getElem_cons_zero, List.getElem_cons_succ]
                    go_simp
                    have e8 := ((Ext.refl [b9] U6).setCell (p := ⟨b9, 0, none⟩) (.inl (by simp)) (.int .u64 (s : Int))).setCell (p := ⟨b9, 1, none⟩) (.inl (by simp)) (.slice a9 n9 c9)
                    have hS1 := keep4 hS0 e8 (by simp; omega) (by simp; omega)
                    have g10 := g10.ext e8 (by simp; omega)
                    have hO9 := hO9.other g9 (by decide) (by decide) e8
                    have hO10 := hO10.other g9 (by decide) (by decide) e8
                    have g9 := (g9.set 0 (.int .u64 (s : Int))).set 1 (.slice a9 n9 c9)
                    simp only [List.set_cons_zero, List.set_cons_succ] at g9
                    have xU := xU.trans' e8 (fun i hi => .inr (by simp at hi; omega))
                    refine hK.out _ _ (fun _ => hS1) ?_; clear hK K
                    try simp only [Act.put, List.getElem_toArray, List.getElem_cons_zero, List.getElem_cons_succ, List.setIfInBounds_toArray, List.set_cons_zero, List.set_cons_succ]
                    clear hS0 e8 d0 d1 df
                    have hS0 := hS1; clear hS1
                    generalize (U6.setCell ⟨b9, 0, none⟩ (.int .u64 (s : Int))).setCell ⟨b9, 1, none⟩ (.slice a9 n9 c9) = U8 at *
                    refine HeldBut.each [9] (by kernel_rfl) rfl ?_
                    intro i hi; simp only [List.mem_cons, List.mem_nil_iff, or_false] at hi; rcases hi with rfl
                    · obtain ⟨d0, d1⟩ := g10.c2
                      have df := g10.frozen
                      refine HeldBut.step (i := 9) rfl (fun K hK => ?_)
                      try simp only [List.getElem_toArray, List.getElem_cons_zero, List.getElem_cons_succ]
                      go_simp
                      have e8 := ((Ext.refl [b10] U8).setCell (p := ⟨b10, 0, none⟩) (.inl (by simp)) (.int .u64 (s0 : Int))).setCell (p := ⟨b10, 1, none⟩) (.inl (by simp)) (.slice a10 n10 c10)
                      have hS1 := keep4 hS0 e8 (by simp; omega) (by simp; omega)
                      have g9 := g9.ext e8 (by simp; omega)
                      have hO9 := hO9.other g10 (by decide) (by decide) e8
                      have hO10 := hO10.other g10 (by decide) (by decide) e8
                      have g10 := (g10.set 0 (.int .u64 (s0 : Int))).set 1 (.slice a10 n10 c10)
                      simp only [List.set_cons_zero, List.set_cons_succ] at g10
                      have xU := xU.trans' e8 (fun i hi => .inr (by simp at hi; omega))
                      refine hK.out _ _ (fun _ => hS1) ?_; clear hK K
                      try simp only [Act.put, List.getElem_toArray, List.getElem_cons_zero, List.getElem_cons_succ, List.setIfInBounds_toArray, List.set_cons_zero, List.set_cons_succ]
                      clear hS0 e8 d0 d1 df
                      have hS0 := hS1; clear hS1
                      generalize (U8.setCell ⟨b10, 0, none⟩ (.int .u64 (s0 : Int))).setCell ⟨b10, 1, none⟩ (.slice a10 n10 c10) = U9 at *
                      refine HeldBut.done (by kernel_rfl) ?_ _
                      go_wp2_with (fail)
                      go_meet
                      exact ⟨b9, b10, _, _, rfl, rfl, xU, g9, g10, hO9.ps, hO10.ps⟩
              · refine HeldBut.step (i := 6) rfl (fun K hK => ?_)
                try simp only [List.getElem_toArray, List.getElem_cons_zero, List.getElem_cons_succ]
                go_simp
                have e6 := (Ext.refl [] U7).alloc (.cells #[.int .u64 0, .slice none 0 0] 25)
                have hne : b10 ≠ U7.heap.size := by have := g10.lt; omega
                have g10 := g10.ext e6 (by simp)
                have hO9 := hO9.ext e6
                have g9 := Blk.new U7 [.int .u64 0, .slice none 0 0] 25
                have hS1 := keep4 hS0 e6 (by simp) (by simp)
                have l9 := xU.size
                have xU := xU.trans e6
                refine hK.out _ _ (fun _ => hS1) ?_; clear hK K
                try simp only [Act.put, List.getElem_toArray, List.getElem_cons_zero, List.getElem_cons_succ, List.setIfInBounds_toArray, List.set_cons_zero, List.set_cons_succ]
                clear hS0 e6
                have hS0 := hS1; clear hS1
                generalize U7.alloc (.cells #[.int .u64 0, .slice none 0 0] 25) = U6 at *
                generalize U7.heap.size = b9 at *
                refine HeldBut.each [5] (by kernel_rfl) rfl ?_
                intro i hi; simp only [List.mem_cons, List.mem_nil_iff, or_false] at hi; rcases hi with rfl
                · refine HeldBut.step (i := 5) rfl (fun K hK => ?_)
                  try simp only [List.getElem_toArray, List.getElem_cons_zero, List.getElem_cons_succ]
                  go_simp
                  go_at_call 11
                  (with_reducible refine (short_any _ _ _ _ (hP0d.ext xU)).mono ?_)
                  rintro e w10 ⟨v1, rs10, ⟨a10, n10, c10, rfl⟩, rfl, hO10, x1⟩
                  dsimp only
                  have hS1 := keep4 hS0 x1 (by simp) (by simp)
                  refine hK.out _ _ (fun _ => hS1) ?_; clear hK K
                  try simp only [Act.put, List.getElem_toArray, List.getElem_cons_zero, List.getElem_cons_succ, List.setIfInBounds_toArray, List.set_cons_zero, List.set_cons_succ]
                  have g9 := g9.ext x1 (by simp)
                  have g10 := g10.ext x1 (by simp)
                  have hO9 := hO9.ext x1
                  have xU := xU.trans x1
                  clear hS0 x1
                  have hS0 := hS1; clear hS1
                  refine HeldBut.each [8] (by kernel_rfl) rfl ?_
                  intro i hi; simp only [List.mem_cons, List.mem_nil_iff, or_false] at hi; rcases hi with rfl
                  · obtain ⟨d0, d1⟩ := g9.c2
                    have df := g9.frozen
                    refine HeldBut.step (i := 8) rfl (fun K hK => ?_)
                    try simp only [List.getElem_toArray, List.getElem_cons_zero, List.getElem_cons_succ]
                    go_simp
                    have e8 := ((Ext.refl [b9] w10).setCell (p := ⟨b9, 0, none⟩) (.inl (by simp)) (.int .u64 (s : Int))).setCell (p := ⟨b9, 1, none⟩) (.inl (by simp)) (.slice a9 n9 c9)
                    have hS1 := keep4 hS0 e8 (by simp; omega) (by simp; omega)
                    have g10 := g10.ext e8 (by simp; omega)
                    have hO9 := hO9.other g9 (by decide) (by decide) e8
                    have hO10 := hO10.other g9 (by decide) (by decide) e8
                    have g9 := (g9.set 0 (.int .u64 (s : Int))).set 1 (.slice a9 n9 c9)
                    simp only [List.set_cons_zero, List.set_cons_succ] at g9
                    have xU := xU.trans' e8 (fun i hi => .inr (by simp at hi; omega))
                    refine hK.out _ _ (fun _ => hS1) ?_; clear hK K
                    try simp only [Act.put, List.getElem_toArray, List.getElem_cons_zero, List.getElem_cons_succ, List.setIfInBounds_toArray, List.set_cons_zero, List.set_cons_succ]
                    clear hS0 e8 d0 d1 df
                    have hS0 := hS1; clear hS1
                    generalize (w10.setCell ⟨b9, 0, none⟩ (.int .u64 (s : Int))).setCell ⟨b9, 1, none⟩ (.slice a9 n9 c9) = U8 at *
                    refine HeldBut.each [9] (by kernel_rfl) rfl ?_
                    intro i hi; simp only [List.mem_cons, List.mem_nil_iff, or_false] at hi; rcases hi with rfl
                    · obtain ⟨d0, d1⟩ := g10.c2
                      have df := g10.frozen
                      refine HeldBut.step (i := 9) rfl (fun K hK => ?_)
                      try simp only [List.getElem_toArray, List.getElem_cons_zero, List.getElem_cons_succ]
                      go_simp
                      have e8 := ((Ext.refl [b10] U8).setCell (p := ⟨b10, 0, none⟩) (.inl (by simp)) (.int .u64 (s0 : Int))).setCell (p := ⟨b10, 1, none⟩) (.inl (by simp)) (.slice a10 n10 c10)
                      have hS1 := keep4 hS0 e8 (by simp; omega) (by simp; omega)
                      have g9 := g9.ext e8 (by simp; omega)
                      have hO9 := hO9.other g10 (by decide) (by decide) e8
                      have hO10 := hO10.other g10 (by decide) (by decide) e8
                      have g10 := (g10.set 0 (.int .u64 (s0 : Int))).set 1 (.slice a10 n10 c10)
                      simp only [List.set_cons_zero, List.set_cons_succ] at g10
                      have xU := xU.trans' e8 (fun i hi => .inr (by simp at hi; omega))
                      refine hK.out _ _ (fun _ => hS1) ?_; clear hK K
                      try simp only [Act.put, List.getElem_toArray, List.getElem_cons_zero, List.getElem_cons_succ, List.setIfInBounds_toArray, List.set_cons_zero, List.set_cons_succ]
                      clear hS0 e8 d0 d1 df
                      have hS0 := hS1; clear hS1
                      generalize (U8.setCell ⟨b10, 0, none⟩ (.int .u64 (s0 : Int))).setCell ⟨b10, 1, none⟩ (.slice a10 n10 c10) = U9 at *
                      refine HeldBut.done (by kernel_rfl) ?_ _
                      go_wp2_with (fail)
                      go_meet
                      exact ⟨b9, b10, _, _, rfl, rfl, xU, g9, g10, hO9.ps, hO10.ps⟩
          · refine HeldBut.step (i := 6) rfl (fun K hK => ?_)
            try simp only [List.getElem_toArray, List.getElem_cons_zero, List.getElem_cons_succ]
            go_simp
            have e6 := (Ext.refl [] D0).alloc (.cells #[.int .u64 0, .slice none 0 0] 25)
            have g9 := Blk.new D0 [.int .u64 0, .slice none 0 0] 25
            have hS1 := keep4 hS0 e6 (by simp) (by simp)
            have l9 := xU.size
            have xU := xU.trans e6
            refine hK.out _ _ (fun _ => hS1) ?_; clear hK K
            try simp only [Act.put, List.getElem_toArray, List.getElem_cons_zero, List.getElem_cons_succ, List.setIfInBounds_toArray, List.set_cons_zero, List.set_cons_succ]
            clear hS0 e6
            have hS0 := hS1; clear hS1
            generalize D0.alloc (.cells #[.int .u64 0, .slice none 0 0] 25) = U6 at *
            generalize D0.heap.size = b9 at *
            refine HeldBut.each [1, 7] (by kernel_rfl) rfl ?_
            intro i hi; simp only [List.mem_cons, List.mem_nil_iff, or_false] at hi; rcases hi with rfl | rfl
            · refine HeldBut.step (i := 1) rfl (fun K hK => ?_)
              try simp only [List.getElem_toArray, List.getElem_cons_zero, List.getElem_cons_succ]
              go_simp
              go_at_call 11
              (with_reducible refine (short_any _ _ _ _ (hPd.ext xU)).mono ?_)
              rintro e w9 ⟨v1, rs9, ⟨a9, n9, c9, rfl⟩, rfl, hO9, x1⟩
              dsimp only
              have hS1 := keep4 hS0 x1 (by simp) (by simp)
              refine hK.out _ _ (fun _ => hS1) ?_; clear hK K
              try simp only [Act.put, List.getElem_toArray, List.getElem_cons_zero, List.getElem_cons_succ, List.setIfInBounds_toArray, List.set_cons_zero, List.set_cons_succ]
              have g9 := g9.ext x1 (by simp)
              have xU := xU.trans x1
              clear hS0 x1
              have hS0 := hS1; clear hS1
              refine HeldBut.each [5, 7] (by kernel_rfl) rfl ?_
              intro i hi; simp only [List.mem_cons, List.mem_nil_iff, or_false] at hi; rcases hi with rfl | rfl
              · refine HeldBut.step (i := 5) rfl (fun K hK => ?_)
                try simp only [List.getElem_toArray, List.getElem_cons_zero, List.getElem_cons_succ]
                go_simp
                go_at_call 11
                (with_reducible refine (short_any _ _ _ _ (hP0d.ext xU)).mono ?_)
                rintro e w10 ⟨v1, rs10, ⟨a10, n10, c10, rfl⟩, rfl, hO10, x1⟩
                dsimp only
                have hS1 := keep4 hS0 x1 (by simp) (by simp)
                refine hK.out _ _ (fun _ => hS1) ?_; clear hK K
                try simp only [Act.put, List.getElem_toArray, List.getElem_cons_zero, List.getElem_cons_succ, List.setIfInBounds_toArray, List.set_cons_zero, List.set_cons_succ]
                have g9 := g9.ext x1 (by simp)
                have hO9 := hO9.ext x1
                have xU := xU.trans x1
                clear hS0 x1
                have hS0 := hS1; clear hS1
                refine HeldBut.each [7] (by kernel_rfl) rfl ?_
                intro i hi; simp only [List.mem_cons, List.mem_nil_iff, or_false] at hi; rcases hi with rfl
                · refine HeldBut.step (i := 7) rfl (fun K hK => ?_)
                  try simp only [List.getElem_toArray, List.getElem_cons_zero, List.getElem_cons_succ]
                  go_simp
                  have e6 := (Ext.refl [] w10).alloc (.cells #[.int .u64 0, .slice none 0 0] 25)
                  have hne : b9 ≠ w10.heap.size := by have := g9.lt; omega
                  have g9 := g9.ext e6 (by simp)
                  have hO9 := hO9.ext e6
                  have hO10 := hO10.ext e6
                  have g10 := Blk.new w10 [.int .u64 0, .slice none 0 0] 25
                  have hS1 := keep4 hS0 e6 (by simp) (by simp)
                  have l10 := xU.size
                  have xU := xU.trans e6
                  refine hK.out _ _ (fun _ => hS1) ?_; clear hK K
                  try simp only [Act.put, List.getElem_toArray, List.getElem_cons_zero, List.getElem_cons_succ, List.setIfInBounds_toArray, List.set_cons_zero, List.set_cons_succ]
                  clear hS0 e6
                  have hS0 := hS1; clear hS1
                  generalize w10.alloc (.cells #[.int .u64 0, .slice none 0 0] 25) = U7 at *
                  generalize w10.heap.size = b10 at *
                  refine HeldBut.each [8] (by kernel_rfl) rfl ?_
                  intro i hi; simp only [List.mem_cons, List.mem_nil_iff, or_false] at hi; rcases hi with rfl
                  · obtain ⟨d0, d1⟩ := g9.c2
                    have df := g9.frozen
                    refine HeldBut.step (i := 8) rfl (fun K hK => ?_)
                    try simp only [List.getElem_toArray, List.getElem_cons_zero, List.getElem_cons_succ]
                    go_simp
                    have e8 := ((Ext.refl [b9] U7).setCell (p := ⟨b9, 0, none⟩) (.inl (by simp)) (.int .u64 (s : Int))).setCell (p := ⟨b9, 1, none⟩) (.inl (by simp)) (.slice a9 n9 c9)
                    have hS1 := keep4 hS0 e8 (by simp; omega) (by simp; omega)
                    have g10 := g10.ext e8 (by simp; omega)
                    have hO9 := hO9.other g9 (by decide) (by decide) e8
                    have hO10 := hO10.other g9 (by decide) (by decide) e8
                    have g9 := (g9.set 0 (.int .u64 (s : Int))).set 1 (.slice a9 n9 c9)
                    simp only [List.set_cons_zero, List.set_cons_succ] at g9
                    have xU := xU.trans' e8 (fun i hi => .inr (by simp at hi; omega))
                    refine hK.out _ _ (fun _ => hS1) ?_; clear hK K
                    try simp only [Act.put, List.getElem_toArray, List.getElem_cons_zero, List.getElem_cons_succ, List.setIfInBounds_toArray, List.set_cons_zero, List.set_cons_succ]
                    clear hS0 e8 d0 d1 df
                    have hS0 := hS1; clear hS1
                    generalize (U7.setCell ⟨b9, 0, none⟩ (.int .u64 (s : Int))).setCell ⟨b9, 1, none⟩ (.slice a9 n9 c9) = U8 at *
                    refine HeldBut.each [9] (by kernel_rfl) rfl ?_
                    intro i hi; simp only [List.mem_cons, List.mem_nil_iff, or_false] at hi; rcases hi with rfl
                    · obtain ⟨d0, d1⟩ := g10.c2
                      have df := g10.frozen
                      refine HeldBut.step (i := 9) rfl (fun K hK => ?_)
                      try simp only [List.getElem_toArray, List.getElem_cons_zero, List.getElem_cons_succ]
                      go_simp
                      have e8 := ((Ext.refl [b10] U8).setCell (p := ⟨b10, 0, none⟩) (.inl (by simp)) (.int .u64 (s0 : Int))).setCell (p := ⟨b10, 1, none⟩) (.inl (by simp)) (.slice a10 n10 c10)
                      have hS1 := keep4 hS0 e8 (by simp; omega) (by simp; omega)
                      have g9 := g9.ext e8 (by simp; omega)
                      have hO9 := hO9.other g10 (by decide) (by decide) e8
                      have hO10 := hO10.other g10 (by decide) (by decide) e8
                      have g10 := (g10.set 0 (.int .u64 (s0 : Int))).set 1 (.slice a10 n10 c10)
                      simp only [List.set_cons_zero, List.set_cons_succ] at g10
                      have xU := xU.trans' e8 (fun i hi => .inr (by simp at hi; omega))
                      refine hK.out _ _ (fun _ => hS1) ?_; clear hK K
                      try simp only [Act.put, List.getElem_toArray, List.getElem_cons_zero, List.getElem_cons_succ, List.setIfInBounds_toArray, List.set_cons_zero, List.set_cons_succ]
                      clear hS0 e8 d0 d1 df
                      have hS0 := hS1; clear hS1
                      generalize (U8.setCell ⟨b10, 0, none⟩ (.int .u64 (s0 : Int))).setCell ⟨b10, 1, none⟩ (.slice a10 n10 c10) = U9 at *
                      refine HeldBut.done (by kernel_rfl) ?_ _
                      go_wp2_with (fail)
                      go_meet
                      exact ⟨b9, b10, _, _, rfl, rfl, xU, g9, g10, hO9.ps, hO10.ps⟩
              · refine HeldBut.step (i := 7) rfl (fun K hK => ?_)
                try simp only [List.getElem_toArray, List.getElem_cons_zero, List.getElem_cons_succ]
                go_simp
                have e6 := (Ext.refl [] w9).alloc (.cells #[.int .u64 0, .slice none 0 0] 25)
                have hne : b9 ≠ w9.heap.size := by have := g9.lt; omega
                have g9 := g9.ext e6 (by simp)
                have hO9 := hO9.ext e6
                have g10 := Blk.new w9 [.int .u64 0, .slice none 0 0] 25
                have hS1 := keep4 hS0 e6 (by simp) (by simp)
                have l10 := xU.size
                have xU := xU.trans e6
                refine hK.out _ _ (fun _ => hS1) ?_; clear hK K
                try simp only [Act.put, List.getElem_toArray, List.getElem_cons_zero, List.getElem_cons_succ, List.setIfInBounds_toArray, List.set_cons_zero, List.set_cons_succ]
                clear hS0 e6
                have hS0 := hS1; clear hS1
                generalize w9.alloc (.cells #[.int .u64 0, .slice none 0 0] 25) = U7 at *
                generalize w9.heap.size = b10 at *
                refine HeldBut.each [5] (by kernel_rfl) rfl ?_
                intro i hi; simp only [List.mem_cons, List.mem_nil_iff, or_false] at hi; rcases hi with rfl
                · refine HeldBut.step (i := 5) rfl (fun K hK => ?_)
                  try simp only [List.getElem_toArray, List.getElem_cons_zero, List.getElem_cons_succ]
                  go_simp
                  go_at_call 11
                  (with_reducible refine (short_any _ _ _ _ (hP0d.ext xU)).mono ?_)
                  rintro e w10 ⟨v1, rs10, ⟨a10, n10, c10, rfl⟩, rfl, hO10, x1⟩
                  dsimp only
                  have hS1 := keep4 hS0 x1 (by simp) (by simp)
                  refine hK.out _ _ (fun _ => hS1) ?_; clear hK K
                  try simp only [Act.put, List.getElem_toArray, List.getElem_cons_zero, List.getElem_cons_succ, List.setIfInBounds_toArray, List.set_cons_zero, List.set_cons_succ]
                  have g9 := g9.ext x1 (by simp)
                  have g10 := g10.ext x1 (by simp)
                  have hO9 := hO9.ext x1
                  have xU := xU.trans x1
                  clear hS0 x1
                  have hS0 := hS1; clear hS1
                  refine HeldBut.each [8] (by kernel_rfl) rfl ?_
                  intro i hi; simp only [List.mem_cons, List.mem_nil_iff, or_false] at hi; rcases hi with rfl
                  · obtain ⟨d0, d1⟩ := g9.c2
                    have df := g9.frozen
                    refine HeldBut.step (i := 8) rfl (fun K hK => ?_)
                    try simp only [List.getElem_toArray, List.getElem_cons_zero, List.getElem_cons_succ]
                    go_simp
                    have e8 := ((Ext.refl [b9] w10).setCell (p := ⟨b9, 0, none⟩) (.inl (by simp)) (.int .u64 (s : Int))).setCell (p := ⟨b9, 1, none⟩) (.inl (by simp)) (.slice a9 n9 c9)
                    have hS1 := keep4 hS0 e8 (by simp; omega) (by simp; omega)
                    have g10 := g10.ext e8 (by simp; omega)
                    have hO9 := hO9.other g9 (by decide) (by decide) e8
                    have hO10 := hO10.other g9 (by decide) (by decide) e8
                    have g9 := (g9.set 0 (.int .u64 (s : Int))).set 1 (.slice a9 n9 c9)
                    simp only [List.set_cons_zero, List.set_cons_succ] at g9
                    have xU := xU.trans' e8 (fun i hi => .inr (by simp at hi; omega))
                    refine hK.out _ _ (fun _ => hS1) ?_; clear hK K
                    try simp only [Act.put, List.getElem_toArray, List.getElem_cons_zero, List.getElem_cons_succ, List.setIfInBounds_toArray, List.set_cons_zero, List.set_cons_succ]
                    clear hS0 e8 d0 d1 df
                    have hS0 := hS1; clear hS1
                    generalize (w10.setCell ⟨b9, 0, none⟩ (.int .u64 (s : Int))).setCell ⟨b9, 1, none⟩ (.slice a9 n9 c9) = U8 at *
                    refine HeldBut.each [9] (by kernel_rfl) rfl ?_
                    intro i hi; simp only [List.mem_cons, List.mem_nil_iff, or_false] at hi; rcases hi with rfl
                    · obtain ⟨d0, d1⟩ := g10.c2
                      have df := g10.frozen
                      refine HeldBut.step (i := 9) rfl (fun K hK => ?_)
                      try simp only [List.getElem_toArray, List.getElem_cons_zero, List.getElem_cons_succ]
                      go_simp
                      have e8 := ((Ext.refl [b10] U8).setCell (p := ⟨b10, 0, none⟩) (.inl (by simp)) (.int .u64 (s0 : Int))).setCell (p := ⟨b10, 1, none⟩) (.inl (by simp)) (.slice a10 n10 c10)
                      have hS1 := keep4 hS0 e8 (by simp; omega) (by simp; omega)
                      have g9 := g9.ext e8 (by simp; omega)
                      have hO9 := hO9.other g10 (by decide) (by decide) e8
                      have hO10 := hO10.other g10 (by decide) (by decide) e8
                      have g10 := (g10.set 0 (.int .u64 (s0 : Int))).set 1 (.slice a10 n10 c10)
                      simp only [List.set_cons_zero, List.set_cons_succ] at g10
                      have xU := xU.trans' e8 (fun i hi => .inr (by simp at hi; omega))
                      refine hK.out _ _ (fun _ => hS1) ?_; clear hK K
                      try simp only [Act.put, List.getElem_toArray, List.getElem_cons_zero, List.getElem_cons_succ, List.setIfInBounds_toArray, List.set_cons_zero, List.set_cons_succ]
                      clear hS0 e8 d0 d1 df
                      have hS0 := hS1; clear hS1
                      generalize (U8.setCell ⟨b10, 0, none⟩ (.int .u64 (s0 : Int))).setCell ⟨b10, 1, none⟩ (.slice a10 n10 c10) = U9 at *
                      refine HeldBut.done (by kernel_rfl) ?_ _
                      go_wp2_with (fail)
                      go_meet
                      exact ⟨b9, b10, _, _, rfl, rfl, xU, g9, g10, hO9.ps, hO10.ps⟩
            · refine HeldBut.step (i := 7) rfl (fun K hK => ?_)
              try simp only [List.getElem_toArray, List.getElem_cons_zero, List.getElem_cons_succ]
              go_simp
              have e6 := (Ext.refl [] U6).alloc (.cells #[.int .u64 0, .slice none 0 0] 25)
              have hne : b9 ≠ U6.heap.size := by have := g9.lt; omega
              have g9 := g9.ext e6 (by simp)
              have g10 := Blk.new U6 [.int .u64 0, .slice none 0 0] 25
              have hS1 := keep4 hS0 e6 (by simp) (by simp)
              have l10 := xU.size
              have xU := xU.trans e6
              refine hK.out _ _ (fun _ => hS1) ?_; clear hK K
              try simp only [Act.put, List.getElem_toArray, List.getElem_cons_zero, List.getElem_cons_succ, List.setIfInBounds_toArray, List.set_cons_zero, List.set_cons_succ]
              clear hS0 e6
              have hS0 := hS1; clear hS1
              generalize U6.alloc (.cells #[.int .u64 0, .slice none 0 0] 25) = U7 at *
              generalize U6.heap.size = b10 at *
              refine HeldBut.each [1] (by kernel_rfl) rfl ?_
              intro i hi; simp only [List.mem_cons, List.mem_nil_iff, or_false] at hi; rcases hi with rfl
              · refine HeldBut.step (i := 1) rfl (fun K hK => ?_)
                try simp only [List.getElem_toArray, List.getElem_cons_zero, List.getElem_cons_succ]
                go_simp
                go_at_call 11
                (with_reducible refine (short_any _ _ _ _ (hPd.ext xU)).mono ?_)
                rintro e w9 ⟨v1, rs9, ⟨a9, n9, c9, rfl⟩, rfl, hO9, x1⟩
                dsimp only
                have hS1 := keep4 hS0 x1 (by simp) (by simp)
                refine hK.out _ _ (fun _ => hS1) ?_; clear hK K
                try simp only [Act.put, List.getElem_toArray, List.getElem_cons_zero, List.getElem_cons_succ, List.setIfInBounds_toArray, List.set_cons_zero, List.set_cons_succ]
                have g9 := g9.ext x1 (by simp)
                have g10 := g10.ext x1 (by simp)
                have xU := xU.trans x1
                clear hS0 x1
                have hS0 := hS1; clear hS1
                refine HeldBut.each [5] (by kernel_rfl) rfl ?_
                intro i hi; simp only [List.mem_cons, List.mem_nil_iff, or_false] at hi; rcases hi with rfl
                · refine HeldBut.step (i := 5) rfl (fun K hK => ?_)
                  try simp only [List.getElem_toArray, List.getElem_cons_zero, List.getElem_cons_succ]
                  go_simp
                  go_at_call 11
                  (with_reducible refine (short_any _ _ _ _ (hP0d.ext xU)).mono ?_)
                  rintro e w10 ⟨v1, rs10, ⟨a10, n10, c10, rfl⟩, rfl, hO10, x1⟩
                  dsimp only
                  have hS1 := keep4 hS0 x1 (by simp) (by simp)
                  refine hK.out _ _ (fun _ => hS1) ?_; clear hK K
                  try simp only [Act.put, List.getElem_toArray, List.getElem_cons_zero, List.getElem_cons_succ, List.setIfInBounds_toArray, List.set_cons_zero, List.set_cons_succ]
                  have g9 := g9.ext x1 (by simp)
                  have g10 := g10.ext x1 (by simp)
                  have hO9 := hO9.ext x1
                  have xU := xU.trans x1
                  clear hS0 x1
                  have hS0 := hS1; clear hS1
                  refine HeldBut.each [8] (by kernel_rfl) rfl ?_
                  intro i hi; simp only [List.mem_cons, List.mem_nil_iff, or_false] at hi; rcases hi with rfl
                  · obtain ⟨d0, d1⟩ := g9.c2
                    have df := g9.frozen
                    refine HeldBut.step (i := 8) rfl (fun K hK => ?_)
                    try simp only [List.getElem_toArray, List.getElem_cons_zero, List.getElem_cons_succ]
                    go_simp
                    have e8 := ((Ext.refl [b9] w10).setCell (p := ⟨b9, 0, none⟩) (.inl (by simp)) (.int .u64 (s : Int))).setCell (p := ⟨b9, 1, none⟩) (.inl (by simp)) (.slice a9 n9 c9)
                    have hS1 := keep4 hS0 e8 (by simp; omega) (by simp; omega)
                    have g10 := g10.ext e8 (by simp; omega)
                    have hO9 := hO9.other g9 (by decide) (by decide) e8
                    have hO10 := hO10.other g9 (by decide) (by decide) e8
                    have g9 := (g9.set 0 (.int .u64 (s : Int))).set 1 (.slice a9 n9 c9)
                    simp only [List.set_cons_zero, List.set_cons_succ] at g9
                    have xU := xU.trans' e8 (fun i hi => .inr (by simp at hi; omega))
                    refine hK.out _ _ (fun _ => hS1) ?_; clear hK K
                    try simp only [Act.put, List.getElem_toArray, List.getElem_cons_zero, List.getElem_cons_succ, List.setIfInBounds_toArray, List.set_cons_zero, List.set_cons_succ]
                    clear hS0 e8 d0 d1 df
                    have hS0 := hS1; clear hS1
                    generalize (w10.setCell ⟨b9, 0, none⟩ (.int .u64 (s : Int))).setCell ⟨b9, 1, none⟩ (.slice a9 n9 c9) = U8 at *
                    refine HeldBut.each [9] (by kernel_rfl) rfl ?_
                    intro i hi; simp only [List.mem_cons, List.mem_nil_iff, or_false] at hi; rcases hi with rfl
                    · obtain ⟨d0, d1⟩ := g10.c2
                      have df := g10.frozen
                      refine HeldBut.step (i := 9) rfl (fun K hK => ?_)
                      try simp only [List.getElem_toArray, List.getElem_cons_zero, List.getElem_cons_succ]
                      go_simp
                      have e8 := ((Ext.refl [b10] U8).setCell (p := ⟨b10, 0, none⟩) (.inl (by simp)) (.int .u64 (s0 : Int))).setCell (p := ⟨b10, 1, none⟩) (.inl (by simp)) (.slice a10 n10 c10)
                      have hS1 := keep4 hS0 e8 (by simp; omega) (by simp; omega)
                      have g9 := g9.ext e8 (by simp; omega)
                      have hO9 := hO9.other g10 (by decide) (by decide) e8
                      have hO10 := hO10.other g10 (by decide) (by decide) e8
                      have g10 := (g10.set 0 (.int .u64 (s0 : Int))).set 1 (.slice a10 n10 c10)
                      simp only [List.set_cons_zero, List.set_cons_succ] at g10
                      have xU := xU.trans' e8 (fun i hi => .inr (by simp at hi; omega))
                      refine hK.out _ _ (fun _ => hS1) ?_; clear hK K
                      try simp only [Act.put, List.getElem_toArray, List.getElem_cons_zero, List.getElem_cons_succ, List.setIfInBounds_toArray, List.set_cons_zero, List.set_cons_succ]
                      clear hS0 e8 d0 d1 df
                      have hS0 := hS1; clear hS1
                      generalize (U8.setCell ⟨b10, 0, none⟩ (.int .u64 (s0 : Int))).setCell ⟨b10, 1, none⟩ (.slice a10 n10 c10) = U9 at *
                      refine HeldBut.done (by kernel_rfl) ?_ _
                      go_wp2_with (fail)
                      go_meet
                      exact ⟨b9, b10, _, _, rfl, rfl, xU, g9, g10, hO9.ps, hO10.ps⟩
          · refine HeldBut.step (i := 7) rfl (fun K hK => ?_)
            try simp only [List.getElem_toArray, List.getElem_cons_zero, List.getElem_cons_succ]
            go_simp
            have e6 := (Ext.refl [] D0).alloc (.cells #[.int .u64 0, .slice none 0 0] 25)
            have g10 := Blk.new D0 [.int .u64 0, .slice none 0 0] 25
            have hS1 := keep4 hS0 e6 (by simp) (by simp)
            have l10 := xU.size
            have xU := xU.trans e6
            refine hK.out _ _ (fun _ => hS1) ?_; clear hK K
            try simp only [Act.put, List.getElem_toArray, List.getElem_cons_zero, List.getElem_cons_succ, List.setIfInBounds_toArray, List.set_cons_zero, List.set_cons_succ]
            clear hS0 e6
            have hS0 := hS1; clear hS1
            generalize D0.alloc (.cells #[.int .u64 0, .slice none 0 0] 25) = U7 at *
            generalize D0.heap.size = b10 at *
            refine HeldBut.each [1, 6] (by kernel_rfl) rfl ?_
            intro i hi; simp only [List.mem_cons, List.mem_nil_iff, or_false] at hi; rcases hi with rfl | rfl
            · refine HeldBut.step (i := 1) rfl (fun K hK => ?_)
              try simp only [List.getElem_toArray, List.getElem_cons_zero, List.getElem_cons_succ]
              go_simp
              go_at_call 11
              (with_reducible refine (short_any _ _ _ _ (hPd.ext xU)).mono ?_)
              rintro e w9 ⟨v1, rs9, ⟨a9, n9, c9, rfl⟩, rfl, hO9, x1⟩
              dsimp only
              have hS1 := keep4 hS0 x1 (by simp) (by simp)
              refine hK.out _ _ (fun _ => hS1) ?_; clear hK K
              try simp only [Act.put, List.getElem_toArray, List.getElem_cons_zero, List.getElem_cons_succ, List.setIfInBounds_toArray, List.set_cons_zero, List.set_cons_succ]
              have g10 := g10.ext x1 (by simp)
              have xU := xU.trans x1
              clear hS0 x1
              have hS0 := hS1; clear hS1
              refine HeldBut.each [5, 6] (by kernel_rfl) rfl ?_
              intro i hi; simp only [List.mem_cons, List.mem_nil_iff, or_false] at hi; rcases hi with rfl | rfl
              · refine HeldBut.step (i := 5) rfl (fun K hK => ?_)
                try simp only [List.getElem_toArray, List.getElem_cons_zero, List.getElem_cons_succ]
                go_simp
                go_at_call 11
                (with_reducible refine (short_any _ _ _ _ (hP0d.ext xU)).mono ?_)
                rintro e w10 ⟨v1, rs10, ⟨a10, n10, c10, rfl⟩, rfl, hO10, x1⟩
                dsimp only
                have hS1 := keep4 hS0 x1 (by simp) (by simp)
                refine hK.out _ _ (fun _ => hS1) ?_; clear hK K
                try simp only [Act.put, List.getElem_toArray, List.getElem_cons_zero, List.getElem_cons_succ, List.setIfInBounds_toArray, List.set_cons_zero, List.set_cons_succ]
                have g10 := g10.ext x1 (by simp)
                have hO9 := hO9.ext x1
                have xU := xU.trans x1
                clear hS0 x1
                have hS0 := hS1; clear hS1
                refine HeldBut.each [6] (by kernel_rfl) rfl ?_
                intro i hi; simp only [List.mem_cons, List.mem_nil_iff, or_false] at hi; rcases hi with rfl
                · refine HeldBut.step (i := 6) rfl (fun K hK => ?_)
                  try simp only [List.getElem_toArray, List.getElem_cons_zero, List.getElem_cons_succ]
                  go_simp
                  have e6 := (Ext.refl [] w10).alloc (.cells #[.int .u64 0, .slice none 0 0] 25)
                  have hne : b10 ≠ w10.heap.size := by have := g10.lt; omega
                  have g10 := g10.ext e6 (by simp)
                  have hO9 := hO9.ext e6
                  have hO10 := hO10.ext e6
                  have g9 := Blk.new w10 [.int .u64 0, .slice none 0 0] 25
                  have hS1 := keep4 hS0 e6 (by simp) (by simp)
                  have l9 := xU.size
                  have xU := xU.trans e6
                  refine hK.out _ _ (fun _ => hS1) ?_; clear hK K
                  try simp only [Act.put, List.getElem_toArray, List.getElem_cons_zero, List.getElem_cons_succ, List.setIfInBounds_toArray, List.set_cons_zero, List.set_cons_succ]
                  clear hS0 e6
                  have hS0 := hS1; clear hS1
                  generalize w10.alloc (.cells #[.int .u64 0, .slice none 0 0] 25) = U6 at *
                  generalize w10.heap.size = b9 at *
                  refine HeldBut.each [8] (by kernel_rfl) rfl ?_
                  intro i hi; simp only [List.mem_cons, List.mem_nil_iff, or_false] at hi; rcases hi with rfl
                  · obtain ⟨d0, d1⟩ := g9.c2
                    have df := g9.frozen
                    refine HeldBut.step (i := 8) rfl (fun K hK => ?_)
                    try simp only [List.getElem_toArray, List.getElem_cons_zero, List.getElem_cons_succ]
                    go_simp
                    have e8 := ((Ext.refl [b9] U6).setCell (p := ⟨b9, 0, none⟩) (.inl (by simp)) (.int .u64 (s : Int))).setCell (p := ⟨b9, 1, none⟩) (.inl (by simp)) (.slice a9 n9 c9)
                    have hS1 := keep4 hS0 e8 (by simp; omega) (by simp; omega)
                    have g10 := g10.ext e8 (by simp; omega)
                    have hO9 := hO9.other g9 (by decide) (by decide) e8
                    have hO10 := hO10.other g9 (by decide) (by decide) e8
                    have g9 := (g9.set 0 (.int .u64 (s : Int))).set 1 (.slice a9 n9 c9)
                    simp only [List.set_cons_zero, List.set_cons_succ] at g9
                    have xU := xU.trans' e8 (fun i hi => .inr (by simp at hi; omega))
                    refine hK.out _ _ (fun _ => hS1) ?_; clear hK K
                    try simp only [Act.put, List.getElem_toArray, List.getElem_cons_zero, List.getElem_cons_succ, List.setIfInBounds_toArray, List.set_cons_zero, List.set_cons_succ]
                    clear hS0 e8 d0 d1 df
                    have hS0 := hS1; clear hS1
                    generalize (U6.setCell ⟨b9, 0, none⟩ (.int .u64 (s : Int))).setCell ⟨b9, 1, none⟩ (.slice a9 n9 c9) = U8 at *
                    refine HeldBut.each [9] (by kernel_rfl) rfl ?_
                    intro i hi; simp only [List.mem_cons, List.mem_nil_iff, or_false] at hi; rcases hi with rfl
                    · obtain ⟨d0, d1⟩ := g10.c2
                      have df := g10.frozen
                      refine HeldBut.step (i := 9) rfl (fun K hK => ?_)
                      try simp only [List.getElem_toArray, List.getElem_cons_zero, List.getElem_cons_succ]
                      go_simp
                      have e8 := ((Ext.refl [b10] U8).setCell (p := ⟨b10, 0, none⟩) (.inl (by simp)) (.int .u64 (s0 : Int))).setCell (p := ⟨b10, 1, none⟩) (.inl (by simp)) (.slice a10 n10 c10)
                      have hS1 := keep4 hS0 e8 (by simp; omega) (by simp; omega)
                      have g9 := g9.ext e8 (by simp; omega)
                      have hO9 := hO9.other g10 (by decide) (by decide) e8
                      have hO10 := hO10.other g10 (by decide) (by decide) e8
                      have g10 := (g10.set 0 (.int .u64 (s0 : Int))).set 1 (.slice a10 n10 c10)
                      simp only [List.set_cons_zero, List.set_cons_succ] at g10
                      have xU := xU.trans' e8 (fun i hi => .inr (by simp at hi; omega))
                      refine hK.out _ _ (fun _ => hS1) ?_; clear hK K
                      try simp only [Act.put, List.getElem_toArray, List.getElem_cons_zero, List.getElem_cons_succ, List.setIfInBounds_toArray, List.set_cons_zero, List.set_cons_succ]
                      clear hS0 e8 d0 d1 df
                      have hS0 := hS1; clear hS1
                      generalize (U8.setCell ⟨b10, 0, none⟩ (.int .u64 (s0 : Int))).setCell ⟨b10, 1, none⟩ (.slice a10 n10 c10) = U9 at *
                      refine HeldBut.done (by kernel_rfl) ?_ _
                      go_wp2_with (fail)
                      go_meet
                      exact ⟨b9, b10, _, _, rfl, rfl, xU, g9, g10, hO9.ps, hO10.ps⟩
              · refine HeldBut.step (i := 6) rfl (fun K hK => ?_)
                try simp only [List.getElem_toArray, List.getElem_cons_zero, List.getElem_cons_succ]
                go_simp
                have e6 := (Ext.refl [] w9).alloc (.cells #[.int .u64 0, .slice none 0 0] 25)
                have hne : b10 ≠ w9.heap.size := by have := g10.lt; omega
                have g10 := g10.ext e6 (by simp)
                have hO9 := hO9.ext e6
                have g9 := Blk.new w9 [.int .u64 0, .slice none 0 0] 25
                have hS1 := keep4 hS0 e6 (by simp) (by simp)
                have l9 := xU.size
                have xU := xU.trans e6
                refine hK.out _ _ (fun _ => hS1) ?_; clear hK K
                try simp only [Act.put, List.getElem_toArray, List.getElem_cons_zero, List.getElem_cons_succ, List.setIfInBounds_toArray, List.set_cons_zero, List.set_cons_succ]
                clear hS0 e6
                have hS0 := hS1; clear hS1
                generalize w9.alloc (.cells #[.int .u64 0, .slice none 0 0] 25) = U6 at *
                generalize w9.heap.size = b9 at *
                refine HeldBut.each [5] (by kernel_rfl) rfl ?_
                intro i hi; simp only [List.mem_cons, List.mem_nil_iff, or_false] at hi; rcases hi with rfl
                · refine HeldBut.step (i := 5) rfl (fun K hK => ?_)
                  try simp only [List.getElem_toArray, List.getElem_cons_zero, List.getElem_cons_succ]
                  go_simp
                  go_at_call 11
                  (with_reducible refine (short_any _ _ _ _ (hP0d.ext xU)).mono ?_)
                  rintro e w10 ⟨v1, rs10, ⟨a10, n10, c10, rfl⟩, rfl, hO10, x1⟩
                  dsimp only
                  have hS1 := keep4 hS0 x1 (by simp) (by simp)
                  refine hK.out _ _ (fun _ => hS1) ?_; clear hK K
                  try simp only [Act.put, List.getElem_toArray, List.getElem_cons_zero, List.getElem_cons_succ, List.setIfInBounds_toArray, List.set_cons_zero, List.set_cons_succ]
                  have g9 := g9.ext x1 (by simp)
                  have g10 := g10.ext x1 (by simp)
                  have hO9 := hO9.ext x1
                  have xU := xU.trans x1
                  clear hS0 x1
                  have hS0 := hS1; clear hS1
                  refine HeldBut.each [8] (by kernel_rfl) rfl ?_
                  intro i hi; simp only [List.mem_cons, List.mem_nil_iff, or_false] at hi; rcases hi with rfl
                  · obtain ⟨d0, d1⟩ := g9.c2
                    have df := g9.frozen
                    refine HeldBut.step (i := 8) rfl (fun K hK => ?_)
                    try simp only [List.getElem_toArray, List.getElem_cons_zero, List.getElem_cons_succ]
                    go_simp
                    have e8 := ((Ext.refl [b9] w10).setCell (p := ⟨b9, 0, none⟩) (.inl (by simp)) (.int .u64 (s : Int))).setCell (p := ⟨b9, 1, none⟩) (.inl (by simp)) (.slice a9 n9 c9)
                    have hS1 := keep4 hS0 e8 (by simp; omega) (by simp; omega)
                    have g10 := g10.ext e8 (by simp; omega)
                    have hO9 := hO9.other g9 (by decide) (by decide) e8
                    have hO10 := hO10.other g9 (by decide) (by decide) e8
                    have g9 := (g9.set 0 (.int .u64 (s : Int))).set 1 (.slice a9 n9 c9)
                    simp only [List.set_cons_zero, List.set_cons_succ] at g9
                    have xU := xU.trans' e8 (fun i hi => .inr (by simp at hi; omega))
                    refine hK.out _ _ (fun _ => hS1) ?_; clear hK K
                    try simp only [Act.put, List.getElem_toArray, List.getElem_cons_zero, List.getElem_cons_succ, List.setIfInBounds_toArray, List.set_cons_zero, List.set_cons_succ]
                    clear hS0 e8 d0 d1 df
                    have hS0 := hS1; clear hS1
                    generalize (w10.setCell ⟨b9, 0, none⟩ (.int .u64 (s : Int))).setCell ⟨b9, 1, none⟩ (.slice a9 n9 c9) = U8 at *
                    refine HeldBut.each [9] (by kernel_rfl) rfl ?_
                    intro i hi; simp only [List.mem_cons, List.mem_nil_iff, or_false] at hi; rcases hi with rfl
                    · obtain ⟨d0, d1⟩ := g10.c2
                      have df := g10.frozen
                      refine HeldBut.step (i := 9) rfl (fun K hK => ?_)
                      try simp only [List.getElem_toArray, List.getElem_cons_zero, List.getElem_cons_succ]
                      go_simp
                      have e8 := ((Ext.refl [b10] U8).setCell (p := ⟨b10, 0, none⟩) (.inl (by simp)) (.int .u64 (s0 : Int))).setCell (p := ⟨b10, 1, none⟩) (.inl (by simp)) (.slice a10 n10 c10)
                      have hS1 := keep4 hS0 e8 (by simp; omega) (by simp; omega)
                      have g9 := g9.ext e8 (by simp; omega)
                      have hO9 := hO9.other g10 (by decide) (by decide) e8
                      have hO10 := hO10.other g10 (by decide) (by decide) e8
                      have g10 := (g10.set 0 (.int .u64 (s0 : Int))).set 1 (.slice a10 n10 c10)
                      simp only [List.set_cons_zero, List.set_cons_succ] at g10
                      have xU := xU.trans' e8 (fun i hi => .inr (by simp at hi; omega))
                      refine hK.out _ _ (fun _ => hS1) ?_; clear hK K
                      try simp only [Act.put, List.getElem_toArray, List.getElem_cons_zero, List.getElem_cons_succ, List.setIfInBounds_toArray, List.set_cons_zero, List.set_cons_succ]
                      clear hS0 e8 d0 d1 df
                      have hS0 := hS1; clear hS1
                      generalize (U8.setCell ⟨b10, 0, none⟩ (.int .u64 (s0 : Int))).setCell ⟨b10, 1, none⟩ (.slice a10 n10 c10) = U9 at *
                      refine HeldBut.done (by kernel_rfl) ?_ _
                      go_wp2_with (fail)
                      go_meet
                      exact ⟨b9, b10, _, _, rfl, rfl, xU, g9, g10, hO9.ps, hO10.ps⟩
            · refine HeldBut.step (i := 6) rfl (fun K hK => ?_)
              try simp only [List.getElem_toArray, List.getElem_cons_zero, List.getElem_cons_succ]
              go_simp
              have e6 := (Ext.refl [] U7).alloc (.cells #[.int .u64 0, .slice none 0 0] 25)
              have hne : b10 ≠ U7.heap.size := by have := g10.lt; omega
              have g10 := g10.ext e6 (by simp)
              have g9 := Blk.new U7 [.int .u64 0, .slice none 0 0] 25
              have hS1 := keep4 hS0 e6 (by simp) (by simp)
              have l9 := xU.size
              have xU := xU.trans e6
              refine hK.out _ _ (fun _ => hS1) ?_; clear hK K
              try simp only [Act.put, List.getElem_toArray, List.getElem_cons_zero, List.getElem_cons_succ, List.setIfInBounds_toArray, List.set_cons_zero, List.set_cons_succ]
              clear hS0 e6
              have hS0 := hS1; clear hS1
              generalize U7.alloc (.cells #[.int .u64 0, .slice none 0 0] 25) = U6 at *
              generalize U7.heap.size = b9 at *
              refine HeldBut.each [1] (by kernel_rfl) rfl ?_
              intro i hi; simp only [List.mem_cons, List.mem_nil_iff, or_false] at hi; rcases hi with rfl
              · refine HeldBut.step (i := 1) rfl (fun K hK => ?_)
                try simp only [List.getElem_toArray, List.getElem_cons_zero, List.getElem_cons_succ]
                go_simp
                go_at_call 11
                (with_reducible refine (short_any _ _ _ _ (hPd.ext xU)).mono ?_)
                rintro e w9 ⟨v1, rs9, ⟨a9, n9, c9, rfl⟩, rfl, hO9, x1⟩
                dsimp only
                have hS1 := keep4 hS0 x1 (by simp) (by simp)
                refine hK.out _ _ (fun _ => hS1) ?_; clear hK K
                try simp only [Act.put, List.getElem_toArray, List.getElem_cons_zero, List.getElem_cons_succ, List.setIfInBounds_toArray, List.set_cons_zero, List.set_cons_succ]
                have g9 := g9.ext x1 (by simp)
                have g10 := g10.ext x1 (by simp)
                have xU := xU.trans x1
                clear hS0 x1
                have hS0 := hS1; clear hS1
                refine HeldBut.each [5] (by kernel_rfl) rfl ?_
                intro i hi; simp only [List.mem_cons, List.mem_nil_iff, or_false] at hi; rcases hi with rfl
                · refine HeldBut.step (i := 5) rfl (fun K hK => ?_)
                  try simp only [List.getElem_toArray, List.getElem_cons_zero, List.getElem_cons_succ]
                  go_simp
                  go_at_call 11
                  (with_reducible refine (short_any _ _ _ _ (hP0d.ext xU)).mono ?_)
                  rintro e w10 ⟨v1, rs10, ⟨a10, n10, c10, rfl⟩, rfl, hO10, x1⟩
                  dsimp only
                  have hS1 := keep4 hS0 x1 (by simp) (by simp)
                  refine hK.out _ _ (fun _ => hS1) ?_; clear hK K
                  try simp only [Act.put, List.getElem_toArray, List.getElem_cons_zero, List.getElem_cons_succ, List.setIfInBounds_toArray, List.set_cons_zero, List.set_cons_succ]
                  have g9 := g9.ext x1 (by simp)
                  have g10 := g10.ext x1 (by simp)
                  have hO9 := hO9.ext x1
                  have xU := xU.trans x1
                  clear hS0 x1
                  have hS0 := hS1; clear hS1
                  refine HeldBut.each [8] (by kernel_rfl) rfl ?_
                  intro i hi; simp only [List.mem_cons, List.mem_nil_iff, or_false] at hi; rcases hi with rfl
                  · obtain ⟨d0, d1⟩ := g9.c2
                    have df := g9.frozen
                    refine HeldBut.step (i := 8) rfl (fun K hK => ?_)
                    try simp only [List.getElem_toArray, List.getElem_cons_zero, List.getElem_cons_succ]
                    go_simp
                    have e8 := ((Ext.refl [b9] w10).setCell (p := ⟨b9, 0, none⟩) (.inl (by simp)) (.int .u64 (s : Int))).setCell (p := ⟨b9, 1, none⟩) (.inl (by simp)) (.slice a9 n9 c9)
                    have hS1 := keep4 hS0 e8 (by simp; omega) (by simp; omega)
                    have g10 := g10.ext e8 (by simp; omega)
                    have hO9 := hO9.other g9 (by decide) (by decide) e8
                    have hO10 := hO10.other g9 (by decide) (by decide) e8
                    have g9 := (g9.set 0 (.int .u64 (s : Int))).set 1 (.slice a9 n9 c9)
                    simp only [List.set_cons_zero, List.set_cons_succ] at g9
                    have xU := xU.trans' e8 (fun i hi => .inr (by simp at hi; omega))
                    refine hK.out _ _ (fun _ => hS1) ?_; clear hK K
                    try simp only [Act.put, List.getElem_toArray, List.getElem_cons_zero, List.getElem_cons_succ, List.setIfInBounds_toArray, List.set_cons_zero, List.set_cons_succ]
                    clear hS0 e8 d0 d1 df
                    have hS0 := hS1; clear hS1
                    generalize (w10.setCell ⟨b9, 0, none⟩ (.int .u64 (s : Int))).setCell ⟨b9, 1, none⟩ (.slice a9 n9 c9) = U8 at *
                    refine HeldBut.each [9] (by kernel_rfl) rfl ?_
                    intro i hi; simp only [List.mem_cons, List.mem_nil_iff, or_false] at hi; rcases hi with rfl
                    · obtain ⟨d0, d1⟩ := g10.c2
                      have df := g10.frozen
                      refine HeldBut.step (i := 9) rfl (fun K hK => ?_)
                      try simp only [List.getElem_toArray, List.getElem_cons_zero, List.getElem_cons_succ]
                      go_simp
                      have e8 := ((Ext.refl [b10] U8).setCell (p := ⟨b10, 0, none⟩) (.inl (by simp)) (.int .u64 (s0 : Int))).setCell (p := ⟨b10, 1, none⟩) (.inl (by simp)) (.slice a10 n10 c10)
                      have hS1 := keep4 hS0 e8 (by simp; omega) (by simp; omega)
                      have g9 := g9.ext e8 (by simp; omega)
                      have hO9 := hO9.other g10 (by decide) (by decide) e8
                      have hO10 := hO10.other g10 (by decide) (by decide) e8
                      have g10 := (g10.set 0 (.int .u64 (s0 : Int))).set 1 (.slice a10 n10 c10)
                      simp only [List.set_cons_zero, List.set_cons_succ] at g10
                      have xU := xU.trans' e8 (fun i hi => .inr (by simp at hi; omega))
                      refine hK.out _ _ (fun _ => hS1) ?_; clear hK K
                      try simp only [Act.put, List.getElem_toArray, List.getElem_cons_zero, List.getElem_cons_succ, List.setIfInBounds_toArray, List.set_cons_zero, List.set_cons_succ]
                      clear hS0 e8 d0 d1 df
                      have hS0 := hS1; clear hS1
                      generalize (U8.setCell ⟨b10, 0, none⟩ (.int .u64 (s0 : Int))).setCell ⟨b10, 1, none⟩ (.slice a10 n10 c10) = U9 at *
                      refine HeldBut.done (by kernel_rfl) ?_ _
                      go_wp2_with (fail)
                      go_meet
                      exact ⟨b9, b10, _, _, rfl, rfl, xU, g9, g10, hO9.ps, hO10.ps⟩
        case rest =>
          obtain ⟨b9, b10, v9, v10, rfl, rfl, x2, g9, g10, P9, P10⟩ := hcut
          obtain ⟨a9, c9, rfl⟩ := P9.shape
          obtain ⟨a10, c10, rfl⟩ := P10.shape
          have b8 := b8.ext x2 (by simp)
          have hP8 := hP.ext x2
          have hX := hX.trans x2
          have hsl := shortL_len l
          clear hP hP0 f0 f1 x2 hXr
          have rt := Right_any wc s _ _ P9
          have ck := fun w' (x : Ext [] wc w') => Check_any w' s _ _ (P9.ext x)
          obtain ⟨d0, d1⟩ := g9.c2
          generalize hR : right ⟨s, shortL l⟩ = R at *
          have HR := Lib.hid hR
          clear hR
          go_upto_region 10 with (first
            | (go_at_call 17; (with_reducible refine rt.mono ?_); rintro e w3 ⟨rfl, x3⟩; have d0 := cells_ext x3 d0; have d1 := cells_ext x3 d1)
            | (go_at_call 18; (with_reducible refine (ck _ x3).mono ?_); rintro e w4 ⟨rfl, x4⟩))
          have x4 := x3.trans x4
          have b8 := b8.ext x4 (by simp)
          have g9 := g9.ext x4 (by simp)
          have g10 := g10.ext x4 (by simp)
          have P9 := P9.ext x4
          have P10 := P10.ext x4
          have hP8 := hP8.ext x4
          have hX := hX.trans x4
          clear x3 x4 d0 d1 rt ck
          go_cut [70] (fun s70 wx => s70 = .bool false ∧ Ext [] w4 wx)
          case first =>
            obtain ⟨p0, p1⟩ := g9.c2
            obtain ⟨q0, q1⟩ := g10.c2
            obtain ⟨r0, r1⟩ := b8.c2
            have sa := fun w' (x : Ext [] w4 w') => Same_any w' s s0 _ _ _ _ (P9.ext x) (P10.ext x)
            have sb := fun w' (x : Ext [] w4 w') => RefSame_any w' s s0 _ _ _ _ (P9.ext x) (P10.ext x)
            have sh := fun w' (x : Ext [] w4 w') => short_any w' s _ _ (hP8.ext x)
            have sc := fun w' (x : Ext [] w4 w') v (h : Ps w' v (shortL l)) => Same_any w' s s _ _ _ _ (P9.ext x) h
            have hss : sameNt ⟨s, shortL l⟩ ⟨s, shortL l⟩ = true := by unfold sameNt; simp
            rw [hss] at sc
            generalize sameNt ⟨s, shortL l⟩ ⟨s0, shortL l0⟩ = B at *
            generalize (shortL l).length = m9 at *
            generalize (shortL l0).length = m10 at *
            clear hX hss g9 g10 b8 P9 P10 hP8
            have xd := (Ext.refl [] w4).drew
            cases R
            · go_region_held3 (fun w' => (w'.cell? ⟨b9, 0, none⟩ = some (.int .u64 (s : Int)) ∧ w'.cell? ⟨b9, 1, none⟩ = some (.slice a9 m9 c9)) ∧ (w'.cell? ⟨b10, 0, none⟩ = some (.int .u64 (s0 : Int)) ∧ w'.cell? ⟨b10, 1, none⟩ = some (.slice a10 m10 c10)) ∧ (w'.cell? ⟨pb, 0, none⟩ = some (.int .u64 (s : Int)) ∧ w'.cell? ⟨pb, 1, none⟩ = some (.slice av l.length cv)) ∧ Ext [] w4 w')
                (first | exact ⟨⟨p0, p1⟩, ⟨q0, q1⟩, ⟨r0, r1⟩, xd⟩ | assumption)
                (first
                  | (go_at_call 19; (with_reducible refine (sa _ (getS6 (by assumption))).mono ?_); rintro e w5 ⟨rfl, x5⟩; have s5 : (w5.cell? ⟨b9, 0, none⟩ = some (.int .u64 (s : Int)) ∧ w5.cell? ⟨b9, 1, none⟩ = some (.slice a9 m9 c9)) ∧ (w5.cell? ⟨b10, 0, none⟩ = some (.int .u64 (s0 : Int)) ∧ w5.cell? ⟨b10, 1, none⟩ = some (.slice a10 m10 c10)) ∧ (w5.cell? ⟨pb, 0, none⟩ = some (.int .u64 (s : Int)) ∧ w5.cell? ⟨pb, 1, none⟩ = some (.slice av l.length cv)) ∧ Ext [] w4 w5 := keep6 (by assumption) x5)
                  | (go_at_call 15; (with_reducible refine (sb _ (getS6 (by assumption))).mono ?_); rintro e w6 ⟨rfl, x6⟩; have s6 : (w6.cell? ⟨b9, 0, none⟩ = some (.int .u64 (s : Int)) ∧ w6.cell? ⟨b9, 1, none⟩ = some (.slice a9 m9 c9)) ∧ (w6.cell? ⟨b10, 0, none⟩ = some (.int .u64 (s0 : Int)) ∧ w6.cell? ⟨b10, 1, none⟩ = some (.slice a10 m10 c10)) ∧ (w6.cell? ⟨pb, 0, none⟩ = some (.int .u64 (s : Int)) ∧ w6.cell? ⟨pb, 1, none⟩ = some (.slice av l.length cv)) ∧ Ext [] w4 w6 := keep6 (by assumption) x6)
                  | (go_at_call 11; (with_reducible refine (sh _ (getS6 (by assumption))).mono ?_); rintro e w7 ⟨v7, rs7, ⟨a7, n7, c7, rfl⟩, rfl, hO7, x7⟩; have s7 : (w7.cell? ⟨b9, 0, none⟩ = some (.int .u64 (s : Int)) ∧ w7.cell? ⟨b9, 1, none⟩ = some (.slice a9 m9 c9)) ∧ (w7.cell? ⟨b10, 0, none⟩ = some (.int .u64 (s0 : Int)) ∧ w7.cell? ⟨b10, 1, none⟩ = some (.slice a10 m10 c10)) ∧ (w7.cell? ⟨pb, 0, none⟩ = some (.int .u64 (s : Int)) ∧ w7.cell? ⟨pb, 1, none⟩ = some (.slice av l.length cv)) ∧ Ext [] w4 w7 := keep6 (by assumption) x7; have p7 := hO7.ps)
                  | (go_at_call 19; (with_reducible refine (sc _ (getS6 (by assumption)) _ p7).mono ?_); rintro e w8 ⟨rfl, x8⟩; have s8 : (w8.cell? ⟨b9, 0, none⟩ = some (.int .u64 (s : Int)) ∧ w8.cell? ⟨b9, 1, none⟩ = some (.slice a9 m9 c9)) ∧ (w8.cell? ⟨b10, 0, none⟩ = some (.int .u64 (s0 : Int)) ∧ w8.cell? ⟨b10, 1, none⟩ = some (.slice a10 m10 c10)) ∧ (w8.cell? ⟨pb, 0, none⟩ = some (.int .u64 (s : Int)) ∧ w8.cell? ⟨pb, 1, none⟩ = some (.slice av l.length cv)) ∧ Ext [] w4 w8 := keep6 (by assumption) x8))
              all_goals (cases B <;> (go_wp2_with (fail); go_meet; exact ⟨rfl, getS6 s8⟩))
            · cases B <;>
              · rw [show okE true = 0 from rfl]
                have hS0 : (w4.drew.cell? ⟨b9, 0, none⟩ = some (.int .u64 (s : Int)) ∧ w4.drew.cell? ⟨b9, 1, none⟩ = some (.slice a9 m9 c9)) ∧ (w4.drew.cell? ⟨b10, 0, none⟩ = some (.int .u64 (s0 : Int)) ∧ w4.drew.cell? ⟨b10, 1, none⟩ = some (.slice a10 m10 c10)) ∧ (w4.drew.cell? ⟨pb, 0, none⟩ = some (.int .u64 (s : Int)) ∧ w4.drew.cell? ⟨pb, 1, none⟩ = some (.slice av l.length cv)) ∧ Ext [] w4 w4.drew := ⟨⟨p0, p1⟩, ⟨q0, q1⟩, ⟨r0, r1⟩, xd⟩
                refine region_but (fun u => (u.cell? ⟨b9, 0, none⟩ = some (.int .u64 (s : Int)) ∧ u.cell? ⟨b9, 1, none⟩ = some (.slice a9 m9 c9)) ∧ (u.cell? ⟨b10, 0, none⟩ = some (.int .u64 (s0 : Int)) ∧ u.cell? ⟨b10, 1, none⟩ = some (.slice a10 m10 c10)) ∧ (u.cell? ⟨pb, 0, none⟩ = some (.int .u64 (s : Int)) ∧ u.cell? ⟨pb, 1, none⟩ = some (.slice av l.length cv)) ∧ Ext [] w4 u) [] 28 rfl (by kernel_rfl) ?_
                clear p0 p1 q0 q1 r0 r1 xd
                generalize w4.drew = D0 at *
                refine HeldBut.take (i := 0) (v := ?_) rfl (by kernel_rfl) (by kernel_rfl) (by kernel_rfl) (by kernel_rfl) (fun _ _ _ h => h) (Or.inl ⟨by kernel_rfl, ?_⟩) hS0 ?_; rotate_left 1; (focus (intro u hu; (try dsimp only at hu); go_simp; try with_reducible rfl))
                try simp only [Act.put, List.getElem_toArray, List.getElem_cons_zero, List.getElem_cons_succ, List.setIfInBounds_toArray, List.set_cons_zero, List.set_cons_succ]
                refine HeldBut.take (i := 1) (v := ?_) rfl (by kernel_rfl) (by kernel_rfl) (by kernel_rfl) (by kernel_rfl) (fun _ _ _ h => h) (Or.inl ⟨by kernel_rfl, ?_⟩) hS0 ?_; rotate_left 1; (focus (intro u hu; (try dsimp only at hu); go_simp; try with_reducible rfl))
                try simp only [Act.put, List.getElem_toArray, List.getElem_cons_zero, List.getElem_cons_succ, List.setIfInBounds_toArray, List.set_cons_zero, List.set_cons_succ]
                refine HeldBut.take (i := 2) (v := ?_) rfl (by kernel_rfl) (by kernel_rfl) (by kernel_rfl) (by kernel_rfl) (fun _ _ _ h => h) (Or.inl ⟨by kernel_rfl, ?_⟩) hS0 ?_; rotate_left 1; (focus (intro u hu; (try dsimp only at hu); go_simp; try with_reducible rfl))
                try simp only [Act.put, List.getElem_toArray, List.getElem_cons_zero, List.getElem_cons_succ, List.setIfInBounds_toArray, List.set_cons_zero, List.set_cons_succ]
                refine HeldBut.take (i := 3) (v := ?_) rfl (by kernel_rfl) (by kernel_rfl) (by kernel_rfl) (by kernel_rfl) (fun _ _ _ h => h) (Or.inl ⟨by kernel_rfl, ?_⟩) hS0 ?_; rotate_left 1; (focus (intro u hu; (try dsimp only at hu); go_simp; try with_reducible rfl))
                try simp only [Act.put, List.getElem_toArray, List.getElem_cons_zero, List.getElem_cons_succ, List.setIfInBounds_toArray, List.set_cons_zero, List.set_cons_succ]
                refine HeldBut.take (i := 4) (v := ?_) rfl (by kernel_rfl) (by kernel_rfl) (by kernel_rfl) (by kernel_rfl) (fun _ _ _ h => h) (Or.inl ⟨by kernel_rfl, ?_⟩) hS0 ?_; rotate_left 1; (focus (intro u hu; (try dsimp only at hu); go_simp; try with_reducible rfl))
                try simp only [Act.put, List.getElem_toArray, List.getElem_cons_zero, List.getElem_cons_succ, List.setIfInBounds_toArray, List.set_cons_zero, List.set_cons_succ]
                refine HeldBut.take (i := 5) (v := ?_) rfl (by kernel_rfl) (by kernel_rfl) (by kernel_rfl) (by kernel_rfl) (fun _ _ _ h => h) (Or.inl ⟨by kernel_rfl, ?_⟩) hS0 ?_; rotate_left 1; (focus (intro u hu; (try dsimp only at hu); go_simp; try with_reducible rfl))
                try simp only [Act.put, List.getElem_toArray, List.getElem_cons_zero, List.getElem_cons_succ, List.setIfInBounds_toArray, List.set_cons_zero, List.set_cons_succ]
                refine HeldBut.take (i := 6) (v := ?_) rfl (by kernel_rfl) (by kernel_rfl) (by kernel_rfl) (by kernel_rfl) (fun _ _ _ h => h) (Or.inl ⟨by kernel_rfl, ?_⟩) hS0 ?_; rotate_left 1; (focus (intro u hu; (try dsimp only at hu); go_simp; try with_reducible rfl))
                try simp only [Act.put, List.getElem_toArray, List.getElem_cons_zero, List.getElem_cons_succ, List.setIfInBounds_toArray, List.set_cons_zero, List.set_cons_succ]
                refine HeldBut.take (i := 7) (v := ?_) rfl (by kernel_rfl) (by kernel_rfl) (by kernel_rfl) (by kernel_rfl) (fun _ _ _ h => h) (Or.inl ⟨by kernel_rfl, ?_⟩) hS0 ?_; rotate_left 1; (focus (intro u hu; (try dsimp only at hu); go_simp; try with_reducible rfl))
                try simp only [Act.put, List.getElem_toArray, List.getElem_cons_zero, List.getElem_cons_succ, List.setIfInBounds_toArray, List.set_cons_zero, List.set_cons_succ]
                refine HeldBut.take (i := 8) (v := undef) rfl (by kernel_rfl) (by kernel_rfl) (by kernel_rfl) (by kernel_rfl) (fun _ _ _ h => h) (Or.inr ⟨by kernel_rfl, rfl⟩) hS0 ?_
                try simp only [Act.put, List.getElem_toArray, List.getElem_cons_zero, List.getElem_cons_succ, List.setIfInBounds_toArray, List.set_cons_zero, List.set_cons_succ]
                refine HeldBut.take (i := 9) (v := undef) rfl (by kernel_rfl) (by kernel_rfl) (by kernel_rfl) (by kernel_rfl) (fun _ _ _ h => h) (Or.inr ⟨by kernel_rfl, rfl⟩) hS0 ?_
                try simp only [Act.put, List.getElem_toArray, List.getElem_cons_zero, List.getElem_cons_succ, List.setIfInBounds_toArray, List.set_cons_zero, List.set_cons_succ]
                refine HeldBut.take (i := 10) (v := ?_) rfl (by kernel_rfl) (by kernel_rfl) (by kernel_rfl) (by kernel_rfl) (fun _ _ _ h => h) (Or.inl ⟨by kernel_rfl, ?_⟩) hS0 ?_; rotate_left 1; (focus (intro u hu; (try dsimp only at hu); go_simp; try with_reducible rfl))
                try simp only [Act.put, List.getElem_toArray, List.getElem_cons_zero, List.getElem_cons_succ, List.setIfInBounds_toArray, List.set_cons_zero, List.set_cons_succ]
                refine HeldBut.take (i := 11) (v := ?_) rfl (by kernel_rfl) (by kernel_rfl) (by kernel_rfl) (by kernel_rfl) (fun _ _ _ h => h) (Or.inl ⟨by kernel_rfl, ?_⟩) hS0 ?_; rotate_left 1; (focus (intro u hu; (try dsimp only at hu); go_simp; try with_reducible rfl))
                try simp only [Act.put, List.getElem_toArray, List.getElem_cons_zero, List.getElem_cons_succ, List.setIfInBounds_toArray, List.set_cons_zero, List.set_cons_succ]
                refine HeldBut.take (i := 12) (v := ?_) rfl (by kernel_rfl) (by kernel_rfl) (by kernel_rfl) (by kernel_rfl) (fun _ _ _ h => h) (Or.inl ⟨by kernel_rfl, ?_⟩) hS0 ?_; rotate_left 1; (focus (intro u hu; (try dsimp only at hu); go_simp; try with_reducible rfl))
                try simp only [Act.put, List.getElem_toArray, List.getElem_cons_zero, List.getElem_cons_succ, List.setIfInBounds_toArray, List.set_cons_zero, List.set_cons_succ]
                refine HeldBut.take (i := 13) (v := ?_) rfl (by kernel_rfl) (by kernel_rfl) (by kernel_rfl) (by kernel_rfl) (fun _ _ _ h => h) (Or.inl ⟨by kernel_rfl, ?_⟩) hS0 ?_; rotate_left 1; (focus (intro u hu; (try dsimp only at hu); go_simp; try with_reducible rfl))
                try simp only [Act.put, List.getElem_toArray, List.getElem_cons_zero, List.getElem_cons_succ, List.setIfInBounds_toArray, List.set_cons_zero, List.set_cons_succ]
                refine HeldBut.take (i := 14) (v := ?_) rfl (by kernel_rfl) (by kernel_rfl) (by kernel_rfl) (by kernel_rfl) (fun _ _ _ h => h) (Or.inl ⟨by kernel_rfl, ?_⟩) hS0 ?_; rotate_left 1; (focus (intro u hu; (try dsimp only at hu); go_simp; try with_reducible rfl))
                try simp only [Act.put, List.getElem_toArray, List.getElem_cons_zero, List.getElem_cons_succ, List.setIfInBounds_toArray, List.set_cons_zero, List.set_cons_succ]
                refine HeldBut.take (i := 16) (v := ?_) rfl (by kernel_rfl) (by kernel_rfl) (by kernel_rfl) (by kernel_rfl) (fun _ _ _ h => h) (Or.inl ⟨by kernel_rfl, ?_⟩) hS0 ?_; rotate_left 1; (focus (intro u hu; (try dsimp only at hu); go_simp; try with_reducible rfl))
                try simp only [Act.put, List.getElem_toArray, List.getElem_cons_zero, List.getElem_cons_succ, List.setIfInBounds_toArray, List.set_cons_zero, List.set_cons_succ]
                refine HeldBut.take (i := 17) (v := ?_) rfl (by kernel_rfl) (by kernel_rfl) (by kernel_rfl) (by kernel_rfl) (fun _ _ _ h => h) (Or.inl ⟨by kernel_rfl, ?_⟩) hS0 ?_; rotate_left 1; (focus (intro u hu; (try dsimp only at hu); go_simp; try with_reducible rfl))
                try simp only [Act.put, List.getElem_toArray, List.getElem_cons_zero, List.getElem_cons_succ, List.setIfInBounds_toArray, List.set_cons_zero, List.set_cons_succ]
                refine HeldBut.one (i := 15) (by kernel_rfl) ?_
                refine HeldBut.step (i := 15) rfl (fun K hK => ?_)
                try simp only [List.getElem_toArray, List.getElem_cons_zero, List.getElem_cons_succ]
                go_simp
                go_at_call 19
                (with_reducible refine (sa _ (getS6 hS0)).mono ?_)
                rintro e w5 ⟨rfl, x5⟩
                dsimp only
                have hS1 := keep6 hS0 x5
                refine hK.out _ _ (fun _ => hS1) ?_; clear hK K
                try simp only [Act.put, List.getElem_toArray, List.getElem_cons_zero, List.getElem_cons_succ, List.setIfInBounds_toArray, List.set_cons_zero, List.set_cons_succ]
                clear hS0
                have hS0 := hS1; clear hS1
                refine HeldBut.one (i := 18) (by kernel_rfl) ?_
                refine HeldBut.step (i := 18) rfl (fun K hK => ?_)
                try simp only [List.getElem_toArray, List.getElem_cons_zero, List.getElem_cons_succ]
                go_simp
                go_at_call 15
                (with_reducible refine (sb _ (getS6 hS0)).mono ?_)
                rintro e w6 ⟨rfl, x6⟩
                dsimp only
                have hS1 := keep6 hS0 x6
                refine hK.out _ _ (fun _ => hS1) ?_; clear hK K
                try simp only [Act.put, List.getElem_toArray, List.getElem_cons_zero, List.getElem_cons_succ, List.setIfInBounds_toArray, List.set_cons_zero, List.set_cons_succ]
                clear hS0
                have hS0 := hS1; clear hS1
                refine HeldBut.take (i := 19) (v := ?_) rfl (by kernel_rfl) (by kernel_rfl) (by kernel_rfl) (by kernel_rfl) (fun _ _ _ h => h) (Or.inl ⟨by kernel_rfl, ?_⟩) hS0 ?_; rotate_left 1; (focus (intro u hu; (try dsimp only at hu); go_simp; try with_reducible rfl))
                try simp only [Act.put, List.getElem_toArray, List.getElem_cons_zero, List.getElem_cons_succ, List.setIfInBounds_toArray, List.set_cons_zero, List.set_cons_succ]
                refine HeldBut.take (i := 20) (v := ?_) rfl (by kernel_rfl) (by kernel_rfl) (by kernel_rfl) (by kernel_rfl) (fun _ _ _ h => h) (Or.inl ⟨by kernel_rfl, ?_⟩) hS0 ?_; rotate_left 1; (focus (intro u hu; (try dsimp only at hu); go_simp; try with_reducible rfl))
                try simp only [Act.put, List.getElem_toArray, List.getElem_cons_zero, List.getElem_cons_succ, List.setIfInBounds_toArray, List.set_cons_zero, List.set_cons_succ]
                refine HeldBut.take (i := 21) (v := ?_) rfl (by kernel_rfl) (by kernel_rfl) (by kernel_rfl) (by kernel_rfl) (fun _ _ _ h => h) (Or.inl ⟨by kernel_rfl, ?_⟩) hS0 ?_; rotate_left 1; (focus (intro u hu; (try dsimp only at hu); go_simp; try with_reducible rfl))
                try simp only [Act.put, List.getElem_toArray, List.getElem_cons_zero, List.getElem_cons_succ, List.setIfInBounds_toArray, List.set_cons_zero, List.set_cons_succ]
                refine HeldBut.take (i := 22) (v := ?_) rfl (by kernel_rfl) (by kernel_rfl) (by kernel_rfl) (by kernel_rfl) (fun _ _ _ h => h) (Or.inl ⟨by kernel_rfl, ?_⟩) hS0 ?_; rotate_left 1; (focus (intro u hu; (try dsimp only at hu); go_simp; try with_reducible rfl))
                try simp only [Act.put, List.getElem_toArray, List.getElem_cons_zero, List.getElem_cons_succ, List.setIfInBounds_toArray, List.set_cons_zero, List.set_cons_succ]
                refine HeldBut.take (i := 23) (v := ?_) rfl (by kernel_rfl) (by kernel_rfl) (by kernel_rfl) (by kernel_rfl) (fun _ _ _ h => h) (Or.inl ⟨by kernel_rfl, ?_⟩) hS0 ?_; rotate_left 1; (focus (intro u hu; (try dsimp only at hu); go_simp; try with_reducible rfl))
                try simp only [Act.put, List.getElem_toArray, List.getElem_cons_zero, List.getElem_cons_succ, List.setIfInBounds_toArray, List.set_cons_zero, List.set_cons_succ]
                refine HeldBut.one (i := 24) (by kernel_rfl) ?_
                refine HeldBut.step (i := 24) rfl (fun K hK => ?_)
                try simp only [List.getElem_toArray, List.getElem_cons_zero, List.getElem_cons_succ]
                go_simp
                go_at_call 11
                (with_reducible refine (sh _ (getS6 hS0)).mono ?_)
                rintro e w7 ⟨v7, rs7, ⟨a7, n7, c7, rfl⟩, rfl, hO7, x7⟩
                dsimp only
                have hS1 := keep6 hS0 x7
                refine hK.out _ _ (fun _ => hS1) ?_; clear hK K
                try simp only [Act.put, List.getElem_toArray, List.getElem_cons_zero, List.getElem_cons_succ, List.setIfInBounds_toArray, List.set_cons_zero, List.set_cons_succ]
                clear hS0
                have hS0 := hS1; clear hS1
                have p7 := hO7.ps
                refine HeldBut.one (i := 25) (by kernel_rfl) ?_
                refine HeldBut.step (i := 25) rfl (fun K hK => ?_)
                try simp only [List.getElem_toArray, List.getElem_cons_zero, List.getElem_cons_succ]
                go_simp
                go_at_call 19
                (with_reducible refine (sc _ (getS6 hS0) _ p7).mono ?_)
                rintro e w8 ⟨rfl, x8⟩
                dsimp only
                have hS1 := keep6 hS0 x8
                refine hK.out _ _ (fun _ => hS1) ?_; clear hK K
                try simp only [Act.put, List.getElem_toArray, List.getElem_cons_zero, List.getElem_cons_succ, List.setIfInBounds_toArray, List.set_cons_zero, List.set_cons_succ]
                clear hS0
                have hS0 := hS1; clear hS1
                refine HeldBut.take (i := 26) (v := ?_) rfl (by kernel_rfl) (by kernel_rfl) (by kernel_rfl) (by kernel_rfl) (fun _ _ _ h => h) (Or.inl ⟨by kernel_rfl, ?_⟩) hS0 ?_; rotate_left 1; (focus (intro u hu; (try dsimp only at hu); go_simp; try with_reducible rfl))
                try simp only [Act.put, List.getElem_toArray, List.getElem_cons_zero, List.getElem_cons_succ, List.setIfInBounds_toArray, List.set_cons_zero, List.set_cons_succ]
                refine HeldBut.take (i := 27) (v := ?_) rfl (by kernel_rfl) (by kernel_rfl) (by kernel_rfl) (by kernel_rfl) (fun _ _ _ h => h) (Or.inl ⟨by kernel_rfl, ?_⟩) hS0 ?_; rotate_left 1; (focus (intro u hu; (try dsimp only at hu); go_simp; try with_reducible rfl))
                try simp only [Act.put, List.getElem_toArray, List.getElem_cons_zero, List.getElem_cons_succ, List.setIfInBounds_toArray, List.set_cons_zero, List.set_cons_succ]
                refine HeldBut.done (by kernel_rfl) ?_ _
                go_wp2_with (fail)
                go_meet
                exact ⟨rfl, getS6 hS0⟩
          case rest =>
            obtain ⟨rfl, x5⟩ := hcut
            have g9 := g9.ext x5 (by simp)
            have P9 := P9.ext x5
            have hX := hX.trans x5
            clear b8 g10 P10 hP8 x5
            obtain ⟨d0, d1⟩ := g9.c2
            generalize shortL l = M at *
            have hfr : ∀ (node : Int), forM ⟨s, M⟩ node = if R = true then forL M node else [] := fun node => by
              unfold forM forL
              rw [HR.out]
            have hpr : ∀ (z : Int), pickM ⟨s, M⟩ z = if R = true then pickL M z else (0, false) := fun z => by
              unfold pickM pickL
              rw [HR.out]
              rfl
            have Hfr := Lib.hid hfr
            have Hpr := Lib.hid hpr
            clear hfr hpr
            have hfo := fun w' (x : Ext [] wc w') node => For_any w' s node _ M (P9.ext x)
            have hrf := fun w' (x : Ext [] wc w') node => RefFor_any w' s node _ M (P9.ext x) (by omega)
            have hpk := fun w' (x : Ext [] wc w') z h1 h2 => Pick_any w' s z _ M (P9.ext x) h1 h2
            have hrp := fun w' (x : Ext [] wc w') z h1 h2 => RefPick_any w' s z _ M (P9.ext x) (by omega) h1 h2
            have hZ1 := hZ1.ext hX
            have hZ2 := hZ2.ext hX
            clear g9 P9
            go_wp2_with (fail)
            go_loopw [73] (fun i wr => ∃ j : Nat, j ≤ l1.length ∧ i = .int .i64 (j : Int) ∧ Ext [] wc wr) (fun i _ => l1.length - (intOf i).toNat)
            case atStart => exact ⟨0, by omega, rfl, Ext.refl _ _⟩
            case round =>
              obtain ⟨j, hj, rfl, xr⟩ := hrel
              by_cases hjl : j < l1.length
              · obtain ⟨node, hnode⟩ : ∃ x, l1[j]? = some x := ⟨_, List.getElem?_eq_getElem hjl⟩
                obtain ⟨-, ob1, oo1, rfl, z0⟩ := (hZ1.ext xr) j node hnode
                have e0 := cells_ext xr d0
                have e1 := cells_ext xr d1
                have fo := fun w' x => hfo w' x node
                rw [Hfr.out node] at fo
                have rf := hrf wr xr node
                clear hnode hfo hrf hpk hrp
                by_cases hj10 : j < 10
                · have hj10' : (j : Int) < 10 := by omega
                  cases R
                  · simp only [Bool.false_eq_true, if_false] at fo
                    clear rf
                    go_wp2_with (first
                      | (go_at_call 22; (with_reducible refine (fo _ xr).mono ?_); rintro e w7 ⟨v7, rfl, hO7, x7⟩; obtain ⟨a7, c7, rfl⟩ := own_shape hO7; obtain ⟨ob7, hS7, _⟩ := Sl.of_own hO7)
                      | (go_at_call 21; (with_reducible refine (SameNums_any _ _ _ _ _ _ _ (show Us _ (.slice a7 0 c7) ob7 [] from hS7) (show Us _ (.slice none 0 0) 0 [] from Sl.nil _ 0 1)).mono ?_); rintro e w8 ⟨rfl, x8⟩))
                    go_roundw
                    case rel => exact ⟨j + 1, by omega, by go_num, (xr.trans x7).trans x8⟩
                    case measure => simp [intOf]; omega
                  · simp only [if_true] at fo
                    go_wp2_with (first
                      | (go_at_call 20; (with_reducible refine rf.mono ?_); rintro e w6 ⟨v6, rfl, hO6, x6⟩; obtain ⟨a6, c6, rfl⟩ := own_shape hO6; obtain ⟨ob6, hS6, _⟩ := Sl.of_own hO6; have xx := xr.trans x6; have e0 := cells_ext x6 e0; have e1 := cells_ext x6 e1)
                      | (go_at_call 22; (with_reducible refine (fo _ xx).mono ?_); rintro e w7 ⟨v7, rfl, hO7, x7⟩; obtain ⟨a7, c7, rfl⟩ := own_shape hO7; obtain ⟨ob7, hS7, _⟩ := Sl.of_own hO7)
                      | (go_at_call 21; (with_reducible refine (SameNums_any _ _ _ _ _ _ _ hS7 (hS6.ext x7 (by simp))).mono ?_); rintro e w8 ⟨rfl, x8⟩))
                    go_roundw
                    case rel => exact ⟨j + 1, by omega, by go_num, (xx.trans x7).trans x8⟩
                    case measure => simp [intOf]; omega
                · have hj10' : ¬ ((j : Int) < 10) := by omega
                  cases R
                  · clear rf fo
                    go_wp2_with (fail)
                    go_roundw
                    case rel => exact ⟨j + 1, by omega, by go_num, xr⟩
                    case measure => simp [intOf]; omega
                  · clear fo
                    go_wp2_with (first
                      | (go_at_call 20; (with_reducible refine rf.mono ?_); rintro e w6 ⟨v6, rfl, hO6, x6⟩; obtain ⟨a6, c6, rfl⟩ := own_shape hO6; obtain ⟨ob6, hS6, _⟩ := Sl.of_own hO6; have xx := xr.trans x6; have e0 := cells_ext x6 e0; have e1 := cells_ext x6 e1))
                    go_roundw
                    case rel => exact ⟨j + 1, by omega, by go_num, xx⟩
                    case measure => simp [intOf]; omega
              · obtain rfl : j = l1.length := by omega
                clear hfo hrf
                have xq := xr
                go_wp2_with (fail)
                go_loopw [95] (fun i wr => ∃ j : Nat, j ≤ l2.length ∧ i = .int .i64 (j : Int) ∧ Ext [] wc wr) (fun i _ => l2.length - (intOf i).toNat)
                case atStart => exact ⟨0, by omega, rfl, xr⟩
                case round =>
                  clear xr xq
                  obtain ⟨j, hj, rfl, xr⟩ := hrel
                  by_cases hjl : j < l2.length
                  · by_cases hj10 : j = 10
                    · subst hj10
                      obtain ⟨z, hz⟩ : ∃ x, l2[10]? = some x := ⟨_, List.getElem?_eq_getElem hjl⟩
                      obtain ⟨-, ob2, oo2, rfl, z0⟩ := (hZ2.ext xr) 10 z hz
                      clear hpk hrp hz
                      go_wp2_with (fail)
                      go_roundw
                      case rel => exact ⟨k + 1, by omega, by go_num, hX.trans xr⟩
                      case measure => simp [intOf]; omega
                    · have hj10' : ((j : Int) == 10) = false := by rw [beq_eq_false_iff_ne]; omega
                      obtain ⟨z, hz⟩ : ∃ x, l2[j]? = some x := ⟨_, List.getElem?_eq_getElem hjl⟩
                      obtain ⟨⟨zb1, zb2⟩, ob2, oo2, rfl, z0⟩ := (hZ2.ext xr) j z hz
                      have e0 := cells_ext xr d0
                      have e1 := cells_ext xr d1
                      have pk := hpk wr xr z zb1 zb2
                      rw [Hpr.out z] at pk
                      have rp := fun w' x => hrp w' x z zb1 zb2
                      clear hpk hrp hz zb1 zb2 hj10
                      cases R
                      · simp only [Bool.false_eq_true, if_false] at pk
                        clear rp
                        go_wp2_with (first
                          | (go_at_call 23; (with_reducible refine pk.mono ?_); rintro e w6 ⟨rfl, x6⟩; have xx := xr.trans x6; have e0 := cells_ext x6 e0; have e1 := cells_ext x6 e1))
                        go_roundw
                        case rel => exact ⟨j + 1, by omega, by go_num, xx⟩
                        case measure => simp [intOf]; omega
                      · simp only [if_true] at pk
                        generalize pickL M z = T at *
                        obtain ⟨T1, T2⟩ := T
                        cases T2 <;>
                        · go_wp2_with (first
                            | (go_at_call 23; (with_reducible refine pk.mono ?_); rintro e w6 ⟨rfl, x6⟩; have xx := xr.trans x6; have e0 := cells_ext x6 e0; have e1 := cells_ext x6 e1)
                            | (go_at_call 24; (with_reducible refine (rp _ xx).mono ?_); rintro e w7 ⟨rfl, x7⟩))
                          go_roundw
                          case rel => exact ⟨j + 1, by omega, by go_num, xx.trans x7⟩
                          case measure => simp [intOf]; omega
                  · obtain rfl : j = l2.length := by omega
                    go_wp2_with (fail)
                    go_roundw
                    case rel => exact ⟨k + 1, by omega, by go_num, hX.trans xr⟩
                    case measure => simp [intOf]; omega
    · obtain rfl : k = L.length := by omega
      go_wp2_with (fail)
      go_ret
      exact ⟨rfl, hX.below⟩
end Go.Proofs.Ytdiachkimgkkbaa
