/-
  What becomes of a copy of a net by what is done to a parcel: changedAt.
-/
import Derived.Test.YtpdfmeaemlgniaaNetF
namespace Go.Proofs.Ytpdfmeaemlgniaa
open Go.RowKit
set_option linter.unusedVariables false
theorem keepC2 {W w w' : World} {b b' : Nat} {v0 v1 v2 : Value} (h : w.cell? ⟨b, 0, none⟩ = some v0 ∧ w.cell? ⟨b, 1, none⟩ = some v1 ∧ w.cell? ⟨b', 0, none⟩ = some v2 ∧ Ext [] W w) (e : Ext [] w w') :
    w'.cell? ⟨b, 0, none⟩ = some v0 ∧ w'.cell? ⟨b, 1, none⟩ = some v1 ∧ w'.cell? ⟨b', 0, none⟩ = some v2 ∧ Ext [] W w' := ⟨cells_ext e h.1, cells_ext e h.2.1, cells_ext e h.2.2.1, h.2.2.2.trans e⟩
theorem fnd_num {l : List Par} {k i : Nat} {p : Par} (h : fnd l k = i) (hp : l[i]? = some p) : p.num = k := by
  unfold fnd at h
  have hi := (List.getElem?_eq_some_iff.1 hp)
  have := ((List.findIdx_eq hi.1).1 h).1
  rw [hi.2] at this
  simpa using this
theorem find_yes (w : World) (s : Nat) (v : Value) (l : List Par) (k i : Nat) (p : Par) (hP : Ps w v l) (hS : l.Pairwise (fun p q => p.num < q.num)) (hl : l.length ≤ 100000) (hi : fnd l k = i) (hp : l[i]? = some p) :
    Calls Try.prog 72 #[NV s v, .int .u64 (k : Int)] w fun e w' => e = .returned (.tuple #[.int .i64 (i : Int), .bool true]) ∧ Ext [] w w' := by
  refine (find_any w s v l k hP hS hl).mono ?_
  rintro e w' ⟨x, ⟨j, q, rfl, h1, h2, h3⟩ | ⟨j, rfl, h1⟩⟩
  · rw [← hi, h3]; exact ⟨rfl, x⟩
  · have := (List.getElem?_eq_some_iff.1 hp).1; omega
theorem find_no (w : World) (s : Nat) (v : Value) (l : List Par) (k : Nat) (hP : Ps w v l) (hS : l.Pairwise (fun p q => p.num < q.num)) (hl : l.length ≤ 100000) (hi : fnd l k = l.length) :
    Calls Try.prog 72 #[NV s v, .int .u64 (k : Int)] w fun e w' => ∃ i : Nat, e = .returned (.tuple #[.int .i64 (i : Int), .bool false]) ∧ Ext [] w w' := by
  refine (find_any w s v l k hP hS hl).mono ?_
  rintro e w' ⟨x, ⟨j, q, rfl, h1, h2, h3⟩ | ⟨j, rfl, h1⟩⟩
  · have := (List.getElem?_eq_some_iff.1 h1).1; omega
  · exact ⟨j, rfl, x⟩
set_option maxHeartbeats 4000000 in
theorem at1_Come (W : World) (b tn td S s k : Nat) (vv : Value) (l : List Par) (rs : List PRaw) (caps : Array Value) (E : Int) (C : List Nat) (D : Nat → Value → World → Prop)
    (hN : Blk W b 25 [.int .u64 (s : Int), vv]) (hO : OPs S W vv l rs) (hk : W.cell? ⟨tn, 0, none⟩ = some (.int .u64 (k : Int))) (hf : W.cell? ⟨td, 0, none⟩ = some (.func (.func 61) #[] caps))
    (hS : l.Pairwise (fun p q => p.num < q.num)) (hl : l.length ≤ 100000) (h4 : fnd l k = l.length → E = 4 ∧ ∀ s v w', Ext [] W w' → D s v w')
    (hd : ∀ W' i p, Ext [] W W' → l[i]? = some p → p.num = k → fnd l k = i → Calls Try.prog 61 (#[pt b, .int .i64 (i : Int)] ++ caps) W' fun e w' => ∃ (s' : Nat) (v' : Value), (∃ a' n' c', v' = .slice a' n' c') ∧ e = .returned (.int .i64 E) ∧ Blk w' b 25 [.int .u64 (s' : Int), v'] ∧ D s' v' w' ∧ Did S b C W' w') :
    Calls Try.prog 71 #[pt b, pt tn, pt td] W fun e w' => ∃ (s' : Nat) (v' : Value), (∃ a' n' c', v' = .slice a' n' c') ∧ e = .returned (.int .i64 E) ∧ Blk w' b 25 [.int .u64 (s' : Int), v'] ∧ D s' v' w' ∧ Did S b C W w' := by
  have hP := hO.ps
  obtain ⟨a, c, rfl⟩ := hO.shape
  have hEx := fun (U : World) (x : Ext [] W U) => hN.ext x (by simp)
  by_cases hlt : fnd l k < l.length
  · obtain ⟨i, hi⟩ : ∃ i, fnd l k = i := ⟨_, rfl⟩
    have hp : l[i]? = some (l[i]'(by rw [← hi]; exact hlt)) := List.getElem?_eq_getElem _
    generalize l[i]'(by rw [← hi]; exact hlt) = p at *
    have hnum := fnd_num hi hp
    have fi := fun U (x : Ext [] W U) => find_yes U s _ l k i p (hP.ext x) hS hl hi hp
    have hd := fun U (x : Ext [] W U) => hd U i p x hp hnum hi
    clear hP hO hS hi hp h4 hnum hlt
    obtain ⟨n0, n1⟩ := hN.c2
    go_enter Try.func71, Try.ntmps71
    go_wp2_with (fail)
    go_region_held3 (fun w' => w'.cell? ⟨b, 0, none⟩ = some (.int .u64 (s : Int)) ∧ w'.cell? ⟨b, 1, none⟩ = some (.slice a l.length c) ∧ w'.cell? ⟨tn, 0, none⟩ = some (.int .u64 (k : Int)) ∧ Ext [] W w')
      (first | exact ⟨n0, n1, hk, (Ext.refl [] W).drew⟩ | assumption)
      (first
        | (go_at_call 72; (with_reducible refine (fi _ (by first | exact (Ext.refl [] W).drew | exact (Ext.refl [] W))).mono ?_); rintro e w1 ⟨rfl, x1⟩; have s1 := keepC2 (by assumption) x1))
    have hf1 := cells_ext s1.2.2.2 hf
    have hd1 := hd _ s1.2.2.2
    have HX := Lib.hid s1.2.2.2
    clear hd fi s1 n0 n1 hk hf
    go_wp2_with (go_at_call 61; (with_reducible refine hd1.mono ?_); rintro e w4 ⟨s4, v4, hv4, rfl, hN4, hD4, hdid⟩; have HD4 := Lib.hid (And.intro hv4 (And.intro hN4 (And.intro hD4 hdid))); clear hv4 hN4 hD4 hdid)
    go_ret
    exact ⟨s4, v4, HD4.out.1, rfl, HD4.out.2.1, HD4.out.2.2.1, (Did.ofExt HX.out).trans HD4.out.2.2.2⟩
  · have hi : fnd l k = l.length := by
      have : fnd l k ≤ l.length := List.findIdx_le_length
      omega
    have fi := fun U (x : Ext [] W U) => find_no U s _ l k (hP.ext x) hS hl hi
    have H4 := Lib.hid (h4 hi)
    obtain rfl := (h4 hi).1
    clear hP hO hS hi h4 hd hlt
    obtain ⟨n0, n1⟩ := hN.c2
    go_enter Try.func71, Try.ntmps71
    go_wp2_with (fail)
    go_region_held3 (fun w' => w'.cell? ⟨b, 0, none⟩ = some (.int .u64 (s : Int)) ∧ w'.cell? ⟨b, 1, none⟩ = some (.slice a l.length c) ∧ w'.cell? ⟨tn, 0, none⟩ = some (.int .u64 (k : Int)) ∧ Ext [] W w')
      (first | exact ⟨n0, n1, hk, (Ext.refl [] W).drew⟩ | assumption)
      (first
        | (go_at_call 72; (with_reducible refine (fi _ (by first | exact (Ext.refl [] W).drew | exact (Ext.refl [] W))).mono ?_); rintro e w1 ⟨i, rfl, x1⟩; have s1 := keepC2 (by assumption) x1))
    have HX := Lib.hid s1.2.2.2
    clear fi s1 n0 n1 hk hf
    go_wp2_with (fail)
    go_ret
    exact ⟨s, _, ⟨_, _, _, rfl⟩, rfl, hEx _ HX.out, H4.out.2 _ _ _ HX.out, Did.ofExt HX.out⟩
set_option maxHeartbeats 4000000 in
theorem at1_Twin (W : World) (b tn td S s k : Nat) (vv : Value) (l : List Par) (rs : List PRaw) (caps : Array Value) (E : Int) (C : List Nat) (D : Nat → Value → World → Prop)
    (hN : Blk W b 25 [.int .u64 (s : Int), vv]) (hO : OPs S W vv l rs) (hk : W.cell? ⟨tn, 0, none⟩ = some (.int .u64 (k : Int))) (hf : W.cell? ⟨td, 0, none⟩ = some (.func (.func 56) #[] caps))
    (hS : l.Pairwise (fun p q => p.num < q.num)) (hl : l.length ≤ 100000) (h4 : fnd l k = l.length → E = 4 ∧ ∀ s v w', Ext [] W w' → D s v w')
    (hd : ∀ W' i p, Ext [] W W' → l[i]? = some p → p.num = k → fnd l k = i → Calls Try.prog 56 (#[pt b, .int .i64 (i : Int)] ++ caps) W' fun e w' => ∃ (s' : Nat) (v' : Value), (∃ a' n' c', v' = .slice a' n' c') ∧ e = .returned (.int .i64 E) ∧ Blk w' b 25 [.int .u64 (s' : Int), v'] ∧ D s' v' w' ∧ Did S b C W' w') :
    Calls Try.prog 71 #[pt b, pt tn, pt td] W fun e w' => ∃ (s' : Nat) (v' : Value), (∃ a' n' c', v' = .slice a' n' c') ∧ e = .returned (.int .i64 E) ∧ Blk w' b 25 [.int .u64 (s' : Int), v'] ∧ D s' v' w' ∧ Did S b C W w' := by
  have hP := hO.ps
  obtain ⟨a, c, rfl⟩ := hO.shape
  have hEx := fun (U : World) (x : Ext [] W U) => hN.ext x (by simp)
  by_cases hlt : fnd l k < l.length
  · obtain ⟨i, hi⟩ : ∃ i, fnd l k = i := ⟨_, rfl⟩
    have hp : l[i]? = some (l[i]'(by rw [← hi]; exact hlt)) := List.getElem?_eq_getElem _
    generalize l[i]'(by rw [← hi]; exact hlt) = p at *
    have hnum := fnd_num hi hp
    have fi := fun U (x : Ext [] W U) => find_yes U s _ l k i p (hP.ext x) hS hl hi hp
    have hd := fun U (x : Ext [] W U) => hd U i p x hp hnum hi
    clear hP hO hS hi hp h4 hnum hlt
    obtain ⟨n0, n1⟩ := hN.c2
    go_enter Try.func71, Try.ntmps71
    go_wp2_with (fail)
    go_region_held3 (fun w' => w'.cell? ⟨b, 0, none⟩ = some (.int .u64 (s : Int)) ∧ w'.cell? ⟨b, 1, none⟩ = some (.slice a l.length c) ∧ w'.cell? ⟨tn, 0, none⟩ = some (.int .u64 (k : Int)) ∧ Ext [] W w')
      (first | exact ⟨n0, n1, hk, (Ext.refl [] W).drew⟩ | assumption)
      (first
        | (go_at_call 72; (with_reducible refine (fi _ (by first | exact (Ext.refl [] W).drew | exact (Ext.refl [] W))).mono ?_); rintro e w1 ⟨rfl, x1⟩; have s1 := keepC2 (by assumption) x1))
    have hf1 := cells_ext s1.2.2.2 hf
    have hd1 := hd _ s1.2.2.2
    have HX := Lib.hid s1.2.2.2
    clear hd fi s1 n0 n1 hk hf
    go_wp2_with (go_at_call 56; (with_reducible refine hd1.mono ?_); rintro e w4 ⟨s4, v4, hv4, rfl, hN4, hD4, hdid⟩; have HD4 := Lib.hid (And.intro hv4 (And.intro hN4 (And.intro hD4 hdid))); clear hv4 hN4 hD4 hdid)
    go_ret
    exact ⟨s4, v4, HD4.out.1, rfl, HD4.out.2.1, HD4.out.2.2.1, (Did.ofExt HX.out).trans HD4.out.2.2.2⟩
  · have hi : fnd l k = l.length := by
      have : fnd l k ≤ l.length := List.findIdx_le_length
      omega
    have fi := fun U (x : Ext [] W U) => find_no U s _ l k (hP.ext x) hS hl hi
    have H4 := Lib.hid (h4 hi)
    obtain rfl := (h4 hi).1
    clear hP hO hS hi h4 hd hlt
    obtain ⟨n0, n1⟩ := hN.c2
    go_enter Try.func71, Try.ntmps71
    go_wp2_with (fail)
    go_region_held3 (fun w' => w'.cell? ⟨b, 0, none⟩ = some (.int .u64 (s : Int)) ∧ w'.cell? ⟨b, 1, none⟩ = some (.slice a l.length c) ∧ w'.cell? ⟨tn, 0, none⟩ = some (.int .u64 (k : Int)) ∧ Ext [] W w')
      (first | exact ⟨n0, n1, hk, (Ext.refl [] W).drew⟩ | assumption)
      (first
        | (go_at_call 72; (with_reducible refine (fi _ (by first | exact (Ext.refl [] W).drew | exact (Ext.refl [] W))).mono ?_); rintro e w1 ⟨i, rfl, x1⟩; have s1 := keepC2 (by assumption) x1))
    have HX := Lib.hid s1.2.2.2
    clear fi s1 n0 n1 hk hf
    go_wp2_with (fail)
    go_ret
    exact ⟨s, _, ⟨_, _, _, rfl⟩, rfl, hEx _ HX.out, H4.out.2 _ _ _ HX.out, Did.ofExt HX.out⟩
set_option maxHeartbeats 4000000 in
theorem at1_Spoil (W : World) (b tn td S s k : Nat) (vv : Value) (l : List Par) (rs : List PRaw) (caps : Array Value) (E : Int) (C : List Nat) (D : Nat → Value → World → Prop)
    (hN : Blk W b 25 [.int .u64 (s : Int), vv]) (hO : OPs S W vv l rs) (hk : W.cell? ⟨tn, 0, none⟩ = some (.int .u64 (k : Int))) (hf : W.cell? ⟨td, 0, none⟩ = some (.func (.func 60) #[] caps))
    (hS : l.Pairwise (fun p q => p.num < q.num)) (hl : l.length ≤ 100000) (h4 : fnd l k = l.length → E = 4 ∧ ∀ s v w', Ext [] W w' → D s v w')
    (hd : ∀ W' i p, Ext [] W W' → l[i]? = some p → p.num = k → fnd l k = i → Calls Try.prog 60 (#[pt b, .int .i64 (i : Int)] ++ caps) W' fun e w' => ∃ (s' : Nat) (v' : Value), (∃ a' n' c', v' = .slice a' n' c') ∧ e = .returned (.int .i64 E) ∧ Blk w' b 25 [.int .u64 (s' : Int), v'] ∧ D s' v' w' ∧ Did S b C W' w') :
    Calls Try.prog 71 #[pt b, pt tn, pt td] W fun e w' => ∃ (s' : Nat) (v' : Value), (∃ a' n' c', v' = .slice a' n' c') ∧ e = .returned (.int .i64 E) ∧ Blk w' b 25 [.int .u64 (s' : Int), v'] ∧ D s' v' w' ∧ Did S b C W w' := by
  have hP := hO.ps
  obtain ⟨a, c, rfl⟩ := hO.shape
  have hEx := fun (U : World) (x : Ext [] W U) => hN.ext x (by simp)
  by_cases hlt : fnd l k < l.length
  · obtain ⟨i, hi⟩ : ∃ i, fnd l k = i := ⟨_, rfl⟩
    have hp : l[i]? = some (l[i]'(by rw [← hi]; exact hlt)) := List.getElem?_eq_getElem _
    generalize l[i]'(by rw [← hi]; exact hlt) = p at *
    have hnum := fnd_num hi hp
    have fi := fun U (x : Ext [] W U) => find_yes U s _ l k i p (hP.ext x) hS hl hi hp
    have hd := fun U (x : Ext [] W U) => hd U i p x hp hnum hi
    clear hP hO hS hi hp h4 hnum hlt
    obtain ⟨n0, n1⟩ := hN.c2
    go_enter Try.func71, Try.ntmps71
    go_wp2_with (fail)
    go_region_held3 (fun w' => w'.cell? ⟨b, 0, none⟩ = some (.int .u64 (s : Int)) ∧ w'.cell? ⟨b, 1, none⟩ = some (.slice a l.length c) ∧ w'.cell? ⟨tn, 0, none⟩ = some (.int .u64 (k : Int)) ∧ Ext [] W w')
      (first | exact ⟨n0, n1, hk, (Ext.refl [] W).drew⟩ | assumption)
      (first
        | (go_at_call 72; (with_reducible refine (fi _ (by first | exact (Ext.refl [] W).drew | exact (Ext.refl [] W))).mono ?_); rintro e w1 ⟨rfl, x1⟩; have s1 := keepC2 (by assumption) x1))
    have hf1 := cells_ext s1.2.2.2 hf
    have hd1 := hd _ s1.2.2.2
    have HX := Lib.hid s1.2.2.2
    clear hd fi s1 n0 n1 hk hf
    go_wp2_with (go_at_call 60; (with_reducible refine hd1.mono ?_); rintro e w4 ⟨s4, v4, hv4, rfl, hN4, hD4, hdid⟩; have HD4 := Lib.hid (And.intro hv4 (And.intro hN4 (And.intro hD4 hdid))); clear hv4 hN4 hD4 hdid)
    go_ret
    exact ⟨s4, v4, HD4.out.1, rfl, HD4.out.2.1, HD4.out.2.2.1, (Did.ofExt HX.out).trans HD4.out.2.2.2⟩
  · have hi : fnd l k = l.length := by
      have : fnd l k ≤ l.length := List.findIdx_le_length
      omega
    have fi := fun U (x : Ext [] W U) => find_no U s _ l k (hP.ext x) hS hl hi
    have H4 := Lib.hid (h4 hi)
    obtain rfl := (h4 hi).1
    clear hP hO hS hi h4 hd hlt
    obtain ⟨n0, n1⟩ := hN.c2
    go_enter Try.func71, Try.ntmps71
    go_wp2_with (fail)
    go_region_held3 (fun w' => w'.cell? ⟨b, 0, none⟩ = some (.int .u64 (s : Int)) ∧ w'.cell? ⟨b, 1, none⟩ = some (.slice a l.length c) ∧ w'.cell? ⟨tn, 0, none⟩ = some (.int .u64 (k : Int)) ∧ Ext [] W w')
      (first | exact ⟨n0, n1, hk, (Ext.refl [] W).drew⟩ | assumption)
      (first
        | (go_at_call 72; (with_reducible refine (fi _ (by first | exact (Ext.refl [] W).drew | exact (Ext.refl [] W))).mono ?_); rintro e w1 ⟨i, rfl, x1⟩; have s1 := keepC2 (by assumption) x1))
    have HX := Lib.hid s1.2.2.2
    clear fi s1 n0 n1 hk hf
    go_wp2_with (fail)
    go_ret
    exact ⟨s, _, ⟨_, _, _, rfl⟩, rfl, hEx _ HX.out, H4.out.2 _ _ _ HX.out, Did.ofExt HX.out⟩
end Go.Proofs.Ytpdfmeaemlgniaa
