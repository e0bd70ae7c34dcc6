/-
  Send and Twin.
-/
import Derived.Test.YtpdfmeaemlgniaaNetI
import Derived.RegionTactic
namespace Go.Proofs.Ytpdfmeaemlgniaa
open Go.RowKit
set_option linter.unusedVariables false
set_option linter.unusedSimpArgs false
theorem results_cell_tmp2 {fn : Func} {p u v : Tmp} {ty : TypeId} (h : fn.results = #[.cell p ty, .tmp u, .tmp v]) (tmps : Array Value) (P : Program) (w : World) :
    (results fn tmps).run P w =
      ((asAddr (tmps.getD p undef)).run P w).andThen fun a w₁ => ((loadVar ty a).run P w₁).andThen fun x w₂ => .ok (.tuple #[x, tmps.getD u undef, tmps.getD v undef]) w₂ := by
  simp only [results, h]
  simp [Sem.run_bind, Result.andThen]
theorem results_cell_cell_tmp {fn : Func} {p p' v : Tmp} {ty ty' : TypeId} (h : fn.results = #[.cell p ty, .cell p' ty', .tmp v]) (tmps : Array Value) (P : Program) (w : World) :
    (results fn tmps).run P w =
      ((asAddr (tmps.getD p undef)).run P w).andThen fun a w₁ => ((loadVar ty a).run P w₁).andThen fun x w₂ => ((asAddr (tmps.getD p' undef)).run P w₂).andThen fun a' w₃ => ((loadVar ty' a').run P w₃).andThen fun x' w₄ => .ok (.tuple #[x, x', tmps.getD v undef]) w₄ := by
  simp only [results, h]
  simp [Sem.run_bind, Result.andThen]
/-- the end of a function whose first result is a struct in memory, and two more in slots -/
theorem ret_cell_tmp2 {P : Program} {fn : Func} {R : Ending → World → Prop} {a : Act} {w : World} {p u v : Tmp} {ty t : TypeId} {g : Nat} {cs : List Value} {d : TypeDesc}
    (hres : fn.results = #[.cell p ty, .tmp u, .tmp v]) (hp : a.tmps.getD p undef = .pointer (some ⟨g, 0, none⟩)) (hg : Blk w g t cs) (hu : P.underlying ty = some d)
    (hd : (match d with | .struct _ | .array _ _ => true | _ => false) = true) (hi : (P.info? ty).map (·.size) = some cs.length) (hdf : a.defers = [])
    (hR : R (.returned (.tuple #[.agg cs.toArray, a.tmps.getD u undef, a.tmps.getD v undef])) w) : bodyPost P fn R .ret a w := by
  refine bodyPost_ret (v := .tuple #[.agg cs.toArray, a.tmps.getD u undef, a.tmps.getD v undef]) ?_ hdf hR
  have := run_loadVar_row (P := P) w g t ty cs.toArray (0, 0) d hg hu hd (by simpa using hi)
  rw [results_cell_tmp2 hres, hp]
  simp [asAddr, Result.andThen, this]
/-- the end of a function whose first two results are structs in memory, and one more in a slot -/
theorem ret_cell_cell_tmp {P : Program} {fn : Func} {R : Ending → World → Prop} {a : Act} {w : World} {p p' v : Tmp} {ty t ty' t' : TypeId} {g g' : Nat} {cs cs' : List Value} {d d' : TypeDesc}
    (hres : fn.results = #[.cell p ty, .cell p' ty', .tmp v]) (hp : a.tmps.getD p undef = .pointer (some ⟨g, 0, none⟩)) (hg : Blk w g t cs) (hu : P.underlying ty = some d)
    (hd : (match d with | .struct _ | .array _ _ => true | _ => false) = true) (hi : (P.info? ty).map (·.size) = some cs.length)
    (hp' : a.tmps.getD p' undef = .pointer (some ⟨g', 0, none⟩)) (hg' : Blk w g' t' cs') (hu' : P.underlying ty' = some d')
    (hd' : (match d' with | .struct _ | .array _ _ => true | _ => false) = true) (hi' : (P.info? ty').map (·.size) = some cs'.length) (hdf : a.defers = [])
    (hR : R (.returned (.tuple #[.agg cs.toArray, .agg cs'.toArray, a.tmps.getD v undef])) w) : bodyPost P fn R .ret a w := by
  refine bodyPost_ret (v := .tuple #[.agg cs.toArray, .agg cs'.toArray, a.tmps.getD v undef]) ?_ hdf hR
  have h1 := run_loadVar_row (P := P) w g t ty cs.toArray (0, 0) d hg hu hd (by simpa using hi)
  have h2 := run_loadVar_row (P := P) w g' t' ty' cs'.toArray (0, 0) d' hg' hu' hd' (by simpa using hi')
  rw [results_cell_cell_tmp hres, hp, hp']
  simp [asAddr, Result.andThen, h1, h2]
/-- what a deed leaves: the net that is to be, if it is no error -/
def DN (A : Nat) (T : Told) (s' : Nat) (v' : Value) (w' : World) : Prop := T.e = 0 → s' = T.n.s ∧ ∃ rs', OPs A w' v' T.n.ps rs'
theorem addM_full {n : Nt} {p : Par} (h : n.ps.length = 20000 ∨ n.s = 1099511627776) : addM n p = { e := 6 } := by unfold addM; rw [if_pos h]
theorem addM_ok {n : Nt} {p : Par} (h : ¬ (n.ps.length = 20000 ∨ n.s = 1099511627776)) : addM n p = { n := ⟨n.s + 1, n.ps ++ [{ p with num := n.s + 1 }]⟩, num := n.s + 1 } := by unfold addM; rw [if_neg h]
/-- add, either way -/
theorem add_any (W : World) (b S s num : Nat) (v : Value) (l : List Par) (rs : List PRaw) (hN : Blk W b 25 [.int .u64 (s : Int), v]) (hO : OPs S W v l rs) (hbS : b < S) (hS : S ≤ W.heap.size)
    (fr tt : Int) (a : Option Addr) (c ob : Nat) (sp : Bool) (bs : List UInt8) (hb : Bs W (.slice a bs.length c) ob bs) (hbl : bs.length ≤ 100000) (hR : right ⟨s, l⟩ = true) (num' : Nat) :
    Calls Try.prog 53 #[pt b, PV num fr tt (.slice a bs.length c) sp] W fun e w' => ∃ (s' : Nat) (v' : Value), (∃ a' n' c', v' = .slice a' n' c') ∧ e = .returned (.int .i64 (addM ⟨s, l⟩ ⟨num', fr, tt, bs, sp⟩).e) ∧ Blk w' b 25 [.int .u64 (s' : Int), v'] ∧ DN S (addM ⟨s, l⟩ ⟨num', fr, tt, bs, sp⟩) s' v' w' ∧ Did S b [] W w' := by
  have hr := right_len hR
  obtain ⟨av, cv, rfl⟩ := hO.shape
  by_cases h : l.length = 20000 ∨ s = 1099511627776
  · rw [addM_full h]
    refine (add_full W b s num _ l av cv rfl hN fr tt a bs.length c sp h).mono ?_
    rintro e w' ⟨rfl, x⟩
    exact ⟨s, _, ⟨_, _, _, rfl⟩, rfl, hN.ext x (by simp), (fun h => by cases h), Did.ofExt x⟩
  · rw [addM_ok h]
    refine (add_ok W b S s num _ l rs hN hO hbS hS fr tt a c ob sp bs hb hbl (by have := hr.2.1; dsimp only at this; omega) (by have := hr.1; dsimp only at this; omega)).mono ?_
    rintro e w' ⟨rfl, v', rs', h1, h2, h3, h4⟩
    exact ⟨s + 1, v', h1, rfl, h2, fun _ => ⟨rfl, rs', h3⟩, h4⟩
set_option maxHeartbeats 4000000 in
theorem send1_any (W : World) (b S s c1 c2 c3 : Nat) (v : Value) (l : List Par) (rs : List PRaw) (hN : Blk W b 25 [.int .u64 (s : Int), v]) (hO : OPs S W v l rs) (hbS : b < S) (hS : S ≤ W.heap.size) (hR : right ⟨s, l⟩ = true)
    (f t : Int) (a : Option Addr) (c ob : Nat) (bs : List UInt8) (hb : Bs W (.slice a bs.length c) ob bs) (hbl : bs.length ≤ 100000)
    (k1 : W.cell? ⟨c1, 0, none⟩ = some (.int .i64 f)) (k2 : W.cell? ⟨c2, 0, none⟩ = some (.int .i64 t)) (k3 : W.cell? ⟨c3, 0, none⟩ = some (.slice a bs.length c)) :
    Calls Try.prog 51 #[pt b, pt c1, pt c2, pt c3] W fun e w' => ∃ (s' : Nat) (v' : Value), (∃ a' n' c', v' = .slice a' n' c') ∧ e = .returned (.int .i64 (sendM ⟨s, l⟩ f t bs).e) ∧ Blk w' b 25 [.int .u64 (s' : Int), v'] ∧ DN S (sendM ⟨s, l⟩ f t bs) s' v' w' ∧ Did S b [] W w' := by
  have cw := fun w => isWay_any w f t
  have ad := add_any W b S s 0 v l rs hN hO hbS hS f t a c ob false bs hb hbl hR 0
  unfold sendM
  cases hw : isWay f t
  · rw [hw] at cw
    obtain ⟨av, cv, rfl⟩ := hO.shape
    have HN := Lib.hid hN
    clear ad hb hN hO hw hR
    go_enter Try.func51, Try.ntmps51
    go_wp2_with (go_at_call 52; (with_reducible refine (cw _).mono ?_); rintro e w' ⟨rfl, rfl⟩)
    go_ret
    exact ⟨s, _, ⟨_, _, _, rfl⟩, rfl, HN.out, (fun h => by cases h), Did.ofExt (Ext.refl _ _)⟩
  · rw [hw] at cw
    rw [if_neg (by simp)]
    by_cases h3 : 60000 < bs.length
    · rw [if_pos h3]
      obtain ⟨av, cv, rfl⟩ := hO.shape
      have HN := Lib.hid hN
      clear ad hb hN hO hw hR
      go_enter Try.func51, Try.ntmps51
      go_wp2_with (go_at_call 52; (with_reducible refine (cw _).mono ?_); rintro e w' ⟨rfl, rfl⟩)
      go_ret
      exact ⟨s, _, ⟨_, _, _, rfl⟩, rfl, HN.out, (fun h => by cases h), Did.ofExt (Ext.refl _ _)⟩
    · rw [if_neg h3]
      rw [show PV 0 f t (.slice a bs.length c) false = .agg #[.int .u64 0, .int .i64 f, .int .i64 t, .slice a bs.length c, .bool false] from rfl] at ad
      generalize addM ⟨s, l⟩ ⟨0, f, t, bs, false⟩ = T at *
      clear hb hN hO hw hR
      go_enter Try.func51, Try.ntmps51
      go_wp2_with (first
        | (go_at_call 52; (with_reducible refine (cw _).mono ?_); rintro e w' ⟨rfl, rfl⟩)
        | (go_at_call 53; (with_reducible refine ad.mono ?_); rintro e w' ⟨s', v', h1, rfl, h2⟩; have HH := Lib.hid (And.intro h1 h2); clear h1 h2))
      go_ret
      exact ⟨s', v', HH.out.1, rfl, HH.out.2⟩
set_option maxHeartbeats 4000000 in
theorem twin1_any (W : World) (b S s i : Nat) (v : Value) (l : List Par) (rs : List PRaw) (p : Par) (hN : Blk W b 25 [.int .u64 (s : Int), v]) (hO : OPs S W v l rs) (hbS : b < S) (hS : S ≤ W.heap.size) (hR : right ⟨s, l⟩ = true) (hp : l[i]? = some p) :
    Calls Try.prog 56 #[pt b, .int .i64 (i : Int)] W fun e w' => ∃ (s' : Nat) (v' : Value), (∃ a' n' c', v' = .slice a' n' c') ∧ e = .returned (.int .i64 (addM ⟨s, l⟩ p).e) ∧ Blk w' b 25 [.int .u64 (s' : Int), v'] ∧ DN S (addM ⟨s, l⟩ p) s' v' w' ∧ Did S b [] W w' := by
  have hil := (List.getElem?_eq_some_iff.1 hp).1
  have hr := right_len hR
  have hpl := parOK_len (chk_num hr.2.2 p (List.mem_of_getElem? hp)).2.2
  have hml := hO.ps.len
  unfold maxLen at hml
  obtain ⟨av, cv, rfl⟩ := hO.shape
  obtain ⟨ob, o, a1, c1, rfl, e0, e1, e2, e3, e4, oc, hb⟩ := hO.ps.at i p hp
  obtain ⟨pn, pf, ptt, pbs, psp⟩ := p
  dsimp only at *
  have ad := add_any W b S s pn _ l rs hN hO hbS hS pf ptt a1 c1 oc psp pbs hb (by omega) hR pn
  generalize addM ⟨s, l⟩ ⟨pn, pf, ptt, pbs, psp⟩ = T at *
  obtain ⟨n0, n1⟩ := hN.c2
  clear hb hN hO hR hp hr
  go_enter Try.func56, Try.ntmps56
  go_wp2_with (first
    | (go_at_call 53; (with_reducible refine ad.mono ?_); rintro e w' ⟨s', v', h1, rfl, h2⟩; have HH := Lib.hid (And.intro h1 h2); clear h1 h2))
  go_ret
  exact ⟨s', v', HH.out.1, rfl, HH.out.2⟩
theorem Changed.sum {A : Nat} {C : List Nat} {w w' : World} {n : Nt} {T : Told} {D : Nat → Value → World → Prop} {e : Ending} (h : Changed w (right n) T.e C D e w') (hA : A ≤ w.heap.size) (hz : T.e ≠ 0 → T.n = zNt) (hD : ∀ s v u, D s v u → DN A T s v u) :
    ∃ v' rs', (∃ a' n' c', v' = .slice a' n' c') ∧ e = .returned (.tuple #[NV (ofM n T).n.s v', .int .i64 (ofM n T).e]) ∧ OPs A w' v' (ofM n T).n.ps rs' ∧ Ext C w w' ∧ (right n = true → ∃ w1 s1 v1, D s1 v1 w1 ∧ NetX w w1 w' ∧ (T.e = 0 → v1 = v')) := by
  unfold ofM
  cases hr : right n
  · rw [if_neg (by simp)]
    obtain ⟨rfl, x⟩ := h.1 hr
    exact ⟨.slice none 0 0, [], ⟨_, _, _, rfl⟩, rfl, OPs.nil _ _, x.mono (by simp), fun h => by cases h⟩
  · rw [if_pos rfl]
    obtain ⟨w1, s1, v1, y, x, hs, hd, rfl⟩ := h.2 hr
    by_cases h0 : T.e = 0
    · rw [if_pos h0]
      obtain ⟨rfl, rs', ho⟩ := hD _ _ _ hd h0
      exact ⟨v1, rs', hs, rfl, ho.nets (y), y.old x, fun _ => ⟨w1, _, v1, hd, y, fun _ => rfl⟩⟩
    · rw [if_neg h0, hz h0]
      exact ⟨.slice none 0 0, [], ⟨_, _, _, rfl⟩, rfl, OPs.nil _ _, y.old x, fun _ => ⟨w1, s1, v1, hd, y, fun h => absurd h h0⟩⟩
/-- the answer as a triple: the net, a number, the error -/
def Ans3 (w : World) (T : Told) : Ending → World → Prop := fun e w' => ∃ v' rs', (∃ a' n' c', v' = .slice a' n' c') ∧ e = .returned (.tuple #[NV T.n.s v', .int .u64 (T.num : Int), .int .i64 T.e]) ∧ OPs w.heap.size w' v' T.n.ps rs' ∧ Ext [] w w'
set_option maxRecDepth 100000 in
set_option maxHeartbeats 4000000 in
theorem Send_any (w : World) (s : Nat) (v : Value) (l : List Par) (f t : Int) (bv : Value) (ob : Nat) (bs : List UInt8) (hP : Ps w v l) (hb : Bs w bv ob bs) (hbl : bs.length ≤ 100000) :
    Calls Try.prog 24 #[NV s v, .int .i64 f, .int .i64 t, bv] w (Ans3 w (ofM ⟨s, l⟩ (sendM ⟨s, l⟩ f t bs))) := by
  obtain ⟨a, c, rfl⟩ := hP.shape
  obtain ⟨ba, bc, rfl⟩ := hb.shape
  have e1 := (Ext.refl [] w).alloc (.cells #[.int .u64 (s : Int), .slice a l.length c] 25)
  have e2 := (Ext.refl [] (w.alloc (.cells #[.int .u64 (s : Int), .slice a l.length c] 25))).alloc (.cells #[.int .i64 f] 3)
  have e3 := (Ext.refl [] ((w.alloc (.cells #[.int .u64 (s : Int), .slice a l.length c] 25)).alloc (.cells #[.int .i64 f] 3))).alloc (.cells #[.int .i64 t] 3)
  have e4 := (Ext.refl [] (((w.alloc (.cells #[.int .u64 (s : Int), .slice a l.length c] 25)).alloc (.cells #[.int .i64 f] 3)).alloc (.cells #[.int .i64 t] 3))).alloc (.cells #[.slice ba bs.length bc] 29)
  have e5 := (Ext.refl [] ((((w.alloc (.cells #[.int .u64 (s : Int), .slice a l.length c] 25)).alloc (.cells #[.int .i64 f] 3)).alloc (.cells #[.int .i64 t] 3)).alloc (.cells #[.slice ba bs.length bc] 29))).alloc (.cells #[.int .u64 0, .slice none 0 0] 25)
  have b1 := (Blk.new w [.int .u64 (s : Int), .slice a l.length c] 25).ext (((e2.trans e3).trans e4).trans e5) (by simp)
  have b2 := (Blk.new (w.alloc (.cells #[.int .u64 (s : Int), .slice a l.length c] 25)) [.int .i64 f] 3).ext ((e3.trans e4).trans e5) (by simp)
  have b3 := (Blk.new ((w.alloc (.cells #[.int .u64 (s : Int), .slice a l.length c] 25)).alloc (.cells #[.int .i64 f] 3)) [.int .i64 t] 3).ext (e4.trans e5) (by simp)
  have b4 := (Blk.new (((w.alloc (.cells #[.int .u64 (s : Int), .slice a l.length c] 25)).alloc (.cells #[.int .i64 f] 3)).alloc (.cells #[.int .i64 t] 3)) [.slice ba bs.length bc] 29).ext e5 (by simp)
  have b5 := Blk.new ((((w.alloc (.cells #[.int .u64 (s : Int), .slice a l.length c] 25)).alloc (.cells #[.int .i64 f] 3)).alloc (.cells #[.int .i64 t] 3)).alloc (.cells #[.slice ba bs.length bc] 29)) [.int .u64 0, .slice none 0 0] 25
  have hE := (((e1.trans e2).trans e3).trans e4).trans e5
  simp only [World.size_alloc] at b2 b3 b4 b5
  have hP := hP.ext hE
  have hb := hb.ext hE (by simp)
  have hsz : (((((w.alloc (.cells #[.int .u64 (s : Int), .slice a l.length c] 25)).alloc (.cells #[.int .i64 f] 3)).alloc (.cells #[.int .i64 t] 3)).alloc (.cells #[.slice ba bs.length bc] 29)).alloc (.cells #[.int .u64 0, .slice none 0 0] 25)).heap.size = w.heap.size + 5 := by simp
  clear e1 e2 e3 e4 e5
  have ch := changed_Send (((((w.alloc (.cells #[.int .u64 (s : Int), .slice a l.length c] 25)).alloc (.cells #[.int .i64 f] 3)).alloc (.cells #[.int .i64 t] 3)).alloc (.cells #[.slice ba bs.length bc] 29)).alloc (.cells #[.int .u64 0, .slice none 0 0] 25)) s _ l hP #[pt (w.heap.size + 1), pt (w.heap.size + 1 + 1), pt (w.heap.size + 1 + 1 + 1)] (sendM ⟨s, l⟩ f t bs).e [] (by simp) (DN w.heap.size (sendM ⟨s, l⟩ f t bs)) (fun hr W' vv rs x hN hs hO => by
    have k2 := (b2.ext x (by simp)).cell 0
    have k3 := (b3.ext x (by simp)).cell 0
    have k4 := (b4.ext x (by simp)).cell 0
    refine (send1_any W' (((((w.alloc (.cells #[.int .u64 (s : Int), .slice a l.length c] 25)).alloc (.cells #[.int .i64 f] 3)).alloc (.cells #[.int .i64 t] 3)).alloc (.cells #[.slice ba bs.length bc] 29)).alloc (.cells #[.int .u64 0, .slice none 0 0] 25)).heap.size ((((((w.alloc (.cells #[.int .u64 (s : Int), .slice a l.length c] 25)).alloc (.cells #[.int .i64 f] 3)).alloc (.cells #[.int .i64 t] 3)).alloc (.cells #[.slice ba bs.length bc] 29)).alloc (.cells #[.int .u64 0, .slice none 0 0] 25)).heap.size + 2) s _ _ _ vv l rs hN hO (by omega) hs hr f t ba bc ob bs (hb.ext x (by simp)) hbl k2 k3 k4).mono ?_
    rintro e w' ⟨s', v', h1, h2, h3, h4, h5⟩
    exact ⟨s', v', h1, h2, h3, fun hz => by obtain ⟨h6, rs', h7⟩ := h4 hz; exact ⟨h6, rs', h7.mono (by omega)⟩, h5⟩)
  have hz : (sendM ⟨s, l⟩ f t bs).e ≠ 0 → (sendM ⟨s, l⟩ f t bs).n = zNt := by
    unfold sendM addM
    split
    · exact fun _ => rfl
    · split
      · exact fun _ => rfl
      · split
        · exact fun _ => rfl
        · exact fun h => absurd rfl h
  have hnum : (ofM ⟨s, l⟩ (sendM ⟨s, l⟩ f t bs)).num = (ofM ⟨s, l⟩ (sendM ⟨s, l⟩ f t bs)).n.s := by
    unfold ofM sendM addM
    split
    · split
      · rfl
      · split
        · rfl
        · split <;> rfl
    · rfl
  have ch := ch.mono fun e w' h => Changed.sum (A := w.heap.size) h (by omega) hz (fun _ _ _ h => h)
  unfold Ans3
  rw [hnum]
  generalize ofM ⟨s, l⟩ (sendM ⟨s, l⟩ f t bs) = T at *
  clear hz hnum hP hb b2 b3 b4
  go_enter Try.func24, Try.ntmps24
  go_upto_region 1 with (fail)
  generalize (((((w.alloc (.cells #[.int .u64 (s : Int), .slice a l.length c] 25)).alloc (.cells #[.int .i64 f] 3)).alloc (.cells #[.int .i64 t] 3)).alloc (.cells #[.slice ba bs.length bc] 29)).alloc (.cells #[.int .u64 0, .slice none 0 0] 25)) = W at *
  generalize hwb : w.heap.size = wb at *
  have HWB := Lib.hid hwb
  clear hwb
  obtain ⟨n0, n1⟩ := b1.c2
  go_upto_region 2 with (go_at_call 50; (with_reducible refine ch.mono ?_); rintro e w1 ⟨v1, rs1, ⟨a1, n1, c1, rfl⟩, rfl, hO1, x1, _⟩; have b5 := b5.ext x1 (by simp))
  have e2 := (Ext.refl [] w1).alloc (.cells #[.int .u64 (T.n.s : Int), .slice a1 n1 c1] 25)
  have d2 := Blk.new w1 [.int .u64 (T.n.s : Int), .slice a1 n1 c1] 25
  have b5 := b5.ext e2 (by simp)
  have hO2 := hO1.ext e2
  have hlt := (b5).lt
  have hlt1 := x1.size
  generalize w1.alloc (.cells #[.int .u64 (T.n.s : Int), .slice a1 n1 c1] 25) = W2 at *
  obtain ⟨d0, d1⟩ := d2.c2
  obtain ⟨r0, r1⟩ := b5.c2
  have rf := b5.frozen
  go_region
  have x3 := ((Ext.refl [wb + 1 + 1 + 1 + 1] W2).setCell (p := ⟨wb + 1 + 1 + 1 + 1, 0, none⟩) (.inl (by simp)) (.int .u64 (T.n.s : Int))).setCell (p := ⟨wb + 1 + 1 + 1 + 1, 1, none⟩) (.inl (by simp)) (.slice a1 n1 c1)
  have hB3 := (b5.set 0 (.int .u64 (T.n.s : Int))).set 1 (.slice a1 n1 c1)
  simp only [List.set_cons_zero, List.set_cons_succ] at hB3
  have hO3 := hO2.other b5 (by decide) (by decide) x3
  have hX3 := ((hE.trans x1).trans e2).trans' x3 (fun i hi => .inr (by have := HWB.out; simp at hi; omega))
  have HH := Lib.hid (And.intro hB3 (And.intro hO3 hX3))
  clear hB3 hO3 hX3 x3 hO2 hO1 ch
  go_wp2_with (fail)
  refine ret_cell_tmp2 Try.results24 rfl (Blk.drew HH.out.1) Try.underlying25 rfl net_info rfl ⟨_, rs1, ⟨_, _, _, rfl⟩, rfl, ?_, HH.out.2.2.drew⟩
  rw [HWB.out]
  exact HH.out.2.1.ext ((Ext.refl [] _).drew)
end Go.Proofs.Ytpdfmeaemlgniaa
