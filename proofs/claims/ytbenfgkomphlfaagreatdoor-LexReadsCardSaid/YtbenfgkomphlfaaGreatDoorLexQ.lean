/-
  written, Print.
-/
import Derived.Test.YtbenfgkomphlfaaGreatDoorLexP
import Derived.Test.YtbenfgkomphlfaaGreatDoorLexO
import Derived.Lib.ItoaLen
namespace Go.Proofs.YtbenfgkomphlfaaGreatDoor
open Go.RowKit
open Go.Lib hiding intOf
set_option linter.unusedVariables false

theorem esc_len : ∀ l : List UInt8, (esc l).length ≤ 2 * l.length
  | [] => by simp [esc]
  | c :: r => by
    have h := esc_len r
    have e : esc (c :: r) = (if c = 39 then [39, 39] else [c]) ++ esc r := rfl
    rw [e, List.length_append, List.length_cons]
    split <;> simp <;> omega
theorem written_any (w : World) (k a n : Int) (s : ByteArray) (hG : Glob w) (hs : s.size ≤ 1000000) (h3 : k = 3 → 0 ≤ n ∧ n ≤ 9223372036854775807) :
    Calls Tryz.prog 21 #[TV k a s n] w fun e w' => e = .returned (.string (B (written k (L s) n))) ∧ Ext [] w w' := by
  have hE := (Ext.refl [] w).alloc (.cells #[.int .i64 k, .int .i64 a, .string s, .int .u64 n] 29)
  by_cases k3 : k = 3
  · subst k3
    have hf := fun W (g : Glob W) => FormatUint_any W n (h3 rfl).1 (h3 rfl).2 g
    rw [show written 3 (L s) n = decDigits n.toNat from rfl]
    generalize decDigits n.toNat = x at *
    go_enter Tryz.func21, Tryz.ntmps21
    go_wp2_with (go_at_call 37; (with_reducible refine (hf _ (hG.ext hE)).mono ?_); rintro e w1 ⟨rfl, h1⟩)
    go_ret
    exact ⟨rfl, hE.trans h1⟩
  clear h3
  by_cases k4 : k = 4
  · subst k4
    have hf := fun W (g : Glob W) => ReplaceAll_any W s g hs
    rw [show written 4 (L s) n = [39] ++ esc (L s) ++ [39] from rfl]
    have hx : (B (esc (L s))).size ≤ 2000000 := by have := esc_len (L s); rw [← size_L] at this; show (esc (L s)).length ≤ _; omega
    generalize esc (L s) = x at *
    go_enter Tryz.func21, Tryz.ntmps21
    go_wp2_with (go_at_call 38; (with_reducible refine (hf _ (hG.ext hE)).mono ?_); rintro e w1 ⟨rfl, h1⟩)
    go_ret
    exact ⟨by congr 2, hE.trans h1⟩
  · have e : written k (L s) n = L s := by unfold written; rw [if_neg k3, if_neg k4]
    rw [e, B_L]
    go_enter Tryz.func21, Tryz.ntmps21
    go_wp2
    go_ret
    exact ⟨rfl, hE⟩

theorem TS : SliceTy Tryz.prog 42 9 1 16 (.string E0) := .mk' Tryz.underlying42 (by kernel_rfl) rfl (by decide)
def wS (l : List Tok) : List Value := l.map fun t => Value.string (B t.w)
theorem wS_length (l : List Tok) : (wS l).length = l.length := by simp [wS]
theorem wS_succ (l : List Tok) (k : Nat) (t : Tok) (h : l[k]? = some t) : wS (l.take (k + 1)) = wS (l.take k) ++ [.string (B t.w)] := by
  unfold wS
  rw [List.take_add_one, h]
  simp
theorem w_len (t : Tok) (hr : t.right = true) (h0 : 0 ≤ t.n) : t.w.length ≤ 2 * t.s.size + 22 := by
  unfold Tok.w written
  split
  · rename_i h3
    have hn : t.n ≤ 9223372036854775807 := by
      unfold Tok.right isTok at hr
      rw [if_pos h3] at hr
      simp at hr
      exact hr.2.2
    rw [decDigits_length]
    have := nDigits_le20 t.n.toNat (by omega)
    omega
  · split
    · have := esc_len (L t.s)
      simp only [List.length_append, List.length_cons, List.length_nil]
      rw [size_L]
      omega
    · rw [← size_L]; omega
theorem join_len (m : Nat) : ∀ l : List (List UInt8), (∀ y ∈ l, y.length ≤ m) → (join l [32]).length ≤ l.length * (m + 1)
  | [], _ => by simp [join_nil]
  | x :: r, h => by
    have h1 := h x (by simp)
    have : ∀ r : List (List UInt8), (∀ y ∈ r, y.length ≤ m) → (joinTail [32] r).length ≤ r.length * (m + 1) := by
      intro r hr
      induction r with
      | nil => simp [joinTail]
      | cons y r ih =>
        have := ih (fun z hz => hr z (by simp [hz]))
        have hy := hr y (by simp)
        have e : joinTail [32] (y :: r) = [32] ++ y ++ joinTail [32] r := by simp [joinTail]
        rw [e]
        simp only [List.length_append, List.length_cons, List.length_nil, Nat.add_mul]
        omega
    rw [join_cons, List.length_append, List.length_cons, Nat.add_mul]
    have := this r (fun y hy => h y (by simp [hy]))
    omega
theorem all_take_succ {l : List Tok} {k : Nat} {t : Tok} (h : l[k]? = some t) (h1 : (l.take k).all Tok.right = true) (h2 : t.right = true) : (l.take (k + 1)).all Tok.right = true := by
  rw [List.take_add_one, h, List.all_append, h1]
  simp [h2]
set_option maxRecDepth 100000 in
set_option maxHeartbeats 2000000 in
theorem Print_any (w : World) (v : Value) (ob : Nat) (l : List Tok) (hl : Ts w v ob l) (hG : Glob w) (hn : l.length ≤ 1000) (hb : ∀ t ∈ l, t.s.size ≤ 100000 ∧ 0 ≤ t.n) :
    Calls Tryz.prog 9 #[v] w fun e w' => e = .returned (.tuple #[.string (B (if l.all Tok.right then printL l else [])), .int .i64 (if l.all Tok.right then 0 else 171)]) ∧ Ext [] w w' := by
  generalize hXX : B (if l.all Tok.right then printL l else []) = XX
  generalize hNN : (if l.all Tok.right then (0 : Int) else 171) = NN
  have HH := Lib.hid (And.intro hXX hNN)
  clear hXX hNN
  obtain ⟨a, cap, rfl⟩ := hl.shape
  go_enter Tryz.func9, Tryz.ntmps9
  go_wp2
  go_loopw [4, 10] (fun v i wr => ∃ k : Nat, k ≤ l.length ∧ i = .int .i64 k ∧ wr.ownsRow w.heap.size 9 1 v k (wS (l.take k)) ∧ Ext [] w wr ∧ Hid ((l.take k).all Tok.right = true)) (fun v i _ => l.length - (intOf i).toNat)
  case atStart => exact ⟨0, by omega, rfl, World.ownsRow_nil _ _ _ _, Ext.refl _ _, rfl⟩
  case round =>
    obtain ⟨k, hk, rfl, hO, hX, hR⟩ := hrel
    by_cases hlt : k < l.length
    · obtain ⟨o, K, P, S, U, rfl, hx, c0, c1, c2, c3⟩ := (hl.ext hX (by simp)).at k hlt
      have hbt := hb _ (List.mem_of_getElem? hx)
      dsimp only at hbt
      have hT := TB.new wr K P S U
      have hE := (Ext.refl [] wr).alloc (.cells #[.int .i64 K, .int .i64 P, .string S, .int .u64 U] 29)
      have ck := fun W (g : Glob W) => Check_any W K P U S g (by omega)
      cases hr : Tok.right ⟨K, P, S, U⟩
      · rw [hr] at ck
        have hall : l.all Tok.right = false := by
          rw [List.all_eq_false]
          exact ⟨_, List.mem_of_getElem? hx, by rw [hr]; simp⟩
        have HQ := Lib.hid hall
        clear hall hr hb hbt hR
        go_wp2_with (go_at_call 20; (with_reducible refine (ck _ ((hG.ext hX).ext hE)).mono ?_); rintro e w1 ⟨rfl, h1⟩)
        refine bodyPost_ret (v := .tuple #[.string ⟨#[]⟩, .int .i64 171]) (by simp [results, Tryz.results9, go_sem]) rfl ?_
        exact ⟨by rw [← HH.out.1, ← HH.out.2, HQ.out]; rfl, (hX.alloc _).trans h1⟩
      · rw [hr] at ck
        have hR2 := Lib.hid (all_take_succ hx hR.out hr)
        have hws := wS_succ l k _ hx
        have hn3 : K = 3 → 0 ≤ U ∧ U ≤ 9223372036854775807 := by
          rintro rfl
          refine ⟨hbt.2, ?_⟩
          unfold Tok.right isTok at hr
          rw [if_pos rfl] at hr
          simp at hr
          exact hr.2.2
        have wr := fun W (g : Glob W) => written_any W K P U S g (by omega) hn3
        rw [show written K (L S) U = (Tok.mk K P S U).w from rfl] at wr
        generalize (Tok.mk K P S U).w = x at *
        clear hr hb hbt hR hn3
        go_wp2_with (first
          | (go_at_call 20; (with_reducible refine (ck _ ((hG.ext hX).ext hE)).mono ?_); rintro e w1 ⟨rfl, h1⟩; obtain ⟨t0, t1, t2, t3⟩ := (hT.ext h1 (by simp)).c4)
          | (go_at_call 21; (with_reducible refine (wr _ (((hG.ext hX).ext hE).ext h1)).mono ?_); rintro e w2 ⟨rfl, h2⟩; have hX2 := ((hX.alloc _).trans h1).trans h2; have hO2 := own_ext (own_ext (hO.alloc _) h1 (by simp)) h2 (by simp))
          | (at_builtin; refine wpList_append_sl TS rfl (.tmp 19) (.tmp 22) rfl rfl (hO2.alloc _) rfl (Sl.one w2 _ _) (by intro u hu; simp at hu; subst hu; rfl) (by unfold maxLen; omega) (by omega) (by have := hX2.size; simp; omega) ?_; intro v' w3 hO' h3; have hX3 := (hX2.alloc (.cells #[.string (B x)] 9)).trans' h3 (fun i hi => .inr (own_ge hO2 i hi))))
        go_roundw
        case rel => exact ⟨k + 1, by omega, by go_num, by rw [hws]; exact hO', hX3, hR2⟩
        case measure => simp [intOf]; omega
    · obtain rfl : k = l.length := by omega
      rw [List.take_length] at hO hR
      obtain ⟨ob2, hsl, -⟩ := Sl.of_own hO
      have hws : wS l = (l.map fun t => B t.w).map Value.string := by simp [wS]
      have hjl : ((l.map fun t => B t.w).map L) = l.map Tok.w := by simp [L_B]
      have hjn : (join (l.map Tok.w) [32]).length ≤ 140737488355328 := by
        have h := join_len 300000 (l.map Tok.w) (fun y hy => by
          obtain ⟨t, ht, rfl⟩ := List.mem_map.1 hy
          have := w_len t (List.all_eq_true.1 hR.out t ht) (hb t ht).2
          have := (hb t ht).1
          omega)
        rw [List.length_map] at h
        omega
      have jn := fun v (h : Sl wr v ob2 1 l.length (wS l)) => Join_any wr v ob2 (l.map fun t => B t.w) ⟨#[32]⟩ (by rw [← hws, List.length_map]; exact h) (by rw [List.length_map]; omega) (by rw [hjl]; exact hjn)
      rw [hjl] at jn
      have HR := Lib.hid hR.out
      have HP : Hid (join (l.map Tok.w) (L ⟨#[32]⟩) = printL l) := rfl
      generalize join (l.map Tok.w) (L ⟨#[32]⟩) = x at *
      clear hb hws hjl hjn hR
      go_wp2_with (go_at_call 22; (with_reducible refine (jn _ hsl).mono ?_); rintro e w1 ⟨rfl, h1⟩)
      refine bodyPost_ret (v := .tuple #[.string (B x), .int .i64 0]) (by simp [results, Tryz.results9, go_sem]) rfl ?_
      exact ⟨by rw [← HH.out.1, ← HH.out.2, HR.out, HP.out]; rfl, hX.trans h1⟩
end Go.Proofs.YtbenfgkomphlfaaGreatDoor
