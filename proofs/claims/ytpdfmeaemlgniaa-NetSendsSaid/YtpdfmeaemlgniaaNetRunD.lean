
/-
  Op.run, whatever the op.
-/
import Derived.Test.YtpdfmeaemlgniaaNetOM
import Derived.Test.YtpdfmeaemlgniaaNetRunC
namespace Go.Proofs.Ytpdfmeaemlgniaa
open Go.RowKit
open Go.Lib hiding intOf
set_option linter.unusedVariables false
set_option linter.unusedSimpArgs false
theorem ofM_num {n : Nt} {t : Told} (h : t.num = 0) : (ofM n t).num = 0 := by unfold ofM; split; exact h; rfl
theorem ofM_gone {n : Nt} {t : Told} (h : t.gone = 0) : (ofM n t).gone = 0 := by unfold ofM; split; exact h; rfl
theorem ofM_p {n : Nt} {t : Told} (h : t.p = zPar) : (ofM n t).p = zPar := by unfold ofM; split; exact h; rfl
theorem ofM_lose {n : Nt} {t : Told} : (ofM n { t with p := zPar }).n = (ofM n t).n ∧ (ofM n { t with p := zPar }).e = (ofM n t).e := by unfold ofM; split <;> exact ⟨rfl, rfl⟩
theorem atM_num {n : Nt} {k : Nat} {g : Nat → Par → Told} (h : ∀ i p, (g i p).num = 0) : (atM n k g).num = 0 := by unfold atM; split; rfl; exact h _ _
theorem atM_gone {n : Nt} {k : Nat} {g : Nat → Par → Told} (h : ∀ i p, (g i p).gone = 0) : (atM n k g).gone = 0 := by unfold atM; split; rfl; exact h _ _
theorem atM_p {n : Nt} {k : Nat} {g : Nat → Par → Told} (h : ∀ i p, (g i p).p = zPar) : (atM n k g).p = zPar := by unfold atM; split; rfl; exact h _ _
theorem addM_rest (n : Nt) (p : Par) : (addM n p).gone = 0 ∧ (addM n p).p = zPar := by unfold addM; split <;> exact ⟨rfl, rfl⟩
theorem sendM_rest (n : Nt) (f t : Int) (b : List UInt8) : (sendM n f t b).gone = 0 ∧ (sendM n f t b).p = zPar := by
  unfold sendM; split
  · exact ⟨rfl, rfl⟩
  · split
    · exact ⟨rfl, rfl⟩
    · exact addM_rest _ _
theorem dropM_rest (n : Nt) (f t : Int) : (dropM n f t).num = 0 ∧ (dropM n f t).p = zPar := by unfold dropM; split <;> exact ⟨rfl, rfl⟩
theorem spoilM_rest (n : Nt) (k : Nat) (z : Int) (y : UInt8) : (spoilM n k z y).num = 0 ∧ (spoilM n k z y).gone = 0 ∧ (spoilM n k z y).p = zPar := by
  have h : ∀ (i : Nat) (p : Par), (if p.sp = true then ({ e := 5 } : Told) else if z < 0 ∨ (p.bs.length : Int) ≤ z ∨ y = 0 then { e := 2 } else { n := ⟨n.s, n.ps.set i { p with bs := p.bs.modify z.toNat (· ^^^ y), sp := true }⟩ }).num = 0 ∧ (if p.sp = true then ({ e := 5 } : Told) else if z < 0 ∨ (p.bs.length : Int) ≤ z ∨ y = 0 then { e := 2 } else { n := ⟨n.s, n.ps.set i { p with bs := p.bs.modify z.toNat (· ^^^ y), sp := true }⟩ }).gone = 0 ∧ (if p.sp = true then ({ e := 5 } : Told) else if z < 0 ∨ (p.bs.length : Int) ≤ z ∨ y = 0 then { e := 2 } else { n := ⟨n.s, n.ps.set i { p with bs := p.bs.modify z.toNat (· ^^^ y), sp := true }⟩ }).p = zPar := by
    intro i p
    split
    · exact ⟨rfl, rfl, rfl⟩
    · split <;> exact ⟨rfl, rfl, rfl⟩
  exact ⟨atM_num fun i p => (h i p).1, atM_gone fun i p => (h i p).2.1, atM_p fun i p => (h i p).2.2⟩
/-- what an op answers, in memory of its own -/
def AnsR (w : World) (T : Told) : Ending → World → Prop := fun e w' => ∃ v' rs' r, (∃ a' n' c', v' = .slice a' n' c') ∧ e = .returned (.agg #[.int .u64 (T.n.s : Int), v', .int .u64 (T.num : Int), .int .u64 (r.num : Int), .int .i64 r.fr, .int .i64 r.to, r.b, .bool r.sp, .int .i64 (T.gone : Int), .int .i64 T.e]) ∧ OPs w.heap.size w' v' T.n.ps rs' ∧ OIs w.heap.size w' r T.p ∧ Apart r rs' ∧ Ext [] w w'
theorem AnsR.plain {w w' : World} {T : Told} {e : Ending} (hp : T.p = zPar) (h : ∃ v' rs', (∃ a' n' c', v' = .slice a' n' c') ∧ e = .returned (.agg #[.int .u64 (T.n.s : Int), v', .int .u64 (T.num : Int), .int .u64 0, .int .i64 0, .int .i64 0, .slice none 0 0, .bool false, .int .i64 (T.gone : Int), .int .i64 T.e]) ∧ OPs w.heap.size w' v' T.n.ps rs' ∧ Ext [] w w') : AnsR w T e w' := by
  obtain ⟨v', rs', h1, h2, h3, h4⟩ := h
  exact ⟨v', rs', zRaw, h1, h2, h3, by rw [hp]; exact zRaw_is _ _, zRaw_apart _, h4⟩
theorem tells_send {o : OpR} {s : Nat} {l : List Par} (h : o.knd < 3) : o.tells s l = ofM ⟨s, l⟩ (sendM ⟨s, l⟩ o.fr o.tt o.bts) := by unfold OpR.tells OpR.does; rw [if_pos h]
theorem tells_come {o : OpR} {s : Nat} {l : List Par} (h : o.knd = 3) : o.tells s l = ofM ⟨s, l⟩ (comeM ⟨s, l⟩ (o.num l)) := by unfold OpR.tells OpR.does; rw [if_neg (by omega), if_pos h]
theorem tells_lose {o : OpR} {s : Nat} {l : List Par} (h : o.knd = 4) : o.tells s l = ofM ⟨s, l⟩ { comeM ⟨s, l⟩ (o.num l) with p := zPar } := by unfold OpR.tells OpR.does; rw [if_neg (by omega), if_neg (by omega), if_pos h]
theorem tells_drop {o : OpR} {s : Nat} {l : List Par} (h : o.knd = 5) : o.tells s l = ofM ⟨s, l⟩ (dropM ⟨s, l⟩ o.fr o.tt) := by unfold OpR.tells OpR.does; rw [if_neg (by omega), if_neg (by omega), if_neg (by omega), if_pos h]
theorem tells_twin {o : OpR} {s : Nat} {l : List Par} (h : o.knd = 6) : o.tells s l = ofM ⟨s, l⟩ (twinM ⟨s, l⟩ (o.num l)) := by unfold OpR.tells OpR.does; rw [if_neg (by omega), if_neg (by omega), if_neg (by omega), if_neg (by omega), if_pos h]
theorem tells_spoil {o : OpR} {s : Nat} {l : List Par} (h : o.knd = 7) : o.tells s l = ofM ⟨s, l⟩ (spoilM ⟨s, l⟩ (o.num l) o.place o.by_) := by unfold OpR.tells OpR.does; rw [if_neg (by omega), if_neg (by omega), if_neg (by omega), if_neg (by omega), if_neg (by omega)]
theorem knd_lt (o : OpR) : o.knd < 8 := Nat.mod_lt _ (by decide)
theorem run_any (w : World) (o : OpR) (a : Option Addr) (c ob : Nat) (h : o.in64) (s : Nat) (v : Value) (l : List Par) (hP : Ps w v l) (hll : l.length ≤ 100000) (hB : Bs w (.slice a o.bs.length c) ob o.bs) :
    Calls Try.prog 11 #[OV o a c, NV s v] w (AnsR w (o.tells s l)) := by
  have hk := knd_lt o
  by_cases h0 : o.knd < 3
  · have h1 := sendM_rest ⟨s, l⟩ o.fr o.tt o.bts
    rw [tells_send h0]
    have h2 : ∀ {K : Ending → World → Prop}, (∀ e w', (∃ v' rs', (∃ a' n' c', v' = .slice a' n' c') ∧ e = .returned (.agg #[.int .u64 ((ofM ⟨s, l⟩ (sendM ⟨s, l⟩ o.fr o.tt o.bts)).n.s : Int), v', .int .u64 ((ofM ⟨s, l⟩ (sendM ⟨s, l⟩ o.fr o.tt o.bts)).num : Int), .int .u64 0, .int .i64 0, .int .i64 0, .slice none 0 0, .bool false, .int .i64 0, .int .i64 (ofM ⟨s, l⟩ (sendM ⟨s, l⟩ o.fr o.tt o.bts)).e]) ∧ OPs w.heap.size w' v' (ofM ⟨s, l⟩ (sendM ⟨s, l⟩ o.fr o.tt o.bts)).n.ps rs' ∧ Ext [] w w') → K e w') → Calls Try.prog 11 #[OV o a c, NV s v] w K := by
      intro K hK
      rcases (show o.knd = 0 ∨ o.knd = 1 ∨ o.knd = 2 by omega) with hk | hk | hk
      · exact (run_send0 w o a c ob h hk s v l hP hll hB).mono hK
      · exact (run_send1 w o a c ob h hk s v l hP hll hB).mono hK
      · exact (run_send2 w o a c ob h hk s v l hP hll hB).mono hK
    refine h2 fun e w' hh => AnsR.plain (ofM_p h1.2) ?_
    rw [ofM_gone h1.1]
    exact hh
  · by_cases h3 : o.knd = 3
    · rw [tells_come h3]
      refine (run_come w o a c h h3 s v l hP hll).mono fun e w' hh => ?_
      have e1 : (ofM ⟨s, l⟩ (comeM ⟨s, l⟩ (o.num l))).num = 0 := ofM_num (atM_num fun i p => rfl)
      have e2 : (ofM ⟨s, l⟩ (comeM ⟨s, l⟩ (o.num l))).gone = 0 := ofM_gone (atM_gone fun i p => rfl)
      unfold AnsR
      rw [e1, e2]
      exact hh
    · by_cases h4 : o.knd = 4
      · rw [tells_lose h4]
        refine (run_lose w o a c h h4 s v l hP hll).mono fun e w' hh => AnsR.plain (ofM_p rfl) ?_
        have e1 : (comeM ⟨s, l⟩ (o.num l)).num = 0 := atM_num fun i p => rfl
        have e2 : (comeM ⟨s, l⟩ (o.num l)).gone = 0 := atM_gone fun i p => rfl
        rw [ofM_lose.1, ofM_lose.2, ofM_num (t := { comeM ⟨s, l⟩ (o.num l) with p := zPar }) e1, ofM_gone (t := { comeM ⟨s, l⟩ (o.num l) with p := zPar }) e2]
        exact hh
      · by_cases h5 : o.knd = 5
        · rw [tells_drop h5]
          have h1 := dropM_rest ⟨s, l⟩ o.fr o.tt
          refine (run_drop w o a c h h5 s v l hP hll).mono fun e w' hh => AnsR.plain (ofM_p h1.2) ?_
          rw [ofM_num h1.1]
          exact hh
        · by_cases h6 : o.knd = 6
          · rw [tells_twin h6]
            have e1 : (twinM ⟨s, l⟩ (o.num l)).gone = 0 := atM_gone fun i p => (addM_rest _ _).1
            have e2 : (twinM ⟨s, l⟩ (o.num l)).p = zPar := atM_p fun i p => (addM_rest _ _).2
            refine (run_twin w o a c h h6 s v l hP hll).mono fun e w' hh => AnsR.plain (ofM_p e2) ?_
            rw [ofM_gone e1]
            exact hh
          · have h7 : o.knd = 7 := by omega
            rw [tells_spoil h7]
            have h1 := spoilM_rest ⟨s, l⟩ (o.num l) o.place o.by_
            refine (run_spoil w o a c h h7 s v l hP hll).mono fun e w' hh => AnsR.plain (ofM_p h1.2.2) ?_
            rw [ofM_gone h1.2.1, ofM_num h1.1]
            exact hh
end Go.Proofs.Ytpdfmeaemlgniaa
