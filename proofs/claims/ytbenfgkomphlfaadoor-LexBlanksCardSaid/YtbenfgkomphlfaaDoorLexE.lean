/-
  What strings.ReplaceAll, strconv.FormatInt, FormatUint and ParseInt do at this program.
-/
import Derived.Test.YtbenfgkomphlfaaDoorLexB
import Derived.Shelf.Strings.Replace
import Derived.Shelf.Strconv.Itoa4
import Derived.Shelf.Strconv.ParseIntPublic10
import Derived.Lib.AppendIntMem
namespace Go.Proofs.YtbenfgkomphlfaaDoor
open Go.RowKit
open Go.Lib hiding intOf
set_option linter.unusedVariables false

set_option maxRecDepth 100000
def ren155 : Go.Shelf.Ren := ⟨fun | 155 => 25 | 154 => 41 | 138 => 57 | 165 => 17 | 143 => 58 | 166 => 18 | 197 => 31 | 169 => 20 | 195 => 72 | 218 => 73 | 240 => 29 | 241 => 30 | 219 => 74 | 260 => 49 | 276 => 47 | 277 => 48 | 217 => 80 | 225 => 81 | 224 => 82 | 267 => 83 | 266 => 89 | 314 => 90 | n => n, fun | 9 => 9 | 3 => 3 | 4 => 4 | 72 => 48 | 0 => 0 | 76 => 52 | 105 => 67 | 21 => 21 | 5 => 5 | 70 => 46 | 20 => 20 | 37 => 34 | 75 => 51 | 127 => 66 | 164 => 76 | 46 => 97 | 119 => 96 | 139 => 100 | 138 => 99 | 146 => 127 | 51 => 101 | 80 => 55 | n => n, fun | 1 => 3 | 3 => 4 | 4 => 5 | n => n⟩
theorem lays155 : Go.Proofs.Lays.n155 Tryd.prog ren155 := by
  constructor <;> first | kernel_rfl | (intro w; kernel_rfl) | (constructor <;> first | kernel_rfl | (intro w; kernel_rfl)) | (constructor <;> first | kernel_rfl | (intro w; kernel_rfl) | (constructor <;> first | kernel_rfl | (intro w; kernel_rfl)))
theorem extra155 : Go.Proofs.Builder.Extra Tryd.prog ren155 := by
  constructor <;> first | kernel_rfl | (intro w; kernel_rfl) | decide | (constructor <;> first | kernel_rfl | (intro w; kernel_rfl)) | (constructor <;> first | kernel_rfl | (intro w; kernel_rfl) | (constructor <;> first | kernel_rfl | (intro w; kernel_rfl)))
def ren173 : Go.Shelf.Ren := ⟨fun | 173 => 60 | 246 => 77 | 283 => 53 | 284 => 54 | 285 => 55 | 286 => 56 | 129 => 68 | 317 => 67 | 318 => 69 | 319 => 70 | 320 => 71 | 337 => 78 | 338 => 79 | n => n, fun | 2 => 2 | 3 => 3 | 9 => 9 | 4 => 4 | 171 => 86 | 0 => 0 | 53 => 24 | 37 => 34 | 5 => 5 | 173 => 89 | 212 => 107 | 51 => 101 | 20 => 20 | 213 => 108 | 46 => 97 | 232 => 125 | 233 => 126 | n => n, fun | 17 => 6 | 18 => 7 | 19 => 8 | n => n⟩
theorem lays173 : Go.Proofs.LaysM.n173 Tryd.prog ren173 := by
  constructor <;> first | kernel_rfl | (intro w; kernel_rfl) | (constructor <;> first | kernel_rfl | (intro w; kernel_rfl)) | (constructor <;> first | kernel_rfl | (intro w; kernel_rfl) | (constructor <;> first | kernel_rfl | (intro w; kernel_rfl)))
def ren174 : Go.Shelf.Ren := ⟨fun | 174 => 59 | 247 => 75 | 245 => 76 | 287 => 84 | 279 => 85 | 280 => 86 | 281 => 87 | 282 => 88 | 321 => 91 | 322 => 92 | 316 => 93 | 171 => 95 | 205 => 94 | 243 => 96 | 246 => 77 | 283 => 53 | 284 => 54 | 285 => 55 | 286 => 56 | 129 => 68 | 317 => 67 | 318 => 69 | 319 => 70 | 320 => 71 | 337 => 78 | 338 => 79 | n => n, fun | 9 => 9 | 3 => 3 | 2 => 2 | 75 => 51 | 85 => 92 | 4 => 4 | 167 => 119 | 5 => 5 | 53 => 24 | 175 => 120 | 46 => 97 | 168 => 122 | 37 => 34 | 0 => 0 | 210 => 131 | 21 => 21 | 127 => 66 | 145 => 135 | 143 => 133 | 171 => 86 | 173 => 89 | 212 => 107 | 51 => 101 | 20 => 20 | 213 => 108 | 232 => 125 | 233 => 126 | 80 => 55 | n => n, fun | 15 => 9 | 16 => 10 | 17 => 6 | 18 => 7 | 19 => 8 | n => n⟩
theorem lays174 : Go.Proofs.LaysC.n174 Tryd.prog ren174 := by
  constructor <;> first | kernel_rfl | (intro w; kernel_rfl) | (constructor <;> first | kernel_rfl | (intro w; kernel_rfl)) | (constructor <;> first | kernel_rfl | (intro w; kernel_rfl) | (constructor <;> first | kernel_rfl | (intro w; kernel_rfl)))
def ren283 : Go.Shelf.Ren := ⟨fun | 283 => 53 | n => n, fun | 3 => 3 | 9 => 9 | 4 => 4 | n => n, fun | n => n⟩
theorem lays283 : Go.Proofs.Lays.n283 Tryd.prog ren283 := by
  constructor <;> first | kernel_rfl | (intro w; kernel_rfl) | (constructor <;> first | kernel_rfl | (intro w; kernel_rfl)) | (constructor <;> first | kernel_rfl | (intro w; kernel_rfl) | (constructor <;> first | kernel_rfl | (intro w; kernel_rfl)))
def ren284 : Go.Shelf.Ren := ⟨fun | 284 => 54 | 129 => 68 | 317 => 67 | 318 => 69 | n => n, fun | 53 => 24 | 3 => 3 | 212 => 107 | 0 => 0 | 4 => 4 | 46 => 97 | 5 => 5 | 9 => 9 | n => n, fun | 17 => 6 | n => n⟩
theorem lays284 : Go.Proofs.LaysM.n284 Tryd.prog ren284 := by
  constructor <;> first | kernel_rfl | (intro w; kernel_rfl) | (constructor <;> first | kernel_rfl | (intro w; kernel_rfl)) | (constructor <;> first | kernel_rfl | (intro w; kernel_rfl) | (constructor <;> first | kernel_rfl | (intro w; kernel_rfl)))
def ren285 : Go.Shelf.Ren := ⟨fun | 285 => 55 | n => n, fun | 37 => 34 | 53 => 24 | 3 => 3 | 4 => 4 | 51 => 101 | 9 => 9 | 5 => 5 | 0 => 0 | n => n, fun | n => n⟩
theorem lays285 : Go.Proofs.Lays.n285 Tryd.prog ren285 := by
  constructor <;> first | kernel_rfl | (intro w; kernel_rfl) | (constructor <;> first | kernel_rfl | (intro w; kernel_rfl)) | (constructor <;> first | kernel_rfl | (intro w; kernel_rfl) | (constructor <;> first | kernel_rfl | (intro w; kernel_rfl)))

theorem ReplaceAll_any (w : World) (s : ByteArray) (hG : Glob w) (hs : s.size ≤ 1000000) :
    Calls Tryd.prog 25 #[.string s, .string ⟨#[39]⟩, .string ⟨#[39, 39]⟩] w fun e w' => e = .returned (.string (B (esc (L s)))) ∧ Ext [] w w' := by
  obtain ⟨m, hm⟩ := hG.mlen
  have hc := countB_le ⟨#[39]⟩ (by decide) s.size s (Nat.le_refl _)
  refine (Any.strings_ReplaceAll lays155 extra155 s ⟨#[39]⟩ ⟨#[39, 39]⟩ m w (by omega) hm (by decide) ?_).mono fun e w' h => ⟨?_, Ext.ofBelow h.2⟩
  · have : (⟨#[39, 39]⟩ : ByteArray).size = 2 := rfl
    rw [this]; omega
  · rw [h.1, ← replaceAll_esc]; rfl
theorem Ext.grow (w : World) (k : Nat) (os : Array Obj) : Ext [] w (Go.Sort.grow (w.drewN k) os) :=
  ⟨rfl, rfl, rfl, by show w.heap.size ≤ (w.heap ++ os).size; simp, fun g hg _ => Lib.heap_grow_old w k os g hg⟩
theorem FormatInt_any (w : World) (n : Int) (h0 : -9223372036854775808 ≤ n) (h1 : n ≤ 9223372036854775807) (hG : Glob w) :
    Calls Tryd.prog 60 #[.int .i64 n, .int .i64 10] w fun e w' => e = .returned (.string (B (itoa n))) ∧ Ext [] w w' :=
  (Any.strconv_FormatInt_10 lays173 n h0 h1 w hG.pow).mono fun e w' ⟨h, k, os, e⟩ => ⟨h, by rw [e]; exact Ext.grow _ _ _⟩
theorem Ext.bytes (w : World) (t : TypeId) (s : ByteArray) : Ext [] w (Lib.bytesWorld w t s) :=
  ⟨rfl, rfl, rfl, by simp [Lib.bytesWorld, World.freeze, World.alloc, World.drew, -World.alloc_eq, -World.drew_eq], fun g hg _ => Lib.bytesWorld_at_old w t s g hg⟩
/-- a number, or no number: what is asked of the second result is whether it is nil -/
theorem ParseInt_ok (w : World) (s : ByteArray) (hs : s.size ≤ 1000000) (v : Int) (h : parseIntB 64 (L s) = .ok v) :
    Calls Tryd.prog 59 #[.string s, .int .i64 10, .int .i64 64] w fun e w' => e = .returned (.tuple #[.int .i64 v, .nilIface]) ∧ Ext [] w w' :=
  (Any.strconv_ParseInt_10_at64_ok lays174 s (by omega) v h w).mono fun e w' ⟨h, h2⟩ => ⟨h, by
    rcases h2 with rfl | ⟨t, rfl⟩
    · exact Ext.refl _ _
    · exact Ext.bytes _ _ _⟩
theorem ParseInt_no (w : World) (s : ByteArray) (hG : Glob w) (hs : s.size ≤ 1000000) (h : ∀ v, parseIntB 64 (L s) ≠ .ok v) :
    Calls Tryd.prog 59 #[.string s, .int .i64 10, .int .i64 64] w fun e w' => (∃ v t p, e = .returned (.tuple #[.int .i64 v, .iface t p])) ∧ Ext [] w w' := by
  rcases hp : parseIntB 64 (L s) with v | _ | _
  · exact absurd hp (h v)
  · obtain ⟨te, pe, hv⟩ := hG.esyn
    exact (Any.strconv_ParseInt_10_at64_syntax lays174 s (by omega) hp _ w hv (.inr ⟨te, pe, rfl⟩)).mono fun e w' ⟨N, h, _, _, hb⟩ => ⟨⟨_, _, _, h⟩, Ext.ofBelow hb⟩
  · obtain ⟨te, pe, hv⟩ := hG.erng
    exact (Any.strconv_ParseInt_10_at64_range lays174 s (by omega) hp _ w hv (.inr ⟨te, pe, rfl⟩)).mono fun e w' ⟨N, h, _, _, hb⟩ => ⟨⟨_, _, _, h⟩, Ext.ofBelow hb⟩

/-! ## FormatUint -/
theorem digits24 (w : World) (t : TypeId) (nd : Nat) (hn : nd ≤ 24) : Go.Sort.Holds (fun (b : UInt8) => Value.int .u8 (b.toNat : Int)) (w.alloc (.cells Lib.zeros24 t)) w.heap.size 0 (Array.replicate nd (0 : UInt8)) := Lib.holds_zero0 w t nd hn
theorem digits_text (w : World) (n k v : Nat) (dk : Array UInt8) (hn : nDigits n ≤ 20) (hF : FmtInv (nDigits n) n 0 v dk) (W : World)
    (hW : W = (Go.Sort.putRow (fun (b : UInt8) => Value.int .u8 (b.toNat : Int)) (w.alloc (.cells Lib.zeros24 86)) w.heap.size 0 dk).drewN k) :
    (convert 34 9 (.slice (some ⟨w.heap.size, 0, none⟩) (nDigits n) 24)).run Tryd.prog W = .ok (.string ⟨(decDigits n).toArray⟩) W := by
  have hsz := hF.size
  have hlen := decDigits_length n
  have key : ∀ j (hj : j < (decDigits n).length), W.cell? ((⟨w.heap.size, 0, none⟩ : Addr).add j) = some (.int .u8 ((decDigits n)[j].toNat : Int)) := fun j hj => by
    have hrow := Go.Sort.cell?_putRow (fun (b : UInt8) => Value.int .u8 (b.toNat : Int)) _ w.heap.size 0 _ dk (digits24 w 86 (nDigits n) (by omega)) (by rw [hsz, Array.size_replicate]) j (by omega)
    rw [add_off, hW, World.cell?_drewN, row_is_numeral hF j hj]
    exact hrow
  have h := run_convert_bytes_back (P := Tryd.prog) W 34 9 5 ⟨w.heap.size, 0, none⟩ 24 (decDigits n) Tryd.underlying34 Tryd.underlying5 Tryd.underlying9 key
  rwa [hlen] at h
set_option maxHeartbeats 2000000 in
theorem FormatUint_in (w : World) (n : Nat) (h1 : n < 18446744073709551616) (hG : Glob w) :
    Calls Tryd.prog 40 #[.int .u64 n, .int .i64 10] w fun e w' => e = .returned (.string (B (decDigits n))) ∧ Ext [] w w' := by
  by_cases hs : n < 100
  · have hc := fun W => Any.internal_strconv_small lays283 n hs W
    go_enter Tryd.func40, Tryd.ntmps40
    go_wp2_with (go_at_call 53; refine (hc _).mono ?_; rintro e w1 ⟨rfl, rfl⟩)
    go_ret
    exact ⟨rfl, Ext.refl _ _⟩
  · have hn20 : nDigits n ≤ 20 := by have := numDigits_eq n (by omega) h1; split at this <;> omega
    have hnd := fun W (g : Glob W) => Any.internal_strconv_numDigits lays284 n (by omega) h1 W g.pow
    have hG1 : Glob (w.alloc (.cells Lib.zeros24 86)) := hG.ext ((Ext.refl [] w).alloc _)
    have hfm := Any.internal_strconv_formatBase10 lays285 w.heap.size 0 24 n (Array.replicate (nDigits n) 0) (w.alloc (.cells Lib.zeros24 86)) (digits24 w _ _ (by omega)) (by rw [Array.size_replicate]; exact lt_pow_nDigits n) h1 (by rw [Array.size_replicate]; omega)
    rw [Array.size_replicate] at hfm
    have hsl : ∀ W, (Instr.sliceAt 86 (.pointer (some ⟨w.heap.size, 0, none⟩)) none (some (.int .i64 (nDigits n : Int))) none).run Tryd.prog W = .ok (.slice (some ⟨w.heap.size, 0, none⟩) (nDigits n) 24) W := fun W => by
      have hal : Tryd.prog.arrayLen 86 = 24 := by kernel_rfl
      rw [run_sliceAt_array_h W 86 ⟨w.heap.size, 0, none⟩ (by kernel_rfl) .i64 (nDigits n : Int) (by omega) (by rw [hal]; omega), hal]
      go_simp
      try omega
    go_enter Tryd.func40, Tryd.ntmps40
    go_wp2_with (first
      | (go_at_call 54; refine (hnd _ ?_).mono ?_; exact hG1; rintro e w1 ⟨rfl, rfl⟩)
      | (go_at_call 55; refine hfm.mono ?_; rintro e w1 ⟨rfl, k, v', dk, rfl, hF⟩; have hcv := digits_text w n k v' dk hn20 hF _ rfl))
    go_ret
    obtain ⟨os, eo⟩ := Lib.fin_at w (.cells Lib.zeros24 86) dk k 0
    exact ⟨rfl, by rw [eo]; exact Ext.grow _ _ _⟩
theorem FormatUint_any (w : World) (n : Int) (h0 : 0 ≤ n) (h1 : n ≤ 9223372036854775807) (hG : Glob w) :
    Calls Tryd.prog 24 #[.int .u64 n, .int .i64 10] w fun e w' => e = .returned (.string (B (decDigits n.toNat))) ∧ Ext [] w w' := by
  obtain ⟨m, rfl⟩ : ∃ m : Nat, n = m := ⟨n.toNat, by omega⟩
  have hm := FormatUint_in w m (by omega) hG
  rw [Int.toNat_natCast]
  go_enter Tryd.func24, Tryd.ntmps24
  go_wp2_with (go_at_call 40; refine hm.mono ?_; rintro e w1 ⟨rfl, h1⟩)
  go_ret
  exact ⟨rfl, h1⟩
end Go.Proofs.YtbenfgkomphlfaaDoor
