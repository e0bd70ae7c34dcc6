/-
  What strings.ReplaceAll, strconv.FormatInt, FormatUint and ParseInt do at this program.
-/
import Derived.Test.YtbenfgkomphlfaaGreatDoorLexB
import Derived.Shelf.Strings.Replace
import Derived.Shelf.Strconv.Itoa4
import Derived.Shelf.Strconv.ParseIntPublic10
import Derived.Lib.AppendIntMem
namespace Go.Proofs.YtbenfgkomphlfaaGreatDoor
open Go.RowKit
open Go.Lib hiding intOf
set_option linter.unusedVariables false

set_option maxRecDepth 100000
def ren155 : Go.Shelf.Ren := ⟨fun | 155 => 38 | 154 => 53 | 138 => 65 | 165 => 39 | 143 => 66 | 166 => 40 | 197 => 67 | 169 => 41 | 195 => 81 | 218 => 82 | 240 => 54 | 241 => 55 | 219 => 83 | 260 => 84 | 276 => 68 | 277 => 69 | 217 => 96 | 225 => 97 | 224 => 98 | 267 => 99 | 266 => 107 | 314 => 108 | n => n, fun | 9 => 9 | 3 => 3 | 4 => 4 | 72 => 65 | 0 => 0 | 76 => 69 | 105 => 90 | 21 => 21 | 5 => 5 | 70 => 62 | 20 => 20 | 37 => 63 | 75 => 68 | 127 => 76 | 164 => 92 | 46 => 105 | 119 => 120 | 139 => 123 | 138 => 122 | 146 => 134 | 51 => 102 | 80 => 71 | n => n, fun | 1 => 3 | 3 => 4 | 4 => 5 | n => n⟩
theorem lays155 : Go.Proofs.Lays.n155 Tryz.prog ren155 := by
  constructor <;> first | kernel_rfl | (intro w; kernel_rfl) | (constructor <;> first | kernel_rfl | (intro w; kernel_rfl)) | (constructor <;> first | kernel_rfl | (intro w; kernel_rfl) | (constructor <;> first | kernel_rfl | (intro w; kernel_rfl)))
theorem extra155 : Go.Proofs.Builder.Extra Tryz.prog ren155 := by
  constructor <;> first | kernel_rfl | (intro w; kernel_rfl) | decide | (constructor <;> first | kernel_rfl | (intro w; kernel_rfl)) | (constructor <;> first | kernel_rfl | (intro w; kernel_rfl) | (constructor <;> first | kernel_rfl | (intro w; kernel_rfl)))
def ren173 : Go.Shelf.Ren := ⟨fun | 173 => 58 | 246 => 75 | 283 => 61 | 284 => 62 | 285 => 63 | 286 => 64 | 129 => 77 | 317 => 76 | 318 => 78 | 319 => 79 | 320 => 80 | 337 => 94 | 338 => 95 | n => n, fun | 2 => 2 | 3 => 3 | 9 => 9 | 4 => 4 | 171 => 84 | 0 => 0 | 53 => 27 | 37 => 63 | 5 => 5 | 173 => 87 | 212 => 101 | 51 => 102 | 20 => 20 | 213 => 103 | 46 => 105 | 232 => 132 | 233 => 133 | n => n, fun | 17 => 2 | 18 => 9 | 19 => 10 | n => n⟩
theorem lays173 : Go.Proofs.LaysM.n173 Tryz.prog ren173 := by
  constructor <;> first | kernel_rfl | (intro w; kernel_rfl) | (constructor <;> first | kernel_rfl | (intro w; kernel_rfl)) | (constructor <;> first | kernel_rfl | (intro w; kernel_rfl) | (constructor <;> first | kernel_rfl | (intro w; kernel_rfl)))
def ren174 : Go.Shelf.Ren := ⟨fun | 174 => 57 | 247 => 73 | 245 => 74 | 287 => 89 | 279 => 90 | 280 => 91 | 281 => 92 | 282 => 93 | 321 => 102 | 322 => 103 | 316 => 104 | 171 => 106 | 205 => 105 | 243 => 112 | 246 => 75 | 283 => 61 | 284 => 62 | 285 => 63 | 286 => 64 | 129 => 77 | 317 => 76 | 318 => 78 | 319 => 79 | 320 => 80 | 337 => 94 | 338 => 95 | n => n, fun | 9 => 9 | 3 => 3 | 2 => 2 | 75 => 68 | 85 => 77 | 4 => 4 | 167 => 113 | 5 => 5 | 53 => 27 | 175 => 114 | 46 => 105 | 168 => 116 | 37 => 63 | 0 => 0 | 210 => 130 | 21 => 21 | 127 => 76 | 145 => 141 | 143 => 139 | 171 => 84 | 173 => 87 | 212 => 101 | 51 => 102 | 20 => 20 | 213 => 103 | 232 => 132 | 233 => 133 | 80 => 71 | n => n, fun | 15 => 7 | 16 => 8 | 17 => 2 | 18 => 9 | 19 => 10 | n => n⟩
theorem lays174 : Go.Proofs.LaysC.n174 Tryz.prog ren174 := by
  constructor <;> first | kernel_rfl | (intro w; kernel_rfl) | (constructor <;> first | kernel_rfl | (intro w; kernel_rfl)) | (constructor <;> first | kernel_rfl | (intro w; kernel_rfl) | (constructor <;> first | kernel_rfl | (intro w; kernel_rfl)))
def ren283 : Go.Shelf.Ren := ⟨fun | 283 => 61 | n => n, fun | 3 => 3 | 9 => 9 | 4 => 4 | n => n, fun | n => n⟩
theorem lays283 : Go.Proofs.Lays.n283 Tryz.prog ren283 := by
  constructor <;> first | kernel_rfl | (intro w; kernel_rfl) | (constructor <;> first | kernel_rfl | (intro w; kernel_rfl)) | (constructor <;> first | kernel_rfl | (intro w; kernel_rfl) | (constructor <;> first | kernel_rfl | (intro w; kernel_rfl)))
def ren284 : Go.Shelf.Ren := ⟨fun | 284 => 62 | 129 => 77 | 317 => 76 | 318 => 78 | n => n, fun | 53 => 27 | 3 => 3 | 212 => 101 | 0 => 0 | 4 => 4 | 46 => 105 | 5 => 5 | 9 => 9 | n => n, fun | 17 => 2 | n => n⟩
theorem lays284 : Go.Proofs.LaysM.n284 Tryz.prog ren284 := by
  constructor <;> first | kernel_rfl | (intro w; kernel_rfl) | (constructor <;> first | kernel_rfl | (intro w; kernel_rfl)) | (constructor <;> first | kernel_rfl | (intro w; kernel_rfl) | (constructor <;> first | kernel_rfl | (intro w; kernel_rfl)))
def ren285 : Go.Shelf.Ren := ⟨fun | 285 => 63 | n => n, fun | 37 => 63 | 53 => 27 | 3 => 3 | 4 => 4 | 51 => 102 | 9 => 9 | 5 => 5 | 0 => 0 | n => n, fun | n => n⟩
theorem lays285 : Go.Proofs.Lays.n285 Tryz.prog ren285 := by
  constructor <;> first | kernel_rfl | (intro w; kernel_rfl) | (constructor <;> first | kernel_rfl | (intro w; kernel_rfl)) | (constructor <;> first | kernel_rfl | (intro w; kernel_rfl) | (constructor <;> first | kernel_rfl | (intro w; kernel_rfl)))

theorem ReplaceAll_any (w : World) (s : ByteArray) (hG : Glob w) (hs : s.size ≤ 1000000) :
    Calls Tryz.prog 38 #[.string s, .string ⟨#[39]⟩, .string ⟨#[39, 39]⟩] w fun e w' => e = .returned (.string (B (esc (L s)))) ∧ Ext [] w w' := by
  obtain ⟨m, hm⟩ := hG.mlen
  have hc := countB_le ⟨#[39]⟩ (by decide) s.size s (Nat.le_refl _)
  refine (Any.strings_ReplaceAll lays155 extra155 s ⟨#[39]⟩ ⟨#[39, 39]⟩ m w (by omega) hm (by decide) ?_).mono fun e w' h => ⟨?_, Ext.ofBelow h.2⟩
  · have : (⟨#[39, 39]⟩ : ByteArray).size = 2 := rfl
    rw [this]; omega
  · rw [h.1, ← replaceAll_esc]; rfl
theorem Ext.grow (w : World) (k : Nat) (os : Array Obj) : Ext [] w (Go.Sort.grow (w.drewN k) os) :=
  ⟨rfl, rfl, rfl, by show w.heap.size ≤ (w.heap ++ os).size; simp, fun g hg _ => Lib.heap_grow_old w k os g hg⟩
theorem FormatInt_any (w : World) (n : Int) (h0 : -9223372036854775808 ≤ n) (h1 : n ≤ 9223372036854775807) (hG : Glob w) :
    Calls Tryz.prog 58 #[.int .i64 n, .int .i64 10] w fun e w' => e = .returned (.string (B (itoa n))) ∧ Ext [] w w' :=
  (Any.strconv_FormatInt_10 lays173 n h0 h1 w hG.pow).mono fun e w' ⟨h, k, os, e⟩ => ⟨h, by rw [e]; exact Ext.grow _ _ _⟩
theorem Ext.bytes (w : World) (t : TypeId) (s : ByteArray) : Ext [] w (Lib.bytesWorld w t s) :=
  ⟨rfl, rfl, rfl, by simp [Lib.bytesWorld, World.freeze, World.alloc, World.drew, -World.alloc_eq, -World.drew_eq], fun g hg _ => Lib.bytesWorld_at_old w t s g hg⟩
/-- a number, or no number: what is asked of the second result is whether it is nil -/
theorem ParseInt_ok (w : World) (s : ByteArray) (hs : s.size ≤ 1000000) (v : Int) (h : parseIntB 64 (L s) = .ok v) :
    Calls Tryz.prog 57 #[.string s, .int .i64 10, .int .i64 64] w fun e w' => e = .returned (.tuple #[.int .i64 v, .nilIface]) ∧ Ext [] w w' :=
  (Any.strconv_ParseInt_10_at64_ok lays174 s (by omega) v h w).mono fun e w' ⟨h, h2⟩ => ⟨h, by
    rcases h2 with rfl | ⟨t, rfl⟩
    · exact Ext.refl _ _
    · exact Ext.bytes _ _ _⟩
theorem ParseInt_no (w : World) (s : ByteArray) (hG : Glob w) (hs : s.size ≤ 1000000) (h : ∀ v, parseIntB 64 (L s) ≠ .ok v) :
    Calls Tryz.prog 57 #[.string s, .int .i64 10, .int .i64 64] w fun e w' => (∃ v t p, e = .returned (.tuple #[.int .i64 v, .iface t p])) ∧ Ext [] w w' := by
  rcases hp : parseIntB 64 (L s) with v | _ | _
  · exact absurd hp (h v)
  · obtain ⟨te, pe, hv⟩ := hG.esyn
    exact (Any.strconv_ParseInt_10_at64_syntax lays174 s (by omega) hp _ w hv (.inr ⟨te, pe, rfl⟩)).mono fun e w' ⟨N, h, _, _, hb⟩ => ⟨⟨_, _, _, h⟩, Ext.ofBelow hb⟩
  · obtain ⟨te, pe, hv⟩ := hG.erng
    exact (Any.strconv_ParseInt_10_at64_range lays174 s (by omega) hp _ w hv (.inr ⟨te, pe, rfl⟩)).mono fun e w' ⟨N, h, _, _, hb⟩ => ⟨⟨_, _, _, h⟩, Ext.ofBelow hb⟩

/-! ## FormatUint -/
theorem digits24 (w : World) (t : TypeId) (nd : Nat) (hn : nd ≤ 24) : Go.Sort.Holds (fun (b : UInt8) => Value.int .u8 (b.toNat : Int)) (w.alloc (.cells Lib.zeros24 t)) w.heap.size 0 (Array.replicate nd (0 : UInt8)) := Lib.holds_zero0 w t nd hn
theorem digits_text (w : World) (n k v : Nat) (dk : Array UInt8) (hn : nDigits n ≤ 20) (hF : FmtInv (nDigits n) n 0 v dk) (W : World)
    (hW : W = (Go.Sort.putRow (fun (b : UInt8) => Value.int .u8 (b.toNat : Int)) (w.alloc (.cells Lib.zeros24 84)) w.heap.size 0 dk).drewN k) :
    (convert 63 9 (.slice (some ⟨w.heap.size, 0, none⟩) (nDigits n) 24)).run Tryz.prog W = .ok (.string ⟨(decDigits n).toArray⟩) W := by
  have hsz := hF.size
  have hlen := decDigits_length n
  have key : ∀ j (hj : j < (decDigits n).length), W.cell? ((⟨w.heap.size, 0, none⟩ : Addr).add j) = some (.int .u8 ((decDigits n)[j].toNat : Int)) := fun j hj => by
    have hrow := Go.Sort.cell?_putRow (fun (b : UInt8) => Value.int .u8 (b.toNat : Int)) _ w.heap.size 0 _ dk (digits24 w 84 (nDigits n) (by omega)) (by rw [hsz, Array.size_replicate]) j (by omega)
    rw [add_off, hW, World.cell?_drewN, row_is_numeral hF j hj]
    exact hrow
  have h := run_convert_bytes_back (P := Tryz.prog) W 63 9 5 ⟨w.heap.size, 0, none⟩ 24 (decDigits n) Tryz.underlying63 Tryz.underlying5 Tryz.underlying9 key
  rwa [hlen] at h
set_option maxHeartbeats 2000000 in
theorem FormatUint_in (w : World) (n : Nat) (h1 : n < 18446744073709551616) (hG : Glob w) :
    Calls Tryz.prog 52 #[.int .u64 n, .int .i64 10] w fun e w' => e = .returned (.string (B (decDigits n))) ∧ Ext [] w w' := by
  by_cases hs : n < 100
  · have hc := fun W => Any.internal_strconv_small lays283 n hs W
    go_enter Tryz.func52, Tryz.ntmps52
    go_wp2_with (go_at_call 61; refine (hc _).mono ?_; rintro e w1 ⟨rfl, rfl⟩)
    go_ret
    exact ⟨rfl, Ext.refl _ _⟩
  · have hn20 : nDigits n ≤ 20 := by have := numDigits_eq n (by omega) h1; split at this <;> omega
    have hnd := fun W (g : Glob W) => Any.internal_strconv_numDigits lays284 n (by omega) h1 W g.pow
    have hG1 : Glob (w.alloc (.cells Lib.zeros24 84)) := hG.ext ((Ext.refl [] w).alloc _)
    have hfm := Any.internal_strconv_formatBase10 lays285 w.heap.size 0 24 n (Array.replicate (nDigits n) 0) (w.alloc (.cells Lib.zeros24 84)) (digits24 w _ _ (by omega)) (by rw [Array.size_replicate]; exact lt_pow_nDigits n) h1 (by rw [Array.size_replicate]; omega)
    rw [Array.size_replicate] at hfm
    have hsl : ∀ W, (Instr.sliceAt 84 (.pointer (some ⟨w.heap.size, 0, none⟩)) none (some (.int .i64 (nDigits n : Int))) none).run Tryz.prog W = .ok (.slice (some ⟨w.heap.size, 0, none⟩) (nDigits n) 24) W := fun W => by
      have hal : Tryz.prog.arrayLen 84 = 24 := by kernel_rfl
      rw [run_sliceAt_array_h W 84 ⟨w.heap.size, 0, none⟩ (by kernel_rfl) .i64 (nDigits n : Int) (by omega) (by rw [hal]; omega), hal]
      go_simp
      try omega
    go_enter Tryz.func52, Tryz.ntmps52
    go_wp2_with (first
      | (go_at_call 62; refine (hnd _ ?_).mono ?_; exact hG1; rintro e w1 ⟨rfl, rfl⟩)
      | (go_at_call 63; refine hfm.mono ?_; rintro e w1 ⟨rfl, k, v', dk, rfl, hF⟩; have hcv := digits_text w n k v' dk hn20 hF _ rfl))
    go_ret
    obtain ⟨os, eo⟩ := Lib.fin_at w (.cells Lib.zeros24 84) dk k 0
    exact ⟨rfl, by rw [eo]; exact Ext.grow _ _ _⟩
theorem FormatUint_any (w : World) (n : Int) (h0 : 0 ≤ n) (h1 : n ≤ 9223372036854775807) (hG : Glob w) :
    Calls Tryz.prog 37 #[.int .u64 n, .int .i64 10] w fun e w' => e = .returned (.string (B (decDigits n.toNat))) ∧ Ext [] w w' := by
  obtain ⟨m, rfl⟩ : ∃ m : Nat, n = m := ⟨n.toNat, by omega⟩
  have hm := FormatUint_in w m (by omega) hG
  rw [Int.toNat_natCast]
  go_enter Tryz.func37, Tryz.ntmps37
  go_wp2_with (go_at_call 52; refine hm.mono ?_; rintro e w1 ⟨rfl, h1⟩)
  go_ret
  exact ⟨rfl, h1⟩
end Go.Proofs.YtbenfgkomphlfaaGreatDoor
