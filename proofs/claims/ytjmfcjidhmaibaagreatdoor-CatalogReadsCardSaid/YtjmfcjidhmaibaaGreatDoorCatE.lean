/-
  What the library's functions do at this program: strings.Index, Cut, Split, IndexByte, the suffix, a Builder.
-/
import Derived.Test.YtjmfcjidhmaibaaGreatDoorCatB
import Derived.Shelf.Strings.Prefix
import Derived.Shelf.Strings.Cut
import Derived.Shelf.Strings.Split
import Derived.Shelf.Strings.Search3
import Derived.Shelf.Strings.Builder1
namespace Go.Proofs.YtjmfcjidhmaibaaGreatDoor
open Go.RowKit
open Go.Lib hiding intOf
set_option linter.unusedVariables false
set_option maxRecDepth 100000

def renA : Go.Shelf.Ren := ⟨fun | 138 => 89 | 143 => 42 | 145 => 44 | 146 => 45 | 165 => 62 | 166 => 18 | 169 => 20 | 240 => 36 | 241 => 80 | 197 => 98 | 276 => 61 | 277 => 94 | 260 => 104 | 195 => 97 | 218 => 99 | 219 => 67 | 217 => 83 | 225 => 84 | 224 => 85 | 267 => 86 | 266 => 95 | 314 => 96 | 220 => 69 | 221 => 70 | 268 => 88 | 207 => 87 | n => n, fun | 9 => 9 | 3 => 3 | 4 => 4 | 72 => 49 | 0 => 0 | 76 => 52 | 75 => 51 | 105 => 126 | 21 => 21 | 5 => 5 | 70 => 46 | 20 => 20 | 37 => 47 | 127 => 74 | 164 => 98 | 46 => 115 | 119 => 136 | 139 => 139 | 138 => 138 | 146 => 124 | 51 => 123 | 80 => 55 | 31 => 71 | 59 => 80 | n => n, fun | 1 => 1 | 3 => 4 | 4 => 5 | n => n⟩
theorem lays143 : Go.Proofs.Lays.n143 Tryz.prog renA := by
  constructor <;> first | kernel_rfl | (intro w; kernel_rfl) | decide | (constructor <;> first | kernel_rfl | (intro w; kernel_rfl)) | (constructor <;> first | kernel_rfl | (intro w; kernel_rfl) | (constructor <;> first | kernel_rfl | (intro w; kernel_rfl)))
theorem lays145 : Go.Proofs.Lays.n145 Tryz.prog renA := by
  constructor <;> first | kernel_rfl | (intro w; kernel_rfl) | decide | (constructor <;> first | kernel_rfl | (intro w; kernel_rfl)) | (constructor <;> first | kernel_rfl | (intro w; kernel_rfl) | (constructor <;> first | kernel_rfl | (intro w; kernel_rfl)))
theorem lays146 : Go.Proofs.Lays.n146 Tryz.prog renA := by
  constructor <;> first | kernel_rfl | (intro w; kernel_rfl) | decide | (constructor <;> first | kernel_rfl | (intro w; kernel_rfl)) | (constructor <;> first | kernel_rfl | (intro w; kernel_rfl) | (constructor <;> first | kernel_rfl | (intro w; kernel_rfl)))
theorem lays166 : Go.Proofs.Lays.n166 Tryz.prog renA := by
  constructor <;> first | kernel_rfl | (intro w; kernel_rfl) | decide | (constructor <;> first | kernel_rfl | (intro w; kernel_rfl)) | (constructor <;> first | kernel_rfl | (intro w; kernel_rfl) | (constructor <;> first | kernel_rfl | (intro w; kernel_rfl)))
theorem lays169 : Go.Proofs.Lays.n169 Tryz.prog renA := by
  constructor <;> first | kernel_rfl | (intro w; kernel_rfl) | decide | (constructor <;> first | kernel_rfl | (intro w; kernel_rfl)) | (constructor <;> first | kernel_rfl | (intro w; kernel_rfl) | (constructor <;> first | kernel_rfl | (intro w; kernel_rfl)))
theorem lays207 : Go.Proofs.Lays.n207 Tryz.prog renA := by
  constructor <;> first | kernel_rfl | (intro w; kernel_rfl) | decide | (constructor <;> first | kernel_rfl | (intro w; kernel_rfl)) | (constructor <;> first | kernel_rfl | (intro w; kernel_rfl) | (constructor <;> first | kernel_rfl | (intro w; kernel_rfl)))
theorem lays217 : Go.Proofs.Lays.n217 Tryz.prog renA := by
  constructor <;> first | kernel_rfl | (intro w; kernel_rfl) | decide | (constructor <;> first | kernel_rfl | (intro w; kernel_rfl)) | (constructor <;> first | kernel_rfl | (intro w; kernel_rfl) | (constructor <;> first | kernel_rfl | (intro w; kernel_rfl)))
theorem extraA : Go.Proofs.Builder.Extra Tryz.prog renA := by
  constructor <;> first | kernel_rfl | (intro w; kernel_rfl) | decide | (constructor <;> first | kernel_rfl | (intro w; kernel_rfl)) | (constructor <;> first | kernel_rfl | (intro w; kernel_rfl) | (constructor <;> first | kernel_rfl | (intro w; kernel_rfl)))

theorem Index_any (w : World) (s sub : ByteArray) (hG : Glob w) (hs : s.size ≤ 1000000) :
    Calls Tryz.prog 42 #[.string s, .string sub] w fun e w' => e = .returned (.int .i64 (Lib.index (L s) (L sub))) ∧ w' = w := by
  obtain ⟨m, hm⟩ := hG.mlen
  exact Any.strings_Index lays143 s sub m w (by omega) hm
theorem Ext.drewNs (w : World) (n : Nat) : Ext [] w (w.drewN n) := (Ext.refl [] w).drewN n
theorem Cut_any (w : World) (s sep : ByteArray) (hG : Glob w) (hs : s.size ≤ 1000000) :
    Calls Tryz.prog 44 #[.string s, .string sep] w fun e w' => e = .returned (.tuple #[.string (B (Lib.cut (L s) (L sep)).1), .string (B (Lib.cut (L s) (L sep)).2.1), .bool (Lib.cut (L s) (L sep)).2.2]) ∧ Ext [] w w' := by
  obtain ⟨m, hm⟩ := hG.mlen
  exact (Any.strings_Cut lays145 s sep m w (by omega) hm).mono fun e w' ⟨h, n, h2⟩ => ⟨h, h2 ▸ Ext.drewNs _ _⟩
theorem Split_any (w : World) (s sep : ByteArray) (hG : Glob w) (hs : s.size ≤ 1000000) (h1 : 1 ≤ sep.size) :
    Calls Tryz.prog 45 #[.string s, .string sep] w fun e w' => ∃ v, e = .returned v ∧ Sl w' v w.heap.size 1 (Lib.splitB sep 0 (Lib.countB s sep) s).length ((Lib.splitB sep 0 (Lib.countB s sep) s).map Value.string) ∧ Ext [] w w' := by
  obtain ⟨m, hm⟩ := hG.mlen
  refine (Any.strings_Split lays146 (by kernel_rfl) s sep m w (by omega) hm h1).mono fun e w' ⟨h, h2⟩ => ⟨_, h, ?_, h2 ▸ (Ext.refl [] w).alloc _⟩
  have hlen := Lib.splitB_all sep h1 0 _ s rfl
  have hc := Lib.countB_le sep h1 s.size s (Nat.le_refl _)
  rw [h2, ← hlen]
  exact Sl.lit w ((Lib.splitB sep 0 (Lib.countB s sep) s).map Value.string) _ 1 _ (by simp) (by rw [hlen]; unfold maxLen; omega)
theorem IndexByte_any (w : World) (s : ByteArray) (c : Int) :
    Calls Tryz.prog 83 #[.string s, .int .u8 c] w fun e w' => e = .returned (.int .i64 (Lib.indexByte (L s) c.toNat.toUInt8)) ∧ w' = w := Any.stringslite_IndexByte lays217 s c w
theorem HasSuffix_any (w : World) (s p : ByteArray) (hs : s.size ≤ 1000000) :
    Calls Tryz.prog 87 #[.string s, .string p] w fun e w' => e = .returned (.bool (Lib.hasSuffix (L s) (L p))) ∧ w' = w := Any.stringslite_HasSuffix lays207 s p w (by omega)
theorem Write_any (w : World) (base b : Nat) (bs : List Value) (s : ByteArray) (h : Lib.IsBuilder 49 5 base b bs w) (hl : bs.length + s.size ≤ 1000000000) (hb : base ≤ w.heap.size) :
    Calls Tryz.prog 18 #[.pointer (some ⟨b, 0, none⟩), .string s] w fun e w' => e = .returned (.tuple #[.int .i64 s.size, .nilIface]) ∧ (Lib.BuilderAt 49 5 base b (.pointer (some ⟨b, 0, none⟩)) (bs ++ Lib.strCells s) w' ∧ Below base w w') :=
  Any.Builder_WriteString lays166 extraA base b bs s w h (by omega) hb
theorem BString_any (w : World) (base b : Nat) (l : List UInt8) (h : Lib.IsBuilder 49 5 base b (Lib.byteCells l) w) (hb : base ≤ w.heap.size) :
    Calls Tryz.prog 20 #[.pointer (some ⟨b, 0, none⟩)] w fun e w' => e = .returned (.string (B l)) ∧ Below base w w' :=
  Any.Builder_String_any lays169 extraA base b l w h hb
end Go.Proofs.YtjmfcjidhmaibaaGreatDoor
