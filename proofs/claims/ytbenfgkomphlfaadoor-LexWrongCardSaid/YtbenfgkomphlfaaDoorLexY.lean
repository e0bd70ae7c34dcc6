/-
  strings.ToLower, on plain text.
-/
import Derived.Test.YtbenfgkomphlfaaDoorLexB
namespace Go.Proofs.YtbenfgkomphlfaaDoor
open Go.RowKit Go.Shelf
open Go.Lib hiding intOf
set_option linter.unusedVariables false
def ren159 : Go.Shelf.Ren := ⟨fun | 159 => 10 | 165 => 17 | 166 => 18 | 167 => 19 | 169 => 20 | 230 => 21 | 204 => 22 | 240 => 29 | 241 => 30 | 197 => 31 | 118 => 32 | 168 => 33 | 270 => 34 | 262 => 35 | 276 => 47 | 277 => 48 | 260 => 49 | 242 => 50 | 313 => 51 | 278 => 63 | 274 => 64 | 275 => 65 | n => n, fun | 9 => 9 | 4 => 4 | 3 => 3 | 5 => 5 | 72 => 48 | 0 => 0 | 76 => 52 | 75 => 51 | 107 => 57 | 70 => 46 | 20 => 20 | 37 => 34 | 127 => 66 | 21 => 21 | 105 => 67 | 164 => 76 | 162 => 82 | 203 => 80 | 119 => 96 | 46 => 97 | 139 => 100 | 138 => 99 | 51 => 101 | 160 => 102 | 208 => 117 | 206 => 115 | 80 => 55 | n => n, fun | 13 => 0 | 3 => 4 | 4 => 5 | n => n⟩
theorem lays159 : Go.Proofs.Lays.n159 Tryd.prog ren159 := by
  constructor <;> first | kernel_rfl | (intro w; kernel_rfl)
theorem extra159 : Go.Proofs.Builder.Extra Tryd.prog ren159 := by
  constructor <;> first | kernel_rfl | (intro w; kernel_rfl) | decide | (constructor <;> kernel_rfl)
theorem ToLower_any (w : World) (s : ByteArray) (hl : s.size ≤ 1000000) (ha : ascii (L s) = true) :
    Calls Tryd.prog 10 #[.string s] w fun e w' => e = .returned (.string (B (toLowerA (L s)))) ∧ Ext [] w w' :=
  (Any.strings_ToLower_ascii lays159 extra159 s w (by omega) (fun j b hb => by
    have := List.all_eq_true.1 ha b (List.mem_of_getElem? hb)
    simpa using this)).mono fun e w' h => ⟨h.1, Ext.ofBelow h.2⟩
end Go.Proofs.YtbenfgkomphlfaaDoor
