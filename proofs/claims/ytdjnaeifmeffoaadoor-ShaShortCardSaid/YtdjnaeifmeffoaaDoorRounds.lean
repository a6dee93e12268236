/- The round constants of the document, as its call hands them out. -/
import Derived.Test.YtdjnaeifmeffoaaDoorPut
import Derived.Great.BuildSlice
namespace Go.Proofs.YtdjnaeifmeffoaaDoor
open Go.RowKit
def kL : List Int := [1116352408, 1899447441, 3049323471, 3921009573, 961987163, 1508970993, 2453635748, 2870763221, 3624381080, 310598401, 607225278, 1426881987, 1925078388, 2162078206, 2614888103, 3248222580, 3835390401, 4022224774, 264347078, 604807628, 770255983, 1249150122, 1555081692, 1996064986, 2554220882, 2821834349, 2952996808, 3210313671, 3336571891, 3584528711, 113926993, 338241895, 666307205, 773529912, 1294757372, 1396182291, 1695183700, 1986661051, 2177026350, 2456956037, 2730485921, 2820302411, 3259730800, 3345764771, 3516065817, 3600352804, 4094571909, 275423344, 430227734, 506948616, 659060556, 883997877, 958139571, 1322822218, 1537002063, 1747873779, 1955562222, 2024104815, 2227730452, 2361852424, 2428436474, 2756734187, 3204031479, 3329325298]
def u32Cells (l : List Int) : List Value := l.map (Value.int .u32)
set_option maxRecDepth 100000 in
set_option maxHeartbeats 400000 in
theorem rounds_any (w : World) :
    Calls Tryd.prog 35 #[] w fun e w' => e = .returned (.agg (u32Cells kL).toArray) ∧ Below w.heap.size w w' := by
  go_enter Tryd.func35, Tryd.ntmps35
  go_wp2_with (first
    | (with_reducible refine wpList_buildFlatArr rfl 58 51 64 _ rfl .u32 kL ?hu ?hsz ?hz ?hparts ?_)
    | (with_reducible refine wpList_store_row rfl 58 (.tmp 0) (.tmp 1) rfl w.heap.size (kL.map (Value.int .u32)).toArray rfl rfl 58 ?old ?hg ?hi ?ho ?h1 ?_))
  case hu => exact Tryd.underlying58
  case hsz => kernel_rfl
  case hz => kernel_rfl
  case hparts => rfl
  case hi => kernel_rfl
  case h1 => kernel_rfl
  case hg => exact heap_alloc_new _ _
  case ho => rfl
  have hb : Below w.heap.size w ((w.alloc (.cells (List.replicate 64 (Value.int .u32 0)).toArray 58)).setRow w.heap.size (kL.map (Value.int .u32)).toArray) := by
    refine ((Below.refl _ _).alloc (Nat.le_refl _) _).grown (row := some w.heap.size) ⟨rfl, rfl, rfl, by simp, fun j _ hj => setRow_other _ _ _ _ (fun e => hj (by rw [e]))⟩ (by simp) (fun k hk => by injection hk with hk; omega)
  refine bodyPost_ret (v := .agg (kL.map (Value.int .u32)).toArray) (results_cell_row (p := 0) (ty := 58) (by kernel_rfl) _ _ w.heap.size 58 _ (0, 0) _ rfl (setRow_heap _ _ _ _ _ _ (heap_alloc_new _ _)) Tryd.underlying58 rfl (by kernel_rfl)) rfl ⟨rfl, hb⟩
end Go.Proofs.YtdjnaeifmeffoaaDoor
