/-
  A slice of texts, by index.
-/
import Derived.Test.YtjnkplmcopihbaaTrees
import Derived.Test.YtjnkplmcopihbaaArgs
namespace Go.Proofs.Ytjnkplmcopihbaa
open Go.RowKit

/-- A slice of texts, by index. -/
def Txs (w : World) (a : Option Addr) (n : Nat) (S : Nat → ByteArray) : Prop := 0 < n → ∃ b o, a = some ⟨b, o, none⟩ ∧ ∀ j, j < n → w.cell? ⟨b, o + j, none⟩ = some (.string (S j))
theorem Txs.later {w w' : World} {a : Option Addr} {n : Nat} {S : Nat → ByteArray} (h : Txs w a n S) (hB : Below w.heap.size w w') : Txs w' a n S := fun h0 => by
  obtain ⟨b, o, e, hc⟩ := h h0
  exact ⟨b, o, e, fun j hj => cell_later (hc j hj) hB⟩
theorem Txs.lt {W : World} {a : Option Addr} {n : Nat} {S : Nat → ByteArray} (hx : Txs W a n S) (h0 : 0 < n) {b o : Nat} (e : a = some ⟨b, o, none⟩) : b < W.heap.size := by
  obtain ⟨b', o', e', hc⟩ := hx h0
  rw [e] at e'
  cases e'
  exact World.block_lt_of_cell? W _ (hc 0 h0)
end Go.Proofs.Ytjnkplmcopihbaa
