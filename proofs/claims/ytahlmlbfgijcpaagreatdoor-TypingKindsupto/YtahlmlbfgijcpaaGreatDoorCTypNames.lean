/-
  Names in memory: the map from each Var to its type's schema.
-/
import Derived.Test.YtahlmlbfgijcpaaGreatDoorCTypCopied
import Derived.Test.YtahlmlbfgijcpaaGreatDoorCTypKindAll
import Derived.Test.YtahlmlbfgijcpaaGreatDoorCSchFind
import Derived.Maps.OwnSet
import Derived.Maps.OwnIn
import Derived.Maps.Views
namespace Go.Proofs.YtahlmlbfgijcpaaGreatDoor
open Go.RowKit Go.Maps Go.WideMaps

/-- An element of the map is held as it is. -/
def elemV (v : Value) : Option (DataW Value × List MemPlace) := some (.held v, [])
abbrev schZ : Value := schV ⟨#[]⟩ (.slice none 0 0)
/-- What the map tells of the Vars from the i-th on: the schema of each one's first place. -/
structure FirstS (V : Nat → ByteArray) (U : Nat → Value) (n i : Nat) (D : DataW Value) : Prop where
  hit : ∀ j, i ≤ j → j < n → (∀ j', i ≤ j' → j' < j → V j' ≠ V j) → Maps.has D (keyS (V j)) = true ∧ D.atKey (keyS (V j)) (.held schZ) = .held (U j)
  miss : ∀ s, (∀ j, i ≤ j → j < n → V j ≠ s) → Maps.has D (keyS s) = false ∧ D.atKey (keyS s) (.held schZ) = .held schZ
theorem firstS_none (V : Nat → ByteArray) (U : Nat → Value) (n : Nat) : FirstS V U n n (.map []) := ⟨fun j h1 h2 => by omega, fun _ _ => ⟨rfl, rfl⟩⟩
theorem FirstS.more {V : Nat → ByteArray} {U : Nat → Value} {n i : Nat} {D : DataW Value} (h : FirstS V U n (i + 1) D) (hm : IsMap D) (hi : i < n) : FirstS V U n i (D.put (keyS (V i)) (.held (U i))) := by
  refine ⟨fun j h1 h2 h3 => ?_, fun s hs => ?_⟩
  · by_cases e : j = i
    · subst e
      exact ⟨has_put_same hm (by simp [WideAt.IsKeyLit]) _, atKey_put_same hm (by simp [WideAt.IsKeyLit]) _ _⟩
    · have hne : V i ≠ V j := h3 i (Nat.le_refl _) (by omega)
      obtain ⟨q1, q2⟩ := h.hit j (by omega) h2 fun j' h4 h5 => h3 j' (by omega) h5
      rw [has_put_other (keyS_ne fun q => hne q.symm), atKey_put_other (keyS_ne fun q => hne q.symm)]
      exact ⟨q1, q2⟩
  · have hne : V i ≠ s := hs i (Nat.le_refl _) hi
    rw [has_put_other (keyS_ne fun q => hne q.symm), atKey_put_other (keyS_ne fun q => hne q.symm)]
    exact h.miss s fun j h1 h2 => hs j (by omega) h2
/-- What the map holds of a Var. -/
def atV (V : Nat → ByteArray) (U : Nat → Value) (n : Nat) (s : ByteArray) : Value := match idx V s n with | some i => U i | none => schZ
theorem FirstS.at {V : Nat → ByteArray} {U : Nat → Value} {n : Nat} {D : DataW Value} (h : FirstS V U n 0 D) (s : ByteArray) : Maps.has D (keyS s) = (idx V s n).isSome ∧ D.atKey (keyS s) (.held schZ) = .held (atV V U n s) := by
  unfold atV
  cases e : idx V s n with
  | some i =>
    obtain ⟨h1, rfl, h3⟩ := idx_some V s n i e
    obtain ⟨q1, q2⟩ := h.hit i (Nat.zero_le _) h1 fun j' _ h5 => h3 j' h5
    exact ⟨q1, q2⟩
  | none => exact h.miss s fun j _ hj => idx_none V s n e j hj
/-- Names, as New makes them. -/
structure NamesIn (w : World) (p m n : Nat) (V : Nat → ByteArray) (S : Nat → Sch) : Prop where
  box : w.cell? ⟨p, 0, none⟩ = some (.map (some m))
  map : ∃ D, w.ownsMap Tryz.prog 9 elemV m n D ∧ FirstS V (fun j => schV (S j).nm (S j).v) n 0 D
  flds : ∀ j, j < n → Flds w (S j).a (S j).l (S j).fn (S j).fk ∧ (S j).l ≤ 16
theorem NamesIn.later {w w' : World} {p m n : Nat} {V : Nat → ByteArray} {S : Nat → Sch} (h : NamesIn w p m n V S) (hB : Below w.heap.size w w') : NamesIn w' p m n V S := by
  obtain ⟨D, ho, hf⟩ := h.map
  refine ⟨cell_later h.box hB, ⟨D, ?_, hf⟩, fun j hj => ⟨(h.flds j hj).1.later hB, (h.flds j hj).2⟩⟩
  have hlt := ho.lt
  obtain ⟨es, clock, h1, h2⟩ := ho
  exact ⟨es, clock, (hB.block m hlt).trans h1, h2⟩
theorem zeroS (w : World) : (zeroValue 58).run Tryz.prog w = .ok schZ w := by kernel_rfl
theorem NamesIn.look {w : World} {p m n : Nat} {V : Nat → ByteArray} {S : Nat → Sch} (h : NamesIn w p m n V S) (s : ByteArray) (hs : s.size ≤ maxLen) :
    (Instr.lookup 48 (.map (some m)) (.string s) false).run Tryz.prog w = .ok (atV V (fun j => schV (S j).nm (S j).v) n s) w := by
  obtain ⟨D, ho, hf⟩ := h.map
  obtain ⟨v, ps, hr, hv⟩ := ho.lookup str_law Tryz.underlying48 (zeroS w) (show elemV schZ = some (.held schZ, []) from rfl) (keyOf_string_mk Tryz.underlying9 hs)
  rw [(hf.at s).2] at hv
  simp only [elemV, Option.some.injEq, Prod.mk.injEq, DataW.held.injEq] at hv
  rw [hr, hv.1]
theorem NamesIn.look_ok {w : World} {p m n : Nat} {V : Nat → ByteArray} {S : Nat → Sch} (h : NamesIn w p m n V S) (s : ByteArray) (hs : s.size ≤ maxLen) :
    (Instr.lookup 48 (.map (some m)) (.string s) true).run Tryz.prog w = .ok (.tuple #[atV V (fun j => schV (S j).nm (S j).v) n s, .bool (idx V s n).isSome]) w := by
  obtain ⟨D, ho, hf⟩ := h.map
  obtain ⟨v, ps, hr, hv⟩ := ho.look_ok str_law Tryz.underlying48 (zeroS w) (show elemV schZ = some (.held schZ, []) from rfl) (keyOf_string_mk Tryz.underlying9 hs)
  rw [(hf.at s).2] at hv
  simp only [elemV, Option.some.injEq, Prod.mk.injEq, DataW.held.injEq] at hv
  rw [hr, hv.1, (hf.at s).1]
end Go.Proofs.YtahlmlbfgijcpaaGreatDoor
