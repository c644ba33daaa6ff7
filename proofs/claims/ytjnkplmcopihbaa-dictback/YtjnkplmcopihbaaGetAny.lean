/-
  What vint.Get, vint.GetInt and the document's Get and GetInt answer, at every slice of bytes (nil too) and every place: one answer of the bytes and the place.
-/
import Derived.Test.YtjnkplmcopihbaaRefGet
namespace Go.Proofs.Ytjnkplmcopihbaa
open Go.RowKit

/-- A slice of bytes that came in: its elements are 'zs'. -/
def IsBytes (w : World) (a : Option Addr) (len cap : Nat) (zs : List Int) : Prop :=
  zs.length = len ∧ len ≤ cap ∧ cap ≤ maxLen ∧ (a = none → cap = 0) ∧ (∀ j : Nat, 0 ≤ zs[j]?.getD 0 ∧ zs[j]?.getD 0 ≤ 255) ∧
    (0 < len → ∃ b off, a = some ⟨b, off, none⟩ ∧ ∀ j, j < len → w.cell? ⟨b, off + j, none⟩ = some (.int .u8 (zs[j]?.getD 0)))

/-- What the kit's shell tells of a slice of bytes, as 'IsBytes'. -/
theorem isBytes_of {w : World} {a : Option Addr} {len cap : Nat} {zs : List Int} (h : (a = none ∧ len = 0 ∧ cap = 0 ∧ zs = []) ∨ ∃ x, a = some x ∧ len ≤ cap ∧ cap ≤ maxLen ∧ zs.length = cap ∧ (∀ i, i < zs.length → w.cell? (x.add i) = some (.int .u8 (zs.getD i 0))) ∧ ∀ n ∈ zs, (Lit.int .u8 n).wf = true) : ∃ ys, IsBytes w a len cap ys := by
  rcases h with ⟨rfl, rfl, rfl, rfl⟩ | ⟨x, rfl, hl, hm, hz, hcell, hwz⟩
  · exact ⟨[], rfl, Nat.le_refl _, Nat.zero_le _, fun _ => rfl, fun j => by simp, fun h => by omega⟩
  · refine ⟨zs.take len, by simp; omega, hl, hm, by simp, ?_, ?_⟩
    · intro j
      have := range_u8 hwz j
      by_cases hj : j < len
      · simpa [List.getElem?_take, hj] using this
      · simp [List.getElem?_take, hj]
    · intro h0
      obtain ⟨b, off, spot⟩ := x
      have hspot : spot = none := by simpa [Addr.add] using World.cell?_spot (hcell 0 (by omega))
      subst hspot
      refine ⟨b, off, rfl, fun j hj => ?_⟩
      have e : (⟨b, off, none⟩ : Addr).add j = ⟨b, off + j, none⟩ := by unfold Addr.add; split <;> simp_all
      have := hcell j (by omega)
      rw [e] at this
      simpa [List.getElem?_take, hj, List.getD_eq_getElem?_getD] using this

/-- P1.2's answer: the number, the place, the error. -/
def getZ (zs : List Int) (p : Int) : Int × Int × Int :=
  if p < 0 ∨ (zs.length : Int) < p then (0, 0, 1) else ((dec 0 0 (zs.drop p.toNat)).1, p + (dec 0 0 (zs.drop p.toNat)).2.1, (dec 0 0 (zs.drop p.toNat)).2.2)

theorem mem_bd {zs : List Int} (h : ∀ j : Nat, 0 ≤ zs[j]?.getD 0 ∧ zs[j]?.getD 0 ≤ 255) : ∀ c ∈ zs, 0 ≤ c ∧ c ≤ 255 := by
  intro c hc
  obtain ⟨j, hj, rfl⟩ := List.getElem_of_mem hc
  simpa [hj] using h j

theorem getZ_bd (zs : List Int) (p : Int) (h : ∀ j : Nat, 0 ≤ zs[j]?.getD 0 ∧ zs[j]?.getD 0 ≤ 255) :
    0 ≤ (getZ zs p).1 ∧ (getZ zs p).1 < 18446744073709551616 ∧ 0 ≤ (getZ zs p).2.1 ∧ (getZ zs p).2.1 ≤ zs.length ∧ 0 ≤ (getZ zs p).2.2 ∧ (getZ zs p).2.2 ≤ 4 ∧ ((getZ zs p).2.2 ≠ 0 → (getZ zs p).1 = 0) := by
  unfold getZ
  split
  · simp
  · have d := dec_bd (zs.drop p.toNat) 0 0 (by omega) (by simp) (fun c hc => mem_bd h c (List.mem_of_mem_drop hc))
    have hl : (zs.drop p.toNat).length = zs.length - p.toNat := List.length_drop
    dsimp only
    omega

theorem get_any (a : Option Addr) (len cap : Nat) (zs : List Int) (p : Int) (w : World) (h : IsBytes w a len cap zs) :
    Calls Try.prog 48 #[.slice a len cap, .int .i64 p] w fun e w' => e = .returned (.tuple #[.int .u64 (getZ zs p).1, .int .i64 (getZ zs p).2.1, .int .i64 (getZ zs p).2.2]) ∧ w' = w := by
  obtain ⟨hl, hcap, hmax, hn, hb, hc⟩ := h
  unfold getZ
  by_cases ho : p < 0 ∨ (zs.length : Int) < p
  · rw [if_pos ho]
    exact get_out a len cap p w (by omega) (by rw [hl] at ho; exact ho)
  · rw [if_neg ho]
    obtain ⟨q, rfl⟩ := Int.eq_ofNat_of_zero_le (a := p) (by omega)
    rw [Int.toNat_natCast]
    by_cases hq : q = len
    · subst hq
      rw [List.drop_eq_nil_of_le (by omega)]
      refine (get_end a q cap w hcap hmax hn).mono ?_
      rintro e w' ⟨rfl, rfl⟩
      exact ⟨tup3 rfl (by simp [dec]) rfl, rfl⟩
    · obtain ⟨b, off, rfl, hcell⟩ := hc (by omega)
      have g := get_row b off len cap zs q w (by omega) hcap hmax (by omega) hcell hb
      rw [List.take_of_length_le (by omega)] at g
      refine g.mono ?_
      rintro e w' ⟨rfl, rfl⟩
      exact ⟨tup3 rfl (Int.natCast_add q _) rfl, rfl⟩

end Go.Proofs.Ytjnkplmcopihbaa
