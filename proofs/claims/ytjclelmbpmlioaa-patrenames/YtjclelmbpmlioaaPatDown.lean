/-
  The closure of expr.nodes that goes down (nodes$1$1), for whatever is done at the nodes.
-/
import Derived.Test.YtjclelmbpmlioaaPatBase
import Derived.Test.YtjclelmbpmlioaaTrees
import Derived.RangeFuncNested
import Derived.RangeFuncBound
import Derived.RangeFuncCalls
import Derived.RangeFuncLeaves
import Derived.RangeFuncBox
import Derived.Shelf.Abstract
import Derived.Shelf.RegionOpen
import Derived.WalkKit
import Derived.OwnWalkIn
import Derived.TacticsInMore
import Derived.LoopNIn
import Derived.LoopIn
namespace Go.Proofs.Ytjclelmbpmlioaa
open Go.RowKit Go.Shelf
attribute [local go_sem] Oper.semAt_some

/-- The closure that goes down, as a value. -/
abbrev downPV (By Bd : Nat) : Value := .func (.func 45) #[] #[.pointer (some ⟨By, 0, none⟩), .pointer (some ⟨Bd, 0, none⟩)]

set_option maxRecDepth 100000 in
set_option maxHeartbeats 4000000 in
theorem downP_any {ι : Type} (l By Bd : Nat) (kids : ι → Nat) (kid : ι → Nat → ι) (rank : ι → Nat)
    (Pre : ι → Nat → Nat → Int → World → Prop) (Mid : ι → Nat → Nat → Int → World → Option Addr → Nat → Nat → World → Prop) (Post Stop : ι → Nat → Nat → Int → World → World → Prop)
    (hrank : ∀ v i, i < kids v → rank (kid v i) < rank v)
    (hP : ∀ v b o d W, Pre v b o d W → W.cell? ⟨By, 0, none⟩ = some (.func (.yield l) #[] #[]))
    (hY : ∀ v b o d W, Pre v b o d W → YieldAt Fence.wide 0 Try.prog l #[.int .i64 d, .pointer (some ⟨b, o, none⟩)] W fun e W' =>
      (e = .returned (.bool true) ∧ ∃ a cap, Mid v b o d W a cap 0 W') ∨ (e = .returned (.bool false) ∧ Stop v b o d W W'))
    (hL : ∀ v b o d W a cap i Wi, Mid v b o d W a cap i Wi → kids v ≤ 9223372036854775807 ∧ Wi.cell? ⟨b, o + 5, none⟩ = some (.slice a (kids v) cap) ∧ Wi.cell? ⟨Bd, 0, none⟩ = some (downPV By Bd))
    (hC : ∀ v b o d W a cap i Wi, Mid v b o d W a cap i Wi → i < kids v → ∃ b' o', a = some ⟨b', o', none⟩ ∧ Pre (kid v i) b' (o' + i * 6) (IntKind.i64.wrap (d + 1)) Wi.drew ∧
      (∀ W', Post (kid v i) b' (o' + i * 6) (IntKind.i64.wrap (d + 1)) Wi.drew W' → Mid v b o d W a cap (i + 1) W') ∧ (∀ W', Stop (kid v i) b' (o' + i * 6) (IntKind.i64.wrap (d + 1)) Wi.drew W' → Stop v b o d W W'))
    (hE : ∀ v b o d W a cap Wi, Mid v b o d W a cap (kids v) Wi → Post v b o d W Wi) :
    ∀ (r : Nat) (v : ι), rank v < r → ∀ (n b o : Nat) (d : Int) (W : World), Pre v b o d W →
      CallsIn Fence.wide n Try.prog 45 #[.int .i64 d, .pointer (some ⟨b, o, none⟩), .pointer (some ⟨By, 0, none⟩), .pointer (some ⟨Bd, 0, none⟩)] W fun e W' =>
        (e = .returned (.bool true) ∧ Post v b o d W W') ∨ (e = .returned (.bool false) ∧ Stop v b o d W W') := by
  intro r
  induction r with
  | zero => intro v h; omega
  | succ r ih =>
    intro v hv n b o d W hpre
    have hdd : ∀ k : Nat, (Fence.wide.depth.isSome = true → 1 ≤ k) := fun k h => by cases h
    have hby := hP v b o d W hpre
    obtain ⟨fn, tmps, assign, body, hy, hR⟩ := yield_wide (n - 1) (hY v b o d W hpre)
    refine callsIn_of_wp Try.func45 rfl trivial ?_ rfl
    simp only [Try.ntmps45, List.size_toArray, List.length_cons, List.length_nil, Nat.reduceAdd, Nat.reduceSub, Array.replicate_succ, Array.replicate_zero, List.push_toArray, List.append_toArray, List.nil_append, List.cons_append]
    gi_wp2_with (first
      | ((try refine ⟨hdd _, ?_⟩); refine hR.mono ?_; clear hR; rintro e W1 (⟨rfl, a, cap, hm⟩ | ⟨rfl, hs⟩); (try (obtain ⟨hn0, hc6, hcd⟩ := hL v b o d W a cap 0 W1 hm))))
    · obtain ⟨hn1, -⟩ := hL v b o d W a cap 0 W1 hm
      gi_loopw [18] (fun u wr => ∃ i : Nat, i ≤ kids v ∧ u = .int .i64 i ∧ Mid v b o d W a cap i wr) (fun u _ => kids v - (intOf u).toNat)
      case atStart => exact ⟨0, Nat.zero_le _, rfl, hm⟩
      case round =>
        obtain ⟨i, hi, rfl, hmi⟩ := hrel
        obtain ⟨-, hc6i, hcdi⟩ := hL v b o d W a cap i wr hmi
        by_cases hin : i < kids v
        · obtain ⟨b', o', rfl, hp', hpost, hstop⟩ := hC v b o d W a cap i wr hmi hin
          have ihc := (ih (kid v i) (by have := hrank v i hin; omega) (n - 1) b' (o' + i * 6) _ wr.drew hp').mono (R' := fun e W2 => ∃ r, e = .returned (.bool r) ∧ ((r = true ∧ Mid v b o d W (some ⟨b', o', none⟩) cap (i + 1) W2) ∨ (r = false ∧ Stop v b o d W W2)))
            (fun e W2 h => h.elim (fun h => ⟨true, h.1, .inl ⟨rfl, hpost W2 h.2⟩⟩) (fun h => ⟨false, h.1, .inr ⟨rfl, hstop W2 h.2⟩⟩))
          clear ih hpost hstop
          have HQ : Hid (i < kids v) := hin
          gi_wp2
          gi_region_with ((refine ⟨trivial, hdd _, ?_⟩; gi_at_call 45; refine ihc.mono ?_; clear ihc; rintro e W2 ⟨r, rfl, hj⟩))
          all_goals (rcases hj with ⟨rfl, hj⟩ | ⟨rfl, hj⟩)
          all_goals gi_wp2
          all_goals first
            | (go_ret; exact .inr ⟨rfl, hj⟩)
            | exact ⟨⟨i + 1, HQ.out, by simp, hj⟩, by have := HQ.out; simp [intOf]; omega⟩
        · have hin' : i = kids v := by omega
          subst hin'
          gi_wp2
          go_ret
          exact .inl ⟨rfl, hE _ _ _ _ _ _ _ _ hmi⟩
    · gi_wp2
      go_ret
      exact .inr ⟨rfl, hs⟩
end Go.Proofs.Ytjclelmbpmlioaa
