/-
  The bytes that a wire.Writer or a wire.Reader holds: how they lie in memory ('Hd'), what of memory a call turns ('Touch'), and what their calls and bytes.Clone answer.
-/
import Derived.Test.YtjnkplmcopihbaaMade
namespace Go.Proofs.Ytjnkplmcopihbaa
open Go.RowKit

/-- The bytes l that are held: block h holds the slice v of them, which the call owns. -/
structure Hd (w : World) (B h : Nat) (v : Value) (l : List Int) : Prop where
  hld : w.heap[h]? = some (.cells #[v] 72 (0, 0))
  own : w.ownsRow B 5 1 v l.length (cellsOf l)
  bd : ∀ c ∈ l, 0 ≤ c ∧ c ≤ 255
  low : B ≤ h
theorem Hd.cell {w : World} {B h : Nat} {v : Value} {l : List Int} (H : Hd w B h v l) : w.cell? ⟨h, 0, none⟩ = some v := by simp [World.cell?, H.hld]
theorem Hd.lt {w : World} {B h : Nat} {v : Value} {l : List Int} (H : Hd w B h v l) : h < w.heap.size := (Array.getElem?_eq_some_iff.1 H.hld).1
theorem Hd.bytes {w : World} {B h : Nat} {v : Value} {l : List Int} (H : Hd w B h v l) : ∃ a cap, v = .slice a l.length cap ∧ IsBytes w a l.length cap l := isBytes_own H.own H.bd
/-- What is held is held where other blocks turn. -/
theorem Hd.kept {w w' : World} {B h : Nat} {v : Value} {l : List Int} (H : Hd w B h v l) (hh : w'.heap[h]? = w.heap[h]?) (hg : ∀ k, v.ownBlock = some k → w'.heap[k]? = w.heap[k]?) : Hd w' B h v l := by
  refine ⟨hh.trans H.hld, ⟨H.own.1, ?_⟩, H.bd, H.low⟩
  rcases H.own.2 with hn | ⟨g, cap, cur, rfl, hb, hgg, rest⟩
  · exact .inl hn
  · exact .inr ⟨g, cap, cur, rfl, hb, (hg g rfl).trans hgg, rest⟩
theorem Hd.later {w w' : World} {B h : Nat} {v : Value} {l : List Int} (H : Hd w B h v l) (b : Below w.heap.size w w') : Hd w' B h v l :=
  H.kept (b.block h H.lt) fun k hk => b.block k (H.own.lt k hk).2

set_option maxHeartbeats 400000 in
theorem size_held (h len cap : Nat) (a : Option Addr) (w : World) (hc : w.cell? ⟨h, 0, none⟩ = some (.slice a len cap)) :
    Calls Try.prog 35 #[.pointer (some ⟨h, 0, none⟩)] w fun e w' => e = .returned (.int .i64 (len : Int)) ∧ w' = w := by
  go_enter Try.func35, Try.ntmps35
  go_wp2
  go_ret
  exact ⟨rfl, rfl⟩
set_option maxHeartbeats 400000 in
theorem cut_none (h : Nat) (w : World) (hc : w.cell? ⟨h, 0, none⟩ = some (.slice none 0 0)) :
    Calls Try.prog 34 #[.pointer (some ⟨h, 0, none⟩), .int .i64 0, .int .i64 0] w fun e w' => e = .returned (.slice none 0 0) ∧ w' = w := by
  go_enter Try.func34, Try.ntmps34
  go_wp2
  go_ret
  exact ⟨rfl, rfl⟩
set_option maxHeartbeats 400000 in
theorem cut_same (h b len cap i : Nat) (w : World) (hc : w.cell? ⟨h, 0, none⟩ = some (.slice (some ⟨b, 0, none⟩) len cap)) (hj : i ≤ cap) :
    Calls Try.prog 34 #[.pointer (some ⟨h, 0, none⟩), .int .i64 (i : Int), .int .i64 (i : Int)] w fun e w' => e = .returned (.slice (some ⟨b, 0, none⟩) 0 0) ∧ w' = w := by
  go_enter Try.func34, Try.ntmps34
  go_wp2
  go_ret
  exact ⟨rfl, rfl⟩
set_option maxHeartbeats 400000 in
theorem cut_some (h b len cap i j : Nat) (w : World) (hc : w.cell? ⟨h, 0, none⟩ = some (.slice (some ⟨b, 0, none⟩) len cap)) (hij : i < j) (hj : j ≤ cap) :
    Calls Try.prog 34 #[.pointer (some ⟨h, 0, none⟩), .int .i64 (i : Int), .int .i64 (j : Int)] w fun e w' => e = .returned (.slice (some ⟨b, i, none⟩) (j - i) (j - i)) ∧ w' = w := by
  have hne : ¬ j = i := by omega
  go_enter Try.func34, Try.ntmps34
  go_wp2
  go_ret
  exact ⟨rfl, rfl⟩
/-- The bytes from i to j. -/
theorem cut_any {w : World} {B h : Nat} {v : Value} {l : List Int} (H : Hd w B h v l) (i j : Nat) (hij : i ≤ j) (hj : j ≤ l.length) :
    Calls Try.prog 34 #[.pointer (some ⟨h, 0, none⟩), .int .i64 (i : Int), .int .i64 (j : Int)] w fun e w' => ∃ a, e = .returned (.slice a (j - i) (j - i)) ∧ IsBytes w a (j - i) (j - i) ((l.drop i).take (j - i)) ∧ w' = w := by
  have hc := H.cell
  have hr : ∀ k : Nat, 0 ≤ ((l.drop i).take (j - i))[k]?.getD 0 ∧ ((l.drop i).take (j - i))[k]?.getD 0 ≤ 255 := by
    intro k
    by_cases hk : k < ((l.drop i).take (j - i)).length
    · rw [List.getElem?_eq_getElem hk]
      exact H.bd _ (List.mem_of_mem_drop (List.mem_of_mem_take (List.getElem_mem hk)))
    · rw [List.getElem?_eq_none (by omega)]; simp
  have hlen : ((l.drop i).take (j - i)).length = j - i := by simp; omega
  rcases H.own.2 with ⟨rfl, h0⟩ | ⟨g, cap, cur, rfl, _, hg, hle, hm, hsz, ht⟩
  · obtain rfl : j = 0 := by omega
    obtain rfl : i = 0 := by omega
    refine (cut_none h w hc).mono ?_
    rintro e w' ⟨rfl, rfl⟩
    exact ⟨none, rfl, ⟨hlen, Nat.le_refl _, Nat.zero_le _, fun _ => rfl, hr, fun h => by omega⟩, rfl⟩
  · by_cases e : i = j
    · subst e
      refine (cut_same h g _ cap i w hc (by omega)).mono ?_
      rintro e w' ⟨rfl, rfl⟩
      rw [Nat.sub_self] at hlen hr ⊢
      exact ⟨_, rfl, ⟨hlen, Nat.le_refl _, Nat.zero_le _, (by intro h; cases h), hr, fun h => by omega⟩, rfl⟩
    · refine (cut_some h g _ cap i j w hc (by omega) (by omega)).mono ?_
      rintro e w' ⟨rfl, rfl⟩
      refine ⟨_, rfl, ⟨hlen, Nat.le_refl _, by omega, (by intro h; cases h), hr, fun _ => ⟨g, i, rfl, fun k hk => ?_⟩⟩, rfl⟩
      have hk1 : i + k < l.length := by omega
      have hk2 : cur.toList[i + k]? = some (.int .u8 l[i + k]) := by
        have : (cur.toList.take (l.length * 1))[i + k]? = some (.int .u8 l[i + k]) := by rw [ht]; simp [cellsOf, hk1]
        rw [List.getElem?_take] at this
        split at this
        · exact this
        · cases this
      simp at hk2
      simp [World.cell?, hg, hk2, hk1, List.getElem?_drop, hk]
set_option maxRecDepth 100000 in
set_option maxHeartbeats 400000 in
/-- What is added comes behind. -/
theorem add_any {w : World} {B h : Nat} {v : Value} {l : List Int} (H : Hd w B h v l) (hB : B ≤ w.heap.size) (a : Option Addr) (m c : Nat) (ys : List Int) (s : ByteArray) (hy : IsBytes w a m c ys) (hs : l.length + m + s.size ≤ 140737488355328) :
    Calls Try.prog 45 #[.pointer (some ⟨h, 0, none⟩), .slice a m c, .string s] w fun e w' =>
      e = .returned (.tuple #[]) ∧ ∃ v', Hd w' B h v' (l ++ ys ++ bytesS s) ∧ Touch h v.ownBlock w w' ∧ Moved w v v' := by
  obtain ⟨v1, w1, hrun1, hown1, hg1, hm1⟩ := append_to H.own hy hB (by omega)
  obtain ⟨v2, w2, hrun2, hown2, hg2, hm2⟩ := append_text s hown1 (Nat.le_trans hB hg1.size) hs
  obtain ⟨a2, c2, rfl⟩ := own_slice hown2
  have hc := H.cell
  have hv := own_apart H.own H.hld (by decide)
  have h1 : w1.heap[h]? = some (.cells #[v] 72 (0, 0)) := by rw [hg1.block h H.lt (fun e => hv e.symm)]; exact H.hld
  have hv1 := own_apart hown1 h1 (by decide)
  have h2 : w2.heap[h]? = some (.cells #[v] 72 (0, 0)) := by rw [hg2.block h (Array.getElem?_eq_some_iff.1 h1).1 (fun e => hv1 e.symm)]; exact h1
  have hv2 := own_apart hown2 h2 (by decide)
  have hc2 : w2.cell? ⟨h, 0, none⟩ = some v := by simp [World.cell?, h2]
  have hf2 : w2.frozen? ⟨h, 0, none⟩ = false := by simp [World.frozen?, h2]
  have hl1 := hy.1
  have hbd := mem_bd hy.2.2.2.2.1
  have G1 : Hid (w.grownBy w1 v.ownBlock) := hg1
  have G2 : Hid (w1.grownBy w2 v1.ownBlock) := hg2
  have O2 : Hid (w2.ownsRow B 5 1 (.slice a2 (l.length + m + s.size) c2) (l.length + m + s.size) (cellsOf (l ++ ys ++ bytesS s))) := hown2
  have R1 : Hid (_ = _) := hrun1
  have R2 : Hid (_ = _) := hrun2
  have HH : Hid (Hd w B h v l) := H
  clear hg1 hg2 hown1 hown2 hrun1 hrun2 H hy h1
  go_enter Try.func45, Try.ntmps45
  go_wp2_with (first
    | (at_builtin; refine wpList_append_run rfl (.tmp 10) (.tmp 11) 53 rfl _ _ _ rfl rfl R1.out ?_)
    | (at_builtin; refine wpList_append_run2 rfl (.tmp 12) (.tmp 13) 53 9 rfl _ _ _ rfl rfl R2.out ?_))
  refine bodyPost_end (results_none rfl _ _ _) rfl ?_
  have hb1 := G1.out
  have hb2 := G2.out
  have hsz : w2.heap.size = (w2.setCell ⟨h, 0, none⟩ (.slice a2 (l.length + m + s.size) c2)).heap.size := by simp [World.setCell]
  have hg3 : w2.grownBy (w2.setCell ⟨h, 0, none⟩ (.slice a2 (l.length + m + s.size) c2)) (some h) := ⟨rfl, rfl, rfl, by omega, fun k hk hne => Below.heap_setCell _ _ _ _ (fun e => hne (by rw [e]))⟩
  have hlen : (l ++ ys ++ bytesS s).length = l.length + m + s.size := by rw [List.length_append, List.length_append, hl1, bytesS_length]
  have hmv : Moved w v (.slice a2 (l.length + m + s.size) c2) := by
    rcases hm2 with e | e
    · rcases hm1 with e1 | e1
      · exact .inl (e.trans e1)
      · exact .inr fun k hk => e1 k (e ▸ hk)
    · exact .inr fun k hk => Nat.le_trans hb1.size (e k hk)
  refine ⟨rfl, .slice a2 (l.length + m + s.size) c2, ⟨?_, ?_, ?_, HH.out.low⟩, ⟨hb2.os.trans hb1.os, hb2.tape.trans hb1.tape, hb2.output.trans hb1.output, by rw [← hsz]; exact Nat.le_trans hb1.size hb2.size, fun k hk hkh hkr => ?_⟩, hmv⟩
  · simp [World.setCell, Array.getElem?_modify, h2]
  · rw [hlen]
    exact O2.out.kept hg3 (.inr hv2)
  · intro x hx
    rcases List.mem_append.1 hx with hx | hx
    · rcases List.mem_append.1 hx with hx | hx
      · exact HH.out.bd x hx
      · exact hbd x hx
    · exact bytesS_bd s x hx
  · rw [hg3.block k (Nat.lt_of_lt_of_le hk (Nat.le_trans hb1.size hb2.size)) (by simpa using hkh), hb2.block k (Nat.lt_of_lt_of_le hk hb1.size) ?_, hb1.block k hk hkr]
    rcases hm1 with e1 | e1
    · rw [e1]; exact hkr
    · intro e
      have := e1 k e.symm
      omega
end Go.Proofs.Ytjnkplmcopihbaa
