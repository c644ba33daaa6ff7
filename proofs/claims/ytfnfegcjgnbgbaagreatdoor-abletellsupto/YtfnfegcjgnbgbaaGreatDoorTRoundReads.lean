/-
  A region that draws its order, inside a round: reads in any order, and one write behind them all. Told by the temporaries as they stand behind all reads. Of no function.
  How many names there are; of no function.
-/
import Derived.Test.YtfnfegcjgnbgbaaGreatDoorTExprMath
import Derived.Test.YtfnfegcjgnbgbaaGreatDoorTValOrder
import Derived.Test.YtfnfegcjgnbgbaaGreatDoorTTrees
import Derived.Test.YtfnfegcjgnbgbaaGreatDoorRows
import Derived.WalkKit
import Derived.OrdersIn
import Derived.TacticsIn
namespace Go.Proofs.YtfnfegcjgnbgbaaGreatDoor
open Go.RowKit

/-- No call but of len, no defer, no select, and no guard. -/
def plainB (o : Oper) : Bool := o.guard.isNone && (match o.op with | .call c => (match c.callee with | .builtin .len => true | _ => false) | .defer _ => false | .select _ _ => false | _ => true)
/-- Each reads what another writes behind it alone. -/
def seesB (ops : List Oper) (o : Oper) : Bool :=
  o.op.operands.toList.all fun x => match x with
    | .tmp t => (List.range ops.length).all fun k => match ops[k]? with
      | some o' => !decide (o'.dst = some t) || o.after.toList.any fun e => Region.binds .any e && decide (e.on = k)
      | none => true
    | _ => true
/-- What is asked of such a region: plain operations, edges that lead back, the last one behind all. -/
def readsB (ops : List Oper) (last : Nat) : Bool :=
  (List.range ops.length).all fun j => match ops[j]? with
    | none => true
    | some o => plainB o && seesB ops o && (o.after.toList.all fun e => decide (e.on < j)) &&
        (if j = last then o.dst.isNone && (List.range ops.length).all fun k => decide (k = last) || o.after.toList.any fun e => Region.binds .any e && decide (e.on = k) else o.dst.isSome)
/-- Each read's value is what stands at its temporary. -/
def Reads (P : Program) (full : Array Value) (w : World) : List Oper → Prop
  | [] => True
  | o :: l => (∃ d v, o.dst = some d ∧ full[d]? = some v ∧ (execOp (Act.mk full []).eval o).run P w = .ok (.value v) w) ∧ Reads P full w l
theorem reads_at {P : Program} {full : Array Value} {w : World} : ∀ {l : List Oper} {j : Nat} {o : Oper}, Reads P full w l → l[j]? = some o → ∃ d v, o.dst = some d ∧ full[d]? = some v ∧ (execOp (Act.mk full []).eval o).run P w = .ok (.value v) w
  | [], j, o, _, h => by simp at h
  | x :: l, 0, o, hr, h => by cases h; exact hr.1
  | x :: l, j + 1, o, hr, h => reads_at hr.2 (by simpa using h)
theorem plain_about {o : Oper} (h : plainB o = true) (P : Program) (w : World) (ρ : Operand → Value) : o.about P w ρ = none := by
  unfold plainB at h
  unfold Oper.about
  cases ho : o.op with
  | call c =>
    simp only [ho, Bool.and_eq_true] at h
    obtain ⟨_, h⟩ := h
    cases hc : c.callee with
    | builtin b => simp [resolve, hc, Target.leads]
    | _ => rw [hc] at h; cases h
  | _ => rfl
theorem plain_defer {o : Oper} (h : plainB o = true) (c : Call) : o.op ≠ .defer c := fun e => by simp [plainB, e] at h
theorem plain_select {o : Oper} (h : plainB o = true) (cs : Array SelectCase) (b : Bool) : o.op ≠ .select cs b := fun e => by simp [plainB, e] at h
theorem plain_guard {o : Oper} (h : plainB o = true) : o.guard = none := by
  simp only [plainB, Bool.and_eq_true, Option.isNone_iff_eq_none] at h
  exact h.1

section
variable {F : Fence} {n : Nat} {P : Program} {l : List Oper} {Q : Exit → Act → World → Prop} {w w1 : World} {full : Array Value} {ds : List Deferred} {last : Nat} {ol : Oper}
theorem readsB_at (h : readsB l last = true) {j : Nat} {o : Oper} (ho : l[j]? = some o) : plainB o = true ∧ seesB l o = true ∧ (∀ e ∈ o.after, e.on < j) ∧
    (j = last → o.dst = none ∧ ∀ k, k < l.length → k ≠ last → ∃ e ∈ o.after, Region.binds .any e = true ∧ e.on = k) := by
  have hj : j < l.length := (List.getElem?_eq_some_iff.1 ho).1
  have := List.all_eq_true.1 h j (List.mem_range.2 hj)
  simp only [ho, Bool.and_eq_true] at this
  obtain ⟨⟨⟨h1, h2⟩, h3⟩, h4⟩ := this
  refine ⟨h1, h2, fun e he => by simpa using List.all_eq_true.1 h3 e (by simpa using he), fun e => ?_⟩
  rw [if_pos e] at h4
  simp only [Bool.and_eq_true, Option.isNone_iff_eq_none] at h4
  refine ⟨h4.1, fun k hk hne => ?_⟩
  have h5 := List.all_eq_true.1 h4.2 k (List.mem_range.2 hk)
  simp only [Bool.or_eq_true, decide_eq_true_eq, hne, false_or, List.any_eq_true, Bool.and_eq_true] at h5
  obtain ⟨e, he, h6, h7⟩ := h5
  exact ⟨e, by simpa using he, h6, h7⟩
/-- How far the reads have come. -/
def Come (l : List Oper) (full : Array Value) (ds : List Deferred) (last : Nat) (listed : Array Bool) (a : Act) : Prop :=
  listed.size = l.length ∧ listed.getD last true = false ∧ (a.tmps.size = full.size ∧ a.defers = ds) ∧ ∀ t, (∀ k o, l[k]? = some o → o.dst = some t → listed.getD k false = true) → a.tmps.getD t undef = full.getD t undef
theorem come_eval {listed : Array Bool} {a : Act} (hc : Come l full ds last listed a) {o : Oper} (hp : plainB o = true) (hs : seesB l o = true) (hd : ∀ e ∈ o.after, Region.binds .any e = true → listed.getD e.on false = true) : execOp a.eval o = execOp (Act.mk full []).eval o := by
  refine execOp_congr o (plain_select hp) fun x hx => ?_
  cases x with
  | tmp t =>
    show a.tmps.getD t undef = full.getD t undef
    refine hc.2.2.2 t fun k o' hk ht => ?_
    have h1 := List.all_eq_true.1 hs (.tmp t) (by simpa using hx)
    have h2 := List.all_eq_true.1 h1 k (List.mem_range.2 (List.getElem?_eq_some_iff.1 hk).1)
    simp only [hk, ht, decide_true, Bool.not_true, Bool.false_or, List.any_eq_true, Bool.and_eq_true, decide_eq_true_eq] at h2
    obtain ⟨e, he, h3, rfl⟩ := h2
    exact hd e (by simpa using he) h3
  | const v => rfl
  | global g => rfl
  | func f => rfl
theorem some_ready (hB : readsB l last = true) {listed : Array Bool} (hs : listed.size = l.length) : ∀ j, j < l.length → listed.getD j true = false → ∃ i, i ∈ Region.ready .any l.toArray listed := by
  intro j
  induction j using Nat.strongRecOn with
  | ind j ih =>
    intro hj hun
    obtain ⟨o, ho⟩ : ∃ o, l[j]? = some o := ⟨_, List.getElem?_eq_getElem hj⟩
    obtain ⟨_, _, hback, _⟩ := readsB_at hB ho
    by_cases hall : ∀ e ∈ o.after, Region.binds .any e = true → listed.getD e.on false = true
    · exact ⟨j, mem_ready.2 ⟨hun, o, by simpa using ho, hall⟩⟩
    · simp only [Classical.not_forall] at hall
      obtain ⟨e, he, hb, hne⟩ := hall
      refine ih e.on (hback e he) (by have := hback e he; omega) ?_
      have hlt : e.on < listed.size := by have := hback e he; omega
      simp only [Array.getD_eq_getD_getElem?, Array.getElem?_eq_getElem hlt, Option.getD_some] at hne ⊢
      simpa using hne
theorem wpAnyIn_reads (hB : readsB l last = true) (hl : l[last]? = some ol) (hR : Reads P full w (l.take last)) (hlen : l.length = last + 1) (hw : (execOp (Act.mk full []).eval ol).run P w = .ok .skip w1) (hQ : Q .normal (Act.mk full ds) w1) :
    ∀ (fuel : Nat) (listed : Array Bool) (a : Act), listed.toList.count false ≤ fuel → Come l full ds last listed a → wpAnyIn F n P .any l.toArray Q fuel listed a w := by
  have hlast : last < l.length := (List.getElem?_eq_some_iff.1 hl).1
  intro fuel
  induction fuel with
  | zero =>
    intro listed a hf hc
    have hlt : last < listed.size := by rw [hc.1]; exact hlast
    have h1 := hc.2.1
    simp only [Array.getD_eq_getD_getElem?, Array.getElem?_eq_getElem hlt, Option.getD_some] at h1
    have : 0 < listed.toList.count false := List.count_pos_iff.2 (by rw [← h1]; simp)
    omega
  | succ fuel ih =>
    intro listed a hf hc
    refine ⟨fun h => ?_, fun i hi => ?_⟩
    · obtain ⟨i, hi⟩ := some_ready hB hc.1 last hlast hc.2.1
      rw [h] at hi
      cases hi
    · obtain ⟨hun, o, ho, hd⟩ := mem_ready.1 hi
      have ho' : l[i]? = some o := by simpa using ho
      have hil : i < l.length := (List.getElem?_eq_some_iff.1 ho').1
      have hilt : i < listed.size := by rw [hc.1]; exact hil
      obtain ⟨hp, hs, hback, hend⟩ := readsB_at hB ho'
      have he := come_eval hc hp hs hd
      have hcnt : (listed.setIfInBounds i true).toList.count false ≤ fuel := by
        have h1 := hun
        simp only [Array.getD_eq_getD_getElem?, Array.getElem?_eq_getElem hilt, Option.getD_some] at h1
        have h2 : listed.toList[i]'(by simpa using hilt) = false := by simpa using h1
        have h3 : (listed.setIfInBounds i true).toList.count false = listed.toList.count false - 1 := by
          rw [Array.toList_setIfInBounds, List.count_set (by simpa using hilt), h2]
          rfl
        omega
      unfold wpOpIn
      rw [ho]
      simp only [Region.wanted, plain_guard hp, if_true]
      unfold Oper.wpIn
      refine ⟨fun f hf => (by rw [plain_about hp] at hf; cases hf), ?_⟩
      rw [Oper.semAt_eq _ _ _ (plain_defer hp), he]
      by_cases hil' : i = last
      · subst hil'
        obtain rfl : o = ol := Option.some.inj (ho'.symm.trans hl)
        obtain ⟨hdst, hal⟩ := hend rfl
        rw [hw]
        show wpAnyIn F n P .any l.toArray Q fuel (listed.setIfInBounds i true) (a.put o.dst undef) w1
        have hfull : a.put o.dst undef = Act.mk full ds := by
          rw [hdst]
          have e1 : a.tmps = full := by
            refine Array.ext hc.2.2.1.1 fun t h1 h2 => ?_
            have h3 := hc.2.2.2 t fun k o' hk hkt => by
              by_cases hki : k = i
              · subst hki
                rw [ho'] at hk
                cases hk
                rw [hdst] at hkt
                cases hkt
              · obtain ⟨e, he1, he2, rfl⟩ := hal k (List.getElem?_eq_some_iff.1 hk).1 hki
                exact hd e he1 he2
            rw [Array.getD_eq_getD_getElem?, Array.getD_eq_getD_getElem?, Array.getElem?_eq_getElem h1, Array.getElem?_eq_getElem h2] at h3
            exact h3
          show a = _
          cases a
          simp only at e1
          have e2 := hc.2.2.1.2
          simp only at e2
          rw [e1, e2]
        rw [hfull]
        refine wpAnyIn_done ?_ hQ fuel
        refine List.eq_nil_iff_forall_not_mem.2 fun j hj => ?_
        obtain ⟨hjun, oj, hoj, _⟩ := mem_ready.1 hj
        have hjl : j < l.length := by have : l[j]? = some oj := by simpa using hoj
                                      exact (List.getElem?_eq_some_iff.1 this).1
        by_cases hji : j = i
        · subst hji
          simp [Array.getD_eq_getD_getElem?, hilt] at hjun
        · obtain ⟨e, he1, he2, rfl⟩ := hal j hjl hji
          have h1 := hd e he1 he2
          have hjlt : e.on < listed.size := by rw [hc.1]; exact hjl
          rw [Array.getD_eq_getD_getElem?, Array.getElem?_setIfInBounds_ne (fun q => hji q.symm), Array.getElem?_eq_getElem hjlt] at hjun
          rw [Array.getD_eq_getD_getElem?, Array.getElem?_eq_getElem hjlt] at h1
          simp at h1 hjun
          rw [h1] at hjun
          cases hjun
      · obtain ⟨d, v, hdst, hfd, hrun⟩ := reads_at hR (j := i) (o := o) (by rw [List.getElem?_take_of_lt (by omega)]; exact ho')
        rw [hrun]
        show wpAnyIn F n P .any l.toArray Q fuel (listed.setIfInBounds i true) (a.put o.dst v) w
        refine ih _ _ hcnt ⟨by simp [hc.1], ?_, ?_, fun t ht => ?_⟩
        · have := hc.2.1
          rw [Array.getD_eq_getD_getElem?] at this ⊢
          rw [Array.getElem?_setIfInBounds_ne hil']
          exact this
        · rw [hdst]
          exact ⟨by simp [Act.put, hc.2.2.1.1], hc.2.2.1.2⟩
        · rw [hdst]
          simp only [Act.put]
          have hdl : d < full.size := (Array.getElem?_eq_some_iff.1 hfd).1
          by_cases htd : t = d
          · subst htd
            rw [Array.getD_eq_getD_getElem?, Array.getD_eq_getD_getElem?, hfd, Array.getElem?_setIfInBounds_self_of_lt (by rw [hc.2.2.1.1]; exact hdl)]
          · rw [Array.getD_eq_getD_getElem?, Array.getElem?_setIfInBounds_ne (fun q => htd q.symm), ← Array.getD_eq_getD_getElem?]
            refine hc.2.2.2 t fun k o' hk hkt => ?_
            have h1 := ht k o' hk hkt
            have hki : k ≠ i := fun q => by
              subst q
              rw [ho'] at hk
              cases hk
              rw [hdst] at hkt
              cases hkt
              exact htd rfl
            rw [Array.getD_eq_getD_getElem?, Array.getElem?_setIfInBounds_ne (fun q => hki q.symm), ← Array.getD_eq_getD_getElem?] at h1
            exact h1
/-- Some temporaries written. -/
def puts (ts : Array Value) : List (Tmp × Value) → Array Value
  | [] => ts
  | p :: r => puts (ts.setIfInBounds p.1 p.2) r
theorem puts_size : ∀ (r : List (Tmp × Value)) (ts : Array Value), (puts ts r).size = ts.size
  | [], _ => rfl
  | p :: r, ts => by rw [puts, puts_size r]; simp
theorem puts_other (t : Tmp) : ∀ (r : List (Tmp × Value)) (ts : Array Value), (∀ p ∈ r, p.1 ≠ t) → (puts ts r).getD t undef = ts.getD t undef
  | [], _, _ => rfl
  | p :: r, ts, h => by
    rw [puts, puts_other t r _ fun q hq => h q (List.mem_cons_of_mem _ hq)]
    rw [Array.getD_eq_getD_getElem?, Array.getElem?_setIfInBounds_ne (h p List.mem_cons_self), ← Array.getD_eq_getD_getElem?]
/-- A region of reads, in any order, and one write behind them. vals: what each read puts where. -/
theorem wpIn_region_reads {id : Nat} {a : Act} (last : Nat) (vals : List (Tmp × Value)) (full : Array Value) {ol : Oper} (hm : P.follows .mixedOrders = true) (hB : readsB l last = true) (hl : l[last]? = some ol) (hlen : l.length = last + 1)
    (hd : (vals.all fun p => l.any fun o => decide (o.dst = some p.1)) = true) (hf : puts a.tmps vals = full) (hR : Reads P full w.drew (l.take last)) (hw : (execOp (Act.mk full []).eval ol).run P w.drew = .ok .skip w1) (hQ : Q .normal (Act.mk full a.defers) w1) :
    (Code.region id l.toArray true).wpIn F n P Q a w := by
  subst hf
  refine wpIn_region_any hm ?_
  refine wpAnyIn_reads (w := w.drew) hB hl hR hlen hw hQ _ _ a ?_ ⟨by simp, by simp [Array.getD_eq_getD_getElem?, hlen], ⟨(puts_size _ _).symm, rfl⟩, fun t ht => (puts_other t vals a.tmps fun p hp e => ?_).symm⟩
  · simp
  · have h1 := List.all_eq_true.1 hd p hp
    obtain ⟨o, ho, h2⟩ := List.any_eq_true.1 h1
    obtain ⟨k, hk, rfl⟩ := List.mem_iff_getElem.1 ho
    have := ht k _ (List.getElem?_eq_getElem hk) (by rw [← e]; simpa using h2)
    simp [Array.getD_eq_getD_getElem?, Array.getElem?_replicate] at this
    split at this <;> cases this
end
end Go.Proofs.YtfnfegcjgnbgbaaGreatDoor
namespace Go.Proofs.YtfnfegcjgnbgbaaGreatDoor
open Go.RowKit

theorem cnt_small : ∀ n : Nat, n ≤ 1048576 → cnt n = n
  | 0, _ => rfl
  | n + 1, h => by
    simp only [cnt]
    rw [cnt_small n (by omega), wrap64]
    omega
end Go.Proofs.YtfnfegcjgnbgbaaGreatDoor
