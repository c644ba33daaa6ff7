/-
  Short names for what the scripts say over and over; behind an operation the condition that a region is held under may be made stricter; of no function.
-/
import Derived.Deep.RegionHeld3
import Derived.OrdersIn
import Derived.Below
import Derived.WalkKit
namespace Go.Proofs.YtkfpgkohkhhlhaaGreatDoor
open Go.RowKit
theorem s_put {α:Type} (l:List α) (i:Nat) (a:α):l.toArray.setIfInBounds i a=(l.set i a).toArray:=List.setIfInBounds_toArray ..
theorem s_0 {α:Type} (x y:α) (l:List α):(x :: l).set 0 y=y :: l:=List.set_cons_zero
theorem s_1 {α:Type} (x y:α) (l:List α) (n:Nat):(x :: l).set (n+1) y=x :: l.set n y:=List.set_cons_succ
theorem held_up {P:Program} {md:Region.Mode} {ops:Array Oper} {Q:Exit→Act→World→Prop} {S S':World→Prop} (h:∀ w,S' w→S w) :
 ∀ (fuel:Nat) (listed:Array Bool) (a:Act) (w:World),wpAnyH P md ops Q S' fuel listed a w→wpAnyH P md ops Q S fuel listed a w
 | 0,_,_,_,k=>k
 | fuel+1,_,_,_,k=>⟨k.1,fun i hi=>wpOp_mono (fun a' w' k'=>⟨h w' k'.1,held_up h fuel _ a' w' k'.2⟩) (k.2 i hi)⟩
theorem hid {p:Prop} (h:p):Hid p:=h
abbrev RV (v:Value) (d:World) (e:Ending) (w':World):Prop:=e=.returned v∧Below d.heap.size d w'
theorem nwB (w:World) (o:Obj):Below w.heap.size w (w.alloc o):=(Below.refl _ w).alloc (Nat.le_refl _) _
section
variable {P:Program} {ops:Array Oper} {Q:Exit→Act→World→Prop} {md:Region.Mode} {S:World→Prop} {fuel:Nat} {listed:Array Bool} {a b:Act} {w:World}
theorem tk (i:Nat) {k:Nat} {op:Op} {ty:TypeId} {ps af gd} {v:Value} (h:wpAnyH P md ops Q S fuel (listed.setIfInBounds i true) b w)
 (hi:ops[i]? = some ⟨some k,op,ty,ps,af,gd⟩:=by rfl) (hs:Region.noSelect ops=true:=by kernel_rfl) (hf:Region.free md ops listed i=true:=by kernel_rfl) (hr:(Region.ready md ops listed).contains i=true:=by kernel_rfl)
 (hw:Region.wanted ⟨some k,op,ty,ps,af,gd⟩ (yielded ops a.tmps)=true:=by rfl) (hy:∀ w,S w→(execOp a.eval ⟨some k,op,ty,ps,af,gd⟩).run P w=.ok (.value v) w:=by intro w9 hSw;go_simp;(try with_reducible rfl))
 (hQ:∀ c a w,Q (.panic c) (a.put (some k) v) w→Q (.panic c) a w:=by exact fun _ _ _ h=>h) (hS:S w:=by assumption) (hb:a.put (some k) v=b:=by ((try simp only [Act.put,s_put,s_0,s_1]);rfl)):wpAnyH P md ops Q S (fuel+1) listed a w :=
 wpAnyH_take hi hs hf hr hQ (.inl ⟨hw,hy⟩) hS (hb ▸ h)
theorem tn (i:Nat) {k:Nat} {op:Op} {ty:TypeId} {ps af gd} (h:wpAnyH P md ops Q S fuel (listed.setIfInBounds i true) b w)
 (hi:ops[i]? = some ⟨some k,op,ty,ps,af,gd⟩:=by rfl) (hs:Region.noSelect ops=true:=by kernel_rfl) (hf:Region.free md ops listed i=true:=by kernel_rfl) (hr:(Region.ready md ops listed).contains i=true:=by kernel_rfl)
 (hw:Region.wanted ⟨some k,op,ty,ps,af,gd⟩ (yielded ops a.tmps)=false:=by rfl) (hQ:∀ c a w,Q (.panic c) (a.put (some k) undef) w→Q (.panic c) a w:=by exact fun _ _ _ h=>h) (hS:S w:=by assumption) (hb:a.put (some k) undef=b:=by ((try simp only [Act.put,s_put,s_0,s_1]);rfl)):wpAnyH P md ops Q S (fuel+1) listed a w :=
 wpAnyH_take hi hs hf hr hQ (.inr ⟨hw,rfl⟩) hS (hb ▸ h)
theorem rd (i:Nat) {ds:Option Tmp} {op:Op} {ty:TypeId} {ps af gd}
 (h:∀ K':Act→World→Prop,Shut (∀ a w,S w→(S w→wpAnyH P md ops Q S fuel (listed.setIfInBounds i true) a w)→K' a w)→if Region.wanted ⟨ds,op,ty,ps,af,gd⟩ (yielded ops a.tmps)=true then Oper.wp P ⟨ds,op,ty,ps,af,gd⟩ a w K' Q else K' (a.put ds undef) w)
 (hr:Region.ready md ops listed=[i]:=by kernel_rfl) (hi:ops[i]? = some ⟨ds,op,ty,ps,af,gd⟩:=by rfl):wpAnyH P md ops Q S (fuel+1) listed a w:=wpAnyH_ready hr (by simp) (AllReadyH.cons hi h AllReadyH.nil)
theorem up {A x d:World} {K:Act→World→Prop} (hK:Shut (∀ a w,Below A.heap.size A w→(Below A.heap.size A w→wpAnyH P md ops Q (fun w'=>Below A.heap.size A w') fuel listed a w)→K a w)) (hH:Below A.heap.size A d) (hN:Below d.heap.size d x)
 (h:wpAnyH P md ops Q (fun w'=>Below x.heap.size x w') fuel listed b x) (hb:a=b:=by ((try simp only [Act.put,s_put,s_0,s_1]);rfl)):K a x :=
 have h1:=hH.trans (hN.mono hH.size)
 hK.out _ _ h1 fun _=>held_up (fun _ h'=>h1.trans (h'.mono h1.size)) _ _ _ _ (hb ▸ h)
theorem bg {id:Nat} {W:World} (h:∀ d,Below W.heap.size W d→wpAnyH P .any ops (NoPanic Q) (fun w'=>Below W.heap.size W w') ops.size (Array.replicate ops.size false) a d) (hm:P.follows .mixedOrders=true:=by kernel_rfl):(Code.region id ops true).wp P Q a W :=
 wp_region_noPanic (wp_region_held_drew hm (Below.refl _ _).drew (h _))
theorem dn (h:Q .normal a w) (hr:Region.ready md ops listed=[]:=by kernel_rfl):wpAnyH P md ops (NoPanic Q) S fuel listed a w:=wpAnyH_done hr (NoPanic.normal h) _
end
theorem ri {F:Fence} {n:Nat} {P:Program} {ops:Array Oper} {Q:Exit→Act→World→Prop} {md:Region.Mode} {fuel:Nat} {listed:Array Bool} {a:Act} {w:World} (i:Nat) {o:Oper}
 (h:∀ K':Act→World→Prop,(∀ a w,wpAnyIn F n P md ops Q fuel (listed.setIfInBounds i true) a w→K' a w)→if Region.wanted o (yielded ops a.tmps)=true then Oper.wpIn F n P o a w K' Q else (∀ f,o.about P w a.eval=some f→F.fn f)∧K' (a.put o.dst undef) w)
 (hr:Region.ready md ops listed=[i]:=by kernel_rfl) (hi:ops[i]? = some o:=by rfl):wpAnyIn F n P md ops Q (fuel+1) listed a w:=wpAnyIn_ready hr (by simp) (AllReadyIn.cons hi h AllReadyIn.nil)
end Go.Proofs.YtkfpgkohkhhlhaaGreatDoor
