/- Texts that the last one stands on. -/
import Derived.Test.YtkfpgkohkhhlhaaGreatDoorGSchBase
set_option maxHeartbeats 1000000
namespace Go.Proofs.YtkfpgkohkhhlhaaGreatDoor
open Go.RowKit
theorem find_some (a:Option Addr) (n cap i:Nat) (Nm:Nat→ByteArray) (V:Nat→Value) (s:ByteArray) (w:World) (H:Row2 w a n Nm V) (hn:n ≤ 9223372036854775807) (hi:i < n) (he:Nm i = s) (hl:∀ j,j < i→¬ Nm j = s) :
 Calls Tryz.prog 151 #[.slice a n cap,.string s] w (RV (.tuple #[.int .i64 i,.bool true]) w):=by
 have hB0:Below w.heap.size w (w.alloc (.cells #[.string s] 9)):=nwB _ _
 have H1:=H.later hB0
 have hp:(w.alloc (.cells #[.string s] 9)).cell? ⟨w.heap.size,0,none⟩ = some (.string s):=by rw [World.cell?_alloc_at _ _ _ _ rfl];rfl
 have C:Hid (Calls Tryz.prog 180 _ (w.alloc (.cells #[.string s] 9)) _):=indexS_some a n cap i w.heap.size Nm V s _ H1 hn hp hi he hl
 clear hn hp hi he hl H H1
 go_enter Tryz.func151,Tryz.ntmps151
 go_wp2_with (first | (go_at_call 180;refine C.out.mono ?_;rintro e w1 ⟨rfl,hB1⟩))
 exact bodyPost_ret (v:=.tuple #[.int .i64 i,.bool true]) (by simp [results,Tryz.results151,go_sem]) rfl ⟨rfl,hB0.trans (hB1.mono hB0.size)⟩
theorem find_none (a:Option Addr) (n cap:Nat) (Nm:Nat→ByteArray) (V:Nat→Value) (s:ByteArray) (w:World) (H:Row2 w a n Nm V) (hn:n ≤ 9223372036854775807) (hl:∀ j,j < n→¬ Nm j = s) :
 Calls Tryz.prog 151 #[.slice a n cap,.string s] w (RV (.tuple #[.int .i64 0,.bool false]) w):=by
 have hB0:Below w.heap.size w (w.alloc (.cells #[.string s] 9)):=nwB _ _
 have H1:=H.later hB0
 have hp:(w.alloc (.cells #[.string s] 9)).cell? ⟨w.heap.size,0,none⟩ = some (.string s):=by rw [World.cell?_alloc_at _ _ _ _ rfl];rfl
 have C:Hid (Calls Tryz.prog 180 _ (w.alloc (.cells #[.string s] 9)) _):=indexS_none a n cap w.heap.size Nm V s _ H1 hn hp hl
 clear hn hp hl H H1
 go_enter Tryz.func151,Tryz.ntmps151
 go_wp2_with (first | (go_at_call 180;refine C.out.mono ?_;rintro e w1 ⟨rfl,hB1⟩))
 exact bodyPost_ret (v:=.tuple #[.int .i64 0,.bool false]) (by simp [results,Tryz.results151,go_sem]) rfl ⟨rfl,hB0.trans (hB1.mono hB0.size)⟩
theorem field_some (S:ByteArray) (a:Option Addr) (n cap i:Nat) (Nm:Nat→ByteArray) (K:Nat→Int) (s:ByteArray) (w:World) (H:Flds w a n Nm K) (hn:n ≤ 9223372036854775807) (hi:i < n) (he:Nm i = s) (hl:∀ j,j < i→¬ Nm j = s) :
 Calls Tryz.prog 212 #[schV S (.slice a n cap),.string s] w (RV (.tuple #[.int .i64 i,.int .i64 (K i),.bool true]) w):=by
 have hB0:Below w.heap.size w ((w.alloc (schO S (.slice a n cap))).alloc (.cells #[.string s] 9)):=(nwB _ _).alloc (by simp) _
 have H1:=H.later hB0
 have hp:((w.alloc (schO S (.slice a n cap))).alloc (.cells #[.string s] 9)).cell? ⟨w.heap.size + 1,0,none⟩ = some (.string s):=by rw [World.cell?_alloc_at _ _ _ _ (by simp)];rfl
 have C:Hid (Calls Tryz.prog 218 _ ((w.alloc (schO S (.slice a n cap))).alloc (.cells #[.string s] 9)) _):=indexF_some a n cap i (w.heap.size + 1) Nm K s _ H1 hn hp hi he hl
 have HX:Hid (((w.alloc (schO S (.slice a n cap))).alloc (.cells #[.string s] 9)).cell? ⟨w.heap.size,1,none⟩ = some (.slice a n cap)):=by
  show ((w.alloc (schO S (.slice a n cap))).alloc (.cells #[.string s] 9)).cell? ⟨w.heap.size,1,none⟩ = some (.slice a n cap)
  rw [World.cell?_alloc_past _ _ _ (by simp),World.cell?_alloc_at _ _ _ _ rfl];rfl
 have HR:=hid H1
 clear hp he hl H H1
 go_enter Tryz.func212,Tryz.ntmps212
 go_upto_region 2 with (first | (go_at_call 218;refine C.out.mono ?_;rintro e w1 ⟨rfl,hB1⟩))
 have f1:=cell_later HX.out hB1
 obtain ⟨b,off,rfl,hc⟩:=(HR.out.later hB1) (by omega)
 have f2:=(hc i hi).1.2
 clear hc C HX HR
 go_wp2_with fail
 go_quiet (fail)
 go_wp2
 exact bodyPost_ret (v:=.tuple #[.int .i64 i,.int .i64 (K i),.bool true]) (by simp [results,Tryz.results212,go_sem]) rfl ⟨rfl,bd (bt hB0 hB1) _⟩
theorem field_none (S:ByteArray) (a:Option Addr) (n cap:Nat) (Nm:Nat→ByteArray) (K:Nat→Int) (s:ByteArray) (w:World) (H:Flds w a n Nm K) (hn:n ≤ 9223372036854775807) (hl:∀ j,j < n→¬ Nm j = s) :
 Calls Tryz.prog 212 #[schV S (.slice a n cap),.string s] w (RV (.tuple #[.int .i64 0,.int .i64 0,.bool false]) w):=by
 have hB0:Below w.heap.size w ((w.alloc (schO S (.slice a n cap))).alloc (.cells #[.string s] 9)):=(nwB _ _).alloc (by simp) _
 have H1:=H.later hB0
 have hp:((w.alloc (schO S (.slice a n cap))).alloc (.cells #[.string s] 9)).cell? ⟨w.heap.size + 1,0,none⟩ = some (.string s):=by rw [World.cell?_alloc_at _ _ _ _ (by simp)];rfl
 have C:Hid (Calls Tryz.prog 218 _ ((w.alloc (schO S (.slice a n cap))).alloc (.cells #[.string s] 9)) _):=indexF_none a n cap (w.heap.size + 1) Nm K s _ H1 hn hp hl
 clear hn hp hl H H1
 go_enter Tryz.func212,Tryz.ntmps212
 go_wp2_with (first | (go_at_call 218;refine C.out.mono ?_;rintro e w1 ⟨rfl,hB1⟩))
 exact bodyPost_ret (v:=.tuple #[.int .i64 0,.int .i64 0,.bool false]) (by simp [results,Tryz.results212,go_sem]) rfl ⟨rfl,hB0.trans (hB1.mono hB0.size)⟩
end Go.Proofs.YtkfpgkohkhhlhaaGreatDoor
