/- Lirs Ef: Ee Ef Ek Em En1 -/
import Derived.Test.YtkkkkiejnmpdkaaGreatDoorLirsEn
import Derived.Deep.LoopGhost
namespace Go.Proofs.YtkkkkiejnmpdkaaGreatDoor.Lirs
open Go.RowKit
section
variable {D:Nat→Prop} {w w':World} {e b:Nat} {s:Stt}
theorem lay_len (l:List ByteArray) (k:ByteArray):(A.lay l k).length≤l.length+1:=by
 unfold A.lay
 have:=A.length_cut_le l k
 simp
 omega
set_option maxHeartbeats 1000000 in
theorem heat_any (H:AM e b s D w) (hD:∀ k,w.heap.size≤k→D k) (k:ByteArray) (hk:k.size≤1000) (hf:Few 19990 s) :
 Calls Tryz.prog 256 #[.pointer (some ⟨e,0,none⟩),.string k] w fun ee w'=>ee=.returned (.tuple #[])∧AM e b (A.heat s k) D w'∧Keeps D w w':=by
 have h1:=lay_to (s':=⟨A.lay s.t1 k,s.b1,s.t2,s.c⟩) H hD k hk 0 (by omega) (by unfold Few at *;omega) (three (by simp [qs,layAt,A.lay]) (by simp [qs,layAt]) (by simp [qs,layAt])) rfl
 have HD:Hid (∀ k,w.heap.size≤k→D k):=hD
 clear H hD
 go_enter Tryz.func256,Tryz.ntmps256
 go_wp2_with (first
  | (go_at_call 263;refine Calls.mono h1 ?_;clear h1;rintro ee w1 ⟨rfl,a1,k1⟩;have h2:=leave_to (s':=⟨A.lay s.t1 k,A.cut s.b1 k,s.t2,s.c⟩) a1 (fun k h=>HD.out k (Nat.le_trans k1.size h)) k hk 1 (by omega) (three (by simp [qs,cutAt]) (by simp [qs,cutAt]) (by simp [qs,cutAt])) rfl;clear a1)
  | (go_at_call 259;refine Calls.mono h2 ?_;clear h2;rintro ee w2 ⟨rfl,a2,k2⟩;have h3:=leave_to (s':=A.heat s k) a2 (fun k h=>HD.out k (Nat.le_trans (k1.trans k2).size h)) k hk 2 (by omega) (three (by simp [qs,cutAt,A.heat]) (by simp [qs,cutAt,A.heat]) (by simp [qs,cutAt,A.heat])) rfl;clear a2)
  | (go_at_call 259;refine Calls.mono h3 ?_;clear h3;rintro ee w3 ⟨rfl,a3,k3⟩))
 go_end0
 exact ⟨rfl,a3,(k1.trans k2).trans k3⟩
set_option maxHeartbeats 1000000 in
theorem cold_lay (H:AM e b s D w) (hD:∀ k,w.heap.size≤k→D k) (k:ByteArray) (hk:k.size≤1000) (hf:Few 19990 s) :
 Calls Tryz.prog 257 #[.pointer (some ⟨e,0,none⟩),.string k] w fun ee w'=>ee=.returned (.tuple #[])∧AM e b (A.layCold s k) D w'∧Keeps D w w':=by
 have h1:=lay_to (s':=⟨A.lay s.t1 k,s.b1,s.t2,s.c⟩) H hD k hk 0 (by omega) (by unfold Few at *;omega) (three (by simp [qs,layAt,A.lay]) (by simp [qs,layAt]) (by simp [qs,layAt])) rfl
 have HD:Hid (∀ k,w.heap.size≤k→D k):=hD
 have HF:Hid (Few 19999 (⟨A.lay s.t1 k,s.b1,s.t2,s.c⟩:Stt)):=by
  have:=lay_len s.t1 k
  show Few 19999 (⟨A.lay s.t1 k,s.b1,s.t2,s.c⟩:Stt)
  unfold Few at *
  simp only
  omega
 clear H hD hf
 go_enter Tryz.func257,Tryz.ntmps257
 go_wp2_with (first
  | (go_at_call 263;refine Calls.mono h1 ?_;clear h1;rintro ee w1 ⟨rfl,a1,k1⟩;have h2:=lay_to (s':=⟨A.lay s.t1 k,A.lay s.b1 k,s.t2,s.c⟩) a1 (fun k h=>HD.out k (Nat.le_trans k1.size h)) k hk 1 (by omega) HF.out (three (by simp [qs,layAt]) (by simp [qs,layAt,A.lay]) (by simp [qs,layAt])) rfl;clear a1)
  | (go_at_call 263;refine Calls.mono h2 ?_;clear h2;rintro ee w2 ⟨rfl,a2,k2⟩;have h3:=leave_to (s':=A.layCold s k) a2 (fun k h=>HD.out k (Nat.le_trans (k1.trans k2).size h)) k hk 2 (by omega) (three (by simp [qs,cutAt,A.layCold]) (by simp [qs,cutAt,A.layCold]) (by simp [qs,cutAt,A.layCold])) rfl;clear a2)
  | (go_at_call 259;refine Calls.mono h3 ?_;clear h3;rintro ee w3 ⟨rfl,a3,k3⟩))
 go_end0
 exact ⟨rfl,a3,(k1.trans k2).trans k3⟩
set_option maxHeartbeats 1000000 in
theorem drop_any {s':Stt} (H:AM e b s D w) (hD:∀ k,w.heap.size≤k→D k) (k:ByteArray) (hk:k.size≤1000) (hs:s'=⟨A.cut s.t1 k,s.b1,A.cut s.t2 k,s.c⟩) :
 Calls Tryz.prog 267 #[.pointer (some ⟨e,0,none⟩),.string k] w fun ee w'=>ee=.returned (.tuple #[])∧AM e b s' D w'∧Keeps D w w':=by
 subst hs
 have h1:=leave_to (s':=⟨A.cut s.t1 k,s.b1,s.t2,s.c⟩) H hD k hk 0 (by omega) (three (by simp [qs,cutAt]) (by simp [qs,cutAt]) (by simp [qs,cutAt])) rfl
 have HD:Hid (∀ k,w.heap.size≤k→D k):=hD
 clear H hD
 go_enter Tryz.func267,Tryz.ntmps267
 go_wp2_with (first
  | (go_at_call 259;refine Calls.mono h1 ?_;clear h1;rintro ee w1 ⟨rfl,a1,k1⟩;have h2:=leave_to (s':=⟨A.cut s.t1 k,s.b1,A.cut s.t2 k,s.c⟩) a1 (fun k h=>HD.out k (Nat.le_trans k1.size h)) k hk 2 (by omega) (three (by simp [qs,cutAt]) (by simp [qs,cutAt]) (by simp [qs,cutAt])) rfl;clear a1)
  | (go_at_call 259;refine Calls.mono h2 ?_;clear h2;rintro ee w2 ⟨rfl,a2,k2⟩))
 go_end0
 exact ⟨rfl,a2,k1.trans k2⟩
theorem spotA (H:AM e b s D w) (k:ByteArray) (hk:k.size≤1000) :
 ∃ v:Ix.Sp,((v.1=0↔k∉s.t1)∧(v.2.1=0↔k∉s.b1)∧(v.2.2=0↔k∉s.t2))∧Calls Tryz.prog 250 #[.pointer (some ⟨e,0,none⟩),.string k] w fun ee w'=>ee=.returned (Ix.V v)∧Below w.heap.size w w':=spot_any H (by omega) k hk
theorem hot_is {v:Ix.Sp} {k:ByteArray} (h:(v.1=0↔k∉s.t1)∧(v.2.1=0↔k∉s.b1)∧(v.2.2=0↔k∉s.t2)):(decide (v.2.1=0)&&decide (v.2.2=0))=A.isHot s.b1 s.t2 k:=by
 unfold A.isHot
 rw [decide_eq_decide.2 h.2.1,decide_eq_decide.2 h.2.2]
theorem hotA {v:Ix.Sp} {k:ByteArray} {t:Bool} (h:(v.1=0↔k∉s.t1)∧(v.2.1=0↔k∉s.b1)∧(v.2.2=0↔k∉s.t2)) (ht:A.isHot s.b1 s.t2 k=t):∀ W:World,Calls Tryz.prog 251 #[Ix.V v] W fun ee w'=>ee=.returned (.bool t)∧Below W.heap.size W w':=fun W=>by
 have:=hot_any (w:=W) v
 rw [hot_is h,ht] at this
 exact this
end
end Go.Proofs.YtkkkkiejnmpdkaaGreatDoor.Lirs
namespace Go.Proofs.YtkkkkiejnmpdkaaGreatDoor.Lirs
open Go.RowKit
section
variable {D:Nat→Prop} {w w':World} {e b:Nat} {s:Stt}
set_option maxRecDepth 100000 in
set_option maxHeartbeats 2000000 in
theorem prune_any (H:AM e b s D w) (hB:A.Base s) (hD:∀ k,w.heap.size≤k→D k) :
 Calls Tryz.prog 258 #[.pointer (some ⟨e,0,none⟩)] w fun ee w'=>ee=.returned (.tuple #[])∧AM e b (A.prune s) D w'∧Keeps D w w':=by
 have HE:Hid (AM e b s D w):=H
 have HD:Hid (∀ k,w.heap.size≤k→D k):=hD
 have HB:Hid (A.Base s):=hB
 clear H hD hB
 go_enter Tryz.func258,Tryz.ntmps258
 go_wp2_with fail
 go_loopg [] (s.t1.length) (fun n wr=>∃ s':Stt,n=s'.t1.length∧A.Base s'∧A.prune s'=A.prune s∧AM e b s' D wr∧Keeps D w wr)
 case atStart=>exact ⟨s,rfl,HB.out,rfl,HE.out,Keeps.refl _ _⟩
 case round =>
  obtain ⟨s',rfl,hB',hp,hA,hK⟩:=hrel
  have HA:Hid (AM e b s' D wr):=hA
  have HK:Hid (Keeps D w wr):=hK
  have HP:Hid (A.prune s'=A.prune s):=hp
  have HDr:Hid (∀ k,wr.heap.size≤k→D k):=fun k h=>HD.out k (Nat.le_trans hK.size h)
  have hc0:=count0 hA
  cases ht:s'.t1 with
  | nil =>
    rw [ht] at hc0
    have hst:A.prune s'=s':=A.prune_stop (fun k r h=>by rw [ht] at h;cases h)
    have HST:Hid (A.prune s'=s'):=hst
    clear hA hK hp hst ht hB'
    go_wp2_with (go_at_call 253;refine Calls.mono hc0 ?_;clear hc0;rintro ee w1 ⟨rfl,rfl⟩)
    refine ⟨rfl,.tuple #[],results_none rfl _ _ _,rfl,?_,HK.out⟩
    rw [← HP.out,HST.out]
    exact HA.out
  | cons k r =>
    have hk:k.size≤1000:=hA.size (.inl (by rw [ht];simp))
    have f1:=first0 hA ht
    have HF:Hid (∀ w1,Below wr.heap.size wr w1→Calls Tryz.prog 262 #[.pointer (some ⟨e,0,none⟩),.int .i64 0] w1 fun ee w'=>ee=.returned (.string k)∧Below w1.heap.size w1 w'):=fun w1 b1=>first0 (hA.below b1) ht
    obtain ⟨n,hn,hpos⟩:∃ n,n=s'.t1.length∧0<n:=⟨_,rfl,by rw [ht];simp⟩
    rw [← hn] at hc0
    cases hh:A.isHot s'.b1 s'.t2 k with
    | true =>
      have hst:A.prune s'=s':=A.prune_stop (fun k' r' h=>by rw [ht] at h;cases h;exact hh)
      have HST:Hid (A.prune s'=s'):=hst
      have HH:Hid (A.isHot s'.b1 s'.t2 k=true):=hh
      clear hA hK hp hst ht hB' hn hh
      go_wp2_with (first
       | (go_at_call 253;refine Calls.mono hc0 ?_;clear hc0;rintro ee w1 ⟨rfl,rfl⟩)
       | (go_at_call 262;refine Calls.mono f1 ?_;clear f1;rintro ee w2 ⟨rfl,b2⟩;obtain ⟨v,hv,hs⟩:=spotA (AM.below HA.out b2) k hk;have hho:=hotA hv HH.out;clear hv)
       | (go_at_call 250;refine Calls.mono hs ?_;clear hs;rintro ee w3 ⟨rfl,b3⟩)
       | (go_at_call 251;refine Calls.mono (hho _) ?_;clear hho;rintro ee w4 ⟨rfl,b4⟩;have b24:=below_trans (below_trans b2 b3) b4))
      refine ⟨rfl,.tuple #[],results_none rfl _ _ _,rfl,?_,HK.out.trans (.of_below b24)⟩
      rw [← HP.out,HST.out]
      exact HA.out.below b24
    | false =>
      have HH:Hid (A.isHot s'.b1 s'.t2 k=false):=hh
      have hcr:A.cut s'.t1 k=r:=by rw [ht];exact A.cut_head (by have:=hB'.ot;rw [ht] at this;exact this)
      have HN:Hid (A.prune ⟨r,s'.b1,A.cut s'.t2 k,s'.c⟩=A.prune s∧A.Base (⟨r,s'.b1,A.cut s'.t2 k,s'.c⟩:Stt)):=⟨(A.prune_step ht hh).trans hp,(A.drop_bottom hB' ht hh).base⟩
      have hr:r.length+1=n:=by rw [hn,ht];simp
      have HR:Hid (r.length+1=n):=hr
      have HNn:Hid (n=s'.t1.length):=hn
      have HS:Hid ((⟨r,s'.b1,A.cut s'.t2 k,s'.c⟩:Stt)=⟨A.cut s'.t1 k,s'.b1,A.cut s'.t2 k,s'.c⟩):=by
       show (⟨r,s'.b1,A.cut s'.t2 k,s'.c⟩:Stt)=⟨A.cut s'.t1 k,s'.b1,A.cut s'.t2 k,s'.c⟩
       rw [hcr]
      clear hA hK hp ht hB' hn hh hcr hr
      go_wp2_with (first
       | (go_at_call 253;refine Calls.mono hc0 ?_;clear hc0;rintro ee w1 ⟨rfl,rfl⟩)
       | (go_at_call 262;refine Calls.mono f1 ?_;clear f1;rintro ee w2 ⟨rfl,b2⟩;obtain ⟨v,hv,hs⟩:=spotA (AM.below HA.out b2) k hk;have hho:=hotA hv HH.out;clear hv)
       | (go_at_call 250;refine Calls.mono hs ?_;clear hs;rintro ee w3 ⟨rfl,b3⟩)
       | (go_at_call 251;refine Calls.mono (hho _) ?_;clear hho;rintro ee w4 ⟨rfl,b4⟩;have b24:=below_trans (below_trans b2 b3) b4;have f2:=HF.out _ b24)
       | (go_at_call 262;refine Calls.mono f2 ?_;clear f2;rintro ee w5 ⟨rfl,b5⟩;have b25:=below_trans b24 b5;have hd:=drop_any (AM.below HA.out b25) (fun k h=>HDr.out k (Nat.le_trans b25.size h)) k hk HS.out)
       | (go_at_call 267;refine Calls.mono hd ?_;clear hd;rintro ee w6 ⟨rfl,a6,k6⟩;have A6:Hid (AM e b (⟨r,s'.b1,A.cut s'.t2 k,s'.c⟩:Stt) D w6):=a6;have K6:Hid (Keeps D w w6):=HK.out.trans ((Keeps.of_below b25).trans k6);clear a6 k6))
      go_roundg (r.length)
      case measure=>have:=HR.out;have:=HNn.out;omega
      case rel=>exact ⟨_,rfl,HN.out.2,HN.out.1,A6.out,K6.out⟩
end
end Go.Proofs.YtkkkkiejnmpdkaaGreatDoor.Lirs
namespace Go.Proofs.YtkkkkiejnmpdkaaGreatDoor.Lirs
open Go.RowKit
section
variable {D:Nat→Prop} {w w':World} {e b:Nat} {s:Stt}
theorem ghostA {v:Ix.Sp} {t:Bool} (ht:(!decide (v.2.2=0))=t):∀ W:World,Calls Tryz.prog 249 #[Ix.V v] W fun ee w'=>ee=.returned (.bool t)∧Below W.heap.size W w':=fun W=>by
 have:=ghost_any (w:=W) v
 rwa [ht] at this
end
end Go.Proofs.YtkkkkiejnmpdkaaGreatDoor.Lirs
namespace Go.Proofs.YtkkkkiejnmpdkaaGreatDoor.Lirs
open Go.RowKit
def inb (key:ByteArray) (zs:List ByteArray):Bool:=decide (0<A.cnt key zs)
theorem inb_yes {key:ByteArray} {zs:List ByteArray} (h:key∈zs):inb key zs=true:=by
 unfold inb
 rw [decide_eq_true_eq]
 exact A.cnt_pos.2 h
theorem inb_no {key:ByteArray} {zs:List ByteArray} (h:key∉zs):inb key zs=false:=by
 unfold inb
 rw [decide_eq_false_iff_not,A.cnt_zero.2 h]
 omega
section
variable {D:Nat→Prop} {w w':World} {e b:Nat} {s:Stt}
theorem get_raw (H:AM e b s D w) (key:ByteArray) (hk:key.size≤1000) :
 ∃ (x:Nat) (v:Ix.Sp) (t:Bool),w.cell? ⟨e,4,none⟩=some (.pointer (some ⟨x,0,none⟩))∧((v.1=0↔key∉s.t1)∧(v.2.1=0↔key∉s.b1)∧(v.2.2=0↔key∉s.t2))∧(t=true↔∃ i,i<3∧key∈qs s i) ∧
  ∀ W,Below w.heap.size w W→Calls Tryz.prog 248 #[.pointer (some ⟨x,0,none⟩),.string key] W fun ee w'=>ee=.returned (.tuple #[Ix.V v,.bool t])∧Below W.heap.size W w':=by
 obtain ⟨L,R,x,m,sp,h,r⟩:=H
 refine ⟨x,trip sp key,(m key).isSome,h.cells.2.2.1,⟨r.zero (i:=0) (by omega),r.zero (i:=1) (by omega),r.zero (i:=2) (by omega)⟩,?_,fun W hb=>?_⟩
 ·rw [Option.isSome_iff_ne_none,ne_eq,r.none]
  constructor
  ·intro h4
   rcases Classical.em (∃ i,i<3∧key∈qs s i) with h5 | h5
   ·exact h5
   ·exact absurd (fun i hi hk=>h5 ⟨i,hi,hk⟩) h4
  ·rintro ⟨i,hi,hk⟩ h4
   exact h4 i hi hk
 ·have:=Ix.get_any (h.below hb).index (by omega) key (by unfold maxLen;omega)
  rw [r.spot key,spOf_get] at this
  rw [r.spot key]
  exact this
theorem known_row (hB:A.Base s) {key:ByteArray} (h:∃ i,i<3∧key∈qs s i):key∈A.keys s↔key∉s.t2:=by
 constructor
 ·exact fun h1 h2=>hB.ghost h2 h1
 ·intro h2
  have:=((keys_all hB).2 key).2 h
  rw [List.mem_append] at this
  exact this.resolve_right h2
set_option maxHeartbeats 1000000 in
theorem hasE (H:AM e b s D w) (hB:A.Base s) (key:ByteArray) (hk:key.size≤1000) :
 Calls Tryz.prog 234 #[.pointer (some ⟨e,0,none⟩),.string key] w fun ee w'=>ee=.returned (.bool (inb key (A.keys s)))∧Below w.heap.size w w':=by
 obtain ⟨x,v,t,c6,hv,ht,hg⟩:=get_raw H key hk
 have HE:Hid (AM e b s D w):=H
 have heo:=(EN.cells H).2.2.2.1
 have HG:Hid _:=hg
 cases t with
 | false =>
   have hno:key∉A.keys s:=by
    intro h
    have:=ht.2 (((keys_all hB).2 key).1 (List.mem_append_left _ h))
    cases this
   rw [inb_no hno]
   clear H hg hv ht hB hno
   go_enter Tryz.func234,Tryz.ntmps234
   go_wp2_with (first
    | (go_at_call 242;refine (blank_any HE.out).mono ?_;rintro ee w1 ⟨rfl,rfl⟩)
    | (go_at_call 248;refine (HG.out _ (Below.refl _ _)).mono ?_;rintro ee w2 ⟨rfl,hb2⟩))
   go_ret
   exact ⟨rfl,hb2.alloc hb2.size _⟩
 | true =>
   have hkn:=known_row hB (ht.1 rfl)
   have hd:inb key (A.keys s)=decide (v.2.2=0):=by
    by_cases h0:v.2.2=0
    ·rw [decide_eq_true h0]
     exact inb_yes (hkn.2 (hv.2.2.1 h0))
    ·rw [decide_eq_false h0]
     exact inb_no (fun h=>h0 (hv.2.2.2 (hkn.1 h)))
   rw [hd]
   clear H hg hv ht hB hkn hd
   by_cases h0:v.2.2=0
   ·have hgo:=ghostA (v:=v) (t:=false) (by simp [h0])
    rw [decide_eq_true h0]
    clear h0
    go_enter Tryz.func234,Tryz.ntmps234
    go_wp2_with (first
     | (go_at_call 242;refine (blank_any HE.out).mono ?_;rintro ee w1 ⟨rfl,rfl⟩)
     | (go_at_call 248;refine (HG.out _ (Below.refl _ _)).mono ?_;rintro ee w2 ⟨rfl,hb2⟩;have hS2:=spotAt_new w2 v;obtain ⟨y0,y1,y2,-⟩:=hS2.cells;have hb2':=hb2.alloc hb2.size (.cells #[.int .i64 (v.1:Nat),.int .i64 (v.2.1:Nat),.int .i64 (v.2.2:Nat)] 89);clear hS2)
     | (go_at_call 249;refine Calls.mono (hgo _) ?_;rintro ee w3 ⟨rfl,hb3⟩))
    go_ret
    exact ⟨rfl,below_trans hb2' hb3⟩
   ·have hgo:=ghostA (v:=v) (t:=true) (by simp [h0])
    rw [decide_eq_false h0]
    clear h0
    go_enter Tryz.func234,Tryz.ntmps234
    go_wp2_with (first
     | (go_at_call 242;refine (blank_any HE.out).mono ?_;rintro ee w1 ⟨rfl,rfl⟩)
     | (go_at_call 248;refine (HG.out _ (Below.refl _ _)).mono ?_;rintro ee w2 ⟨rfl,hb2⟩;have hS2:=spotAt_new w2 v;obtain ⟨y0,y1,y2,-⟩:=hS2.cells;have hb2':=hb2.alloc hb2.size (.cells #[.int .i64 (v.1:Nat),.int .i64 (v.2.1:Nat),.int .i64 (v.2.2:Nat)] 89);clear hS2)
     | (go_at_call 249;refine Calls.mono (hgo _) ?_;rintro ee w3 ⟨rfl,hb3⟩))
    go_ret
    exact ⟨rfl,below_trans hb2' hb3⟩
set_option maxHeartbeats 2000000 in
theorem loadM (H:AM e b s D w) (hok:A.Ok s) (hD:∀ k,w.heap.size≤k→D k) (_:b≤600000) (key:ByteArray) (hk:key.size≤1000) :
 Calls Tryz.prog 237 #[.pointer (some ⟨e,0,none⟩),.string key] w fun ee w'=>ee=.returned (.bool (A.load s key).1)∧AM e (b+1) (A.load s key).2 D w'∧Keeps D w w':=by
 have HE:Hid (AM e b s D w):=H
 have HD:Hid (∀ k,w.heap.size≤k→D k):=hD
 have hhas:=hasE H hok.toBase key hk
 by_cases hin:key∈A.keys s
 ·rw [A.load_no (.inl hin)]
  rw [inb_yes hin] at hhas
  clear H hD hin
  go_enter Tryz.func237,Tryz.ntmps237
  go_wp2_with (first
   | (go_at_call 242;refine (blank_any HE.out).mono ?_;rintro ee w1 ⟨rfl,rfl⟩)
   | (go_at_call 234;refine Calls.mono hhas ?_;clear hhas;rintro ee w2 ⟨rfl,hb2⟩))
  go_ret
  exact ⟨rfl,(HE.out.below hb2).more (Nat.le_succ b),.of_below hb2⟩
 ·rw [inb_no hin] at hhas
  rcases Nat.lt_or_ge (A.keys s).length s.c with hl | hl
  ·have e0:A.load s key=(true,A.prune (A.put s key)):=by
    unfold A.load
    rw [if_neg (by intro h3;rcases h3 with h3 | h3;exact hin h3;omega)]
   rw [e0]
   have HFu:Hid (∀ W,Below w.heap.size w W→Calls Tryz.prog 244 #[.pointer (some ⟨e,0,none⟩)] W fun ee w'=>ee=.returned (.bool false)∧Below W.heap.size W w'):=fun W hb=>by
    have:=fullA (H.below hb) hok.toBase
    rwa [decide_eq_false (by omega)] at this
   have HHo:Hid (∀ W,Below w.heap.size w W→Calls Tryz.prog 254 #[.pointer (some ⟨e,0,none⟩)] W fun ee w'=>ee=.returned (.int .i64 ((A.hots s).length:Nat))∧w'=W):=fun W hb=>hots_any (H.below hb) hok.toBase
   have HMo:Hid (∀ W,Below w.heap.size w W→Calls Tryz.prog 255 #[.pointer (some ⟨e,0,none⟩)] W fun ee w'=>ee=.returned (.int .i64 ((A.most s:Nat):Int))∧Below W.heap.size W w'):=fun W hb=>mostA (H.below hb) hok.lo hok.hi
   have HFl:Hid (Few 19990 s):=by show Few 19990 s;have:=Few.of hok;unfold Few at *;omega
   by_cases hm:(A.hots s).length<A.most s
   ·have hpu:A.put s key=A.heat s key:=by unfold A.put;rw [if_pos hm]
    rw [hpu]
    have HBh:Hid (A.Base (A.heat s key)):=A.heat_base hok.toBase key
    clear H hD hin hl e0 hpu hok
    generalize A.most s=n1 at *
    generalize (A.hots s).length=n2 at *
    go_enter Tryz.func237,Tryz.ntmps237
    go_wp2_with (first
     | (go_at_call 242;refine (blank_any HE.out).mono ?_;rintro ee w1 ⟨rfl,rfl⟩)
     | (go_at_call 234;refine Calls.mono hhas ?_;clear hhas;rintro ee w2 ⟨rfl,hb2⟩;have hfu:=HFu.out _ hb2)
     | (go_at_call 244;refine Calls.mono hfu ?_;clear hfu;rintro ee w3 ⟨rfl,hb3⟩;have b13:=below_trans hb2 hb3;have hho:=HHo.out _ b13;have hmo:=HMo.out _ b13)
     | (go_at_call 254;refine Calls.mono hho ?_;clear hho;rintro ee w4 ⟨rfl,rfl⟩)
     | (go_at_call 255;refine Calls.mono hmo ?_;clear hmo;rintro ee w5 ⟨rfl,hb5⟩;have b15:=below_trans b13 hb5;have hhe:=heat_any (AM.below HE.out b15) (fun k h=>HD.out k (Nat.le_trans b15.size h)) key hk HFl.out)
     | (go_at_call 256;refine Calls.mono hhe ?_;clear hhe;rintro ee w6 ⟨rfl,a6,k6⟩;have k16:=(Keeps.of_below (D:=D) b15).trans k6;have hpr:=prune_any a6 HBh.out (fun k h=>HD.out k (Nat.le_trans k16.size h));clear a6)
     | (go_at_call 258;refine Calls.mono hpr ?_;clear hpr;rintro ee w7 ⟨rfl,a7,k7⟩))
    go_ret
    exact ⟨rfl,a7,k16.trans k7⟩
   ·have hpu:A.put s key=A.layCold s key:=by unfold A.put;rw [if_neg hm]
    rw [hpu]
    have HBh:Hid (A.Base (A.layCold s key)):=A.cold_base hok.toBase key
    clear H hD hin hl e0 hpu hok
    generalize A.most s=n1 at *
    generalize (A.hots s).length=n2 at *
    go_enter Tryz.func237,Tryz.ntmps237
    go_wp2_with (first
     | (go_at_call 242;refine (blank_any HE.out).mono ?_;rintro ee w1 ⟨rfl,rfl⟩)
     | (go_at_call 234;refine Calls.mono hhas ?_;clear hhas;rintro ee w2 ⟨rfl,hb2⟩;have hfu:=HFu.out _ hb2)
     | (go_at_call 244;refine Calls.mono hfu ?_;clear hfu;rintro ee w3 ⟨rfl,hb3⟩;have b13:=below_trans hb2 hb3;have hho:=HHo.out _ b13;have hmo:=HMo.out _ b13)
     | (go_at_call 254;refine Calls.mono hho ?_;clear hho;rintro ee w4 ⟨rfl,rfl⟩)
     | (go_at_call 255;refine Calls.mono hmo ?_;clear hmo;rintro ee w5 ⟨rfl,hb5⟩;have b15:=below_trans b13 hb5;have hhe:=cold_lay (AM.below HE.out b15) (fun k h=>HD.out k (Nat.le_trans b15.size h)) key hk HFl.out)
     | (go_at_call 257;refine Calls.mono hhe ?_;clear hhe;rintro ee w6 ⟨rfl,a6,k6⟩;have k16:=(Keeps.of_below (D:=D) b15).trans k6;have hpr:=prune_any a6 HBh.out (fun k h=>HD.out k (Nat.le_trans k16.size h));clear a6)
     | (go_at_call 258;refine Calls.mono hpr ?_;clear hpr;rintro ee w7 ⟨rfl,a7,k7⟩))
    go_ret
    exact ⟨rfl,a7,k16.trans k7⟩
  ·rw [A.load_no (.inr hl)]
   have HFu:Hid (∀ W,Below w.heap.size w W→Calls Tryz.prog 244 #[.pointer (some ⟨e,0,none⟩)] W fun ee w'=>ee=.returned (.bool true)∧Below W.heap.size W w'):=fun W hb=>by
    have:=fullA (H.below hb) hok.toBase
    rwa [decide_eq_true (by omega)] at this
   clear H hD hl hin hok
   go_enter Tryz.func237,Tryz.ntmps237
   go_wp2_with (first
    | (go_at_call 242;refine (blank_any HE.out).mono ?_;rintro ee w1 ⟨rfl,rfl⟩)
    | (go_at_call 234;refine Calls.mono hhas ?_;clear hhas;rintro ee w2 ⟨rfl,hb2⟩;have hfu:=HFu.out _ hb2)
    | (go_at_call 244;refine Calls.mono hfu ?_;clear hfu;rintro ee w3 ⟨rfl,hb3⟩;have b13:=below_trans hb2 hb3))
   go_ret
   exact ⟨rfl,(HE.out.below b13).more (Nat.le_succ b),.of_below b13⟩
end
end Go.Proofs.YtkkkkiejnmpdkaaGreatDoor.Lirs
namespace Go.Proofs.YtkkkkiejnmpdkaaGreatDoor.Lirs
open Go.RowKit
def heldC (n:Int):Nat:=(max 1 (min n 1024)).toNat
theorem heldC_in (n:Int):1≤heldC n∧heldC n≤1024:=by unfold heldC;omega
def ptrAt (P:Nat→Nat) (k j:Nat):Value:=if j<k then .pointer (some ⟨P j,0,none⟩) else .pointer none
structure Making (w0 w:World) (e c x k:Nat) (P:Nat→Nat):Prop where
 top:w.heap[e]? = some (.cells #[.int .i64 (c:Nat),ptrAt P k 0,ptrAt P k 1,ptrAt P k 2,.pointer (some ⟨x,0,none⟩)] 92 (0,0))
 ex:x<e
 lo:w0.heap.size≤x
 li:∀ j,j<k→Ls.LA Value.string 234 152 (fun g=>g=P j) w (P j) [] [] (fun _=>⟨#[]⟩) 0
 pl:∀ j,j<k→e<P j∧P j<w.heap.size
 inc:∀ i j,i<j→j<k→P i<P j
 ix:XAt (fun g=>g=x) w x (fun _=>none) 0
 keep:Below w0.heap.size w0 w
theorem Making.step {w0 w w1:World} {e c x k p:Nat} {P:Nat→Nat} (H:Making w0 w e c x k P) (hk:k<3) (hl:Ls.LA Value.string 234 152 (fun g=>g=w.heap.size) w1 p [] [] (fun _=>⟨#[]⟩) 0) (hw:Keeps (fun g=>g=w.heap.size) w w1) :
 ∃ P',Making w0 (w1.setCell ⟨e,1+k,none⟩ (.pointer (some ⟨p,0,none⟩))) e c x (k+1) P':=by
 have hp:p=w.heap.size:=by
  obtain ⟨s,⟨ad,cap,h⟩,_⟩:=hl
  exact h.1
 subst hp
 have he:=lt_of_block H.top
 have hp1:w.heap.size<w1.heap.size:=by
  obtain ⟨s,⟨ad,cap,h⟩,_⟩:=hl
  exact lt_of_block h.2.1
 have hs:Keeps (fun g=>g=e) w1 (w1.setCell ⟨e,1+k,none⟩ (.pointer (some ⟨w.heap.size,0,none⟩))):=Keeps.setCell (D:=fun g=>g=e) (Keeps.refl _ w1) (p:=⟨e,1+k,none⟩) rfl _
 refine ⟨fun j=>if j=k then w.heap.size else P j,?_,H.ex,H.lo,?_,?_,?_,?_,?_⟩
 ·rw [block_setCell ((hw.block e he (by omega)).trans H.top)]
  have:k=0∨k=1∨k=2:=by omega
  rcases this with e1 | e1 | e1 <;> subst e1 <;> simp [ptrAt]
 ·intro j hj
  by_cases h:j=k
  ·subst h
   simp only [if_true]
   exact Ls.LA.kept hl hs (fun g h1 h2=>by omega)
  ·simp only [if_neg h]
   have hj2:j<k:=by omega
   have:=H.pl j hj2
   exact Ls.LA.kept (Ls.LA.kept (H.li j hj2) hw (fun g h1 h2=>by omega)) hs (fun g h1 h2=>by omega)
 ·intro j hj
  have hsz:(w1.setCell ⟨e,1+k,none⟩ (.pointer (some ⟨w.heap.size,0,none⟩))).heap.size=w1.heap.size:=by simp [World.setCell]
  rw [hsz]
  by_cases h:j=k
  ·subst h
   simp only [if_true]
   exact ⟨he,hp1⟩
  ·simp only [if_neg h]
   have:=H.pl j (by omega)
   exact ⟨this.1,by omega⟩
 ·intro i j hij hj
  by_cases h:j=k
  ·subst h
   have h2:¬ i=j:=by omega
   simp only [if_true,if_neg h2]
   exact (H.pl i (by omega)).2
  ·have h2:¬ i=k:=by omega
   simp only [if_neg h,if_neg h2]
   exact H.inc i j hij (by omega)
 ·have hx:=H.ex
  exact Ix.IX.kept (Ix.IX.kept H.ix hw (fun g h1 h2=>by omega)) hs (fun g h1 h2=>by omega)
 ·have h1:=H.keep.size
  have h2:=H.lo
  have h3:=H.ex
  exact (((Keeps.of_below (D:=fun k=>w0.heap.size≤k) H.keep).trans (hw.mono (fun g _ h=>by omega))).trans (hs.mono (fun g _ h=>by omega))).below (Nat.le_refl _) (fun _ h=>h)
theorem Making.done {w0 w:World} {e c x:Nat} {P:Nat→Nat} (H:Making w0 w e c x 3 P) (D:Nat→Prop) (hD:∀ k,w0.heap.size≤k→D k):AM e 0 (A.start c) D w∧Keeps D w0 w:=by
 have h0:=H.pl 0 (by omega);have h1:=H.pl 1 (by omega);have h2:=H.pl 2 (by omega)
 have i1:=H.inc 0 1 (by omega) (by omega);have i2:=H.inc 1 2 (by omega) (by omega)
 have hx:=H.ex
 have hlo:=H.lo
 obtain ⟨L,hL⟩:∃ L:Nat→Nat,L=fun k=>if k=P 0 then 0 else if k=P 1 then 1 else if k=P 2 then 2 else if k=e then 5 else 4:=⟨_,rfl⟩
 have l0:L (P 0)=0:=by rw [hL];simp
 have l1:L (P 1)=1:=by rw [hL];show (if _ then _ else _)=_;rw [if_neg (by omega),if_pos rfl]
 have l2:L (P 2)=2:=by rw [hL];show (if _ then _ else _)=_;rw [if_neg (by omega),if_neg (by omega),if_pos rfl]
 have l5:L e=5:=by rw [hL];show (if _ then _ else _)=_;rw [if_neg (by omega),if_neg (by omega),if_neg (by omega),if_pos rfl]
 have l4:L x=4:=by rw [hL];show (if _ then _ else _)=_;rw [if_neg (by omega),if_neg (by omega),if_neg (by omega),if_neg (by omega)]
 refine ⟨⟨L,fun j=>⟨P j,[],[],fun _=>⟨#[]⟩,0⟩,x,fun _=>none,fun _ _=>0,⟨hD _ (by omega),l5,H.top,?_,?_⟩,?_⟩,Keeps.of_below H.keep⟩
 ·refine three ?_ ?_ ?_
  ·exact Ls.LA.wide (H.li 0 (by omega)) (fun g h=>by subst h;exact ⟨hD _ (by omega),l0⟩)
  ·exact Ls.LA.wide (H.li 1 (by omega)) (fun g h=>by subst h;exact ⟨hD _ (by omega),l1⟩)
  ·exact Ls.LA.wide (H.li 2 (by omega)) (fun g h=>by subst h;exact ⟨hD _ (by omega),l2⟩)
 ·exact Ix.IX.more (Ix.IX.wide H.ix (fun g h=>by subst h;exact ⟨hD _ (by omega),l4⟩)) (by omega)
 ·refine ⟨?_,?_,?_,?_,?_,?_,?_⟩
  ·exact three rfl rfl rfl
  ·intro k
   simp [spOf]
  ·intro k i hi h
   exact absurd rfl h
  ·intro i hi h hm
   simp at hm
  ·intro i hi
   exact Nat.zero_le _
  ·refine three ?_ ?_ ?_ <;> (intro k hk;simp [qs,A.start] at hk)
  ·intro i hi
   exact List.nodup_nil
set_option maxHeartbeats 2000000 in
theorem newM (w:World) (D:Nat→Prop) (hD:∀ k,w.heap.size≤k→D k) (n:Int) :
 Calls Tryz.prog 20 #[.int .i64 n] w fun ee w'=>∃ e,ee=.returned (.pointer (some ⟨e,0,none⟩))∧AM e 0 (A.start (heldC n)) D w'∧Keeps D w w':=by
 have HD:Hid (∀ k,w.heap.size≤k→D k):=hD
 have hnew:=Ix.new_any w (fun g=>g=w.heap.size) rfl 0 (by omega)
 clear hD
 go_enter Tryz.func20,Tryz.ntmps20
 go_wp2_with (go_at_call 58;refine hnew.mono ?_;clear hnew;rintro ee w1 ⟨x,rfl,hx1,hk1,rfl⟩)
 have hc:(min (max n 1) 1024)=((heldC n:Nat):Int):=by unfold heldC;omega
 rw [hc]
 have hm0:Making w (w1.alloc (.cells #[.int .i64 (heldC n:Nat),.pointer none,.pointer none,.pointer none,.pointer (some ⟨w.heap.size,0,none⟩)] 92)) w1.heap.size (heldC n) w.heap.size 0 (fun _=>0):=by
  have hxl:w.heap.size<w1.heap.size:=by
   obtain ⟨seed,sl,u,cc,ad,h1,h,o⟩:=hx1
   exact lt_of_block h.2.1
  refine ⟨heap_alloc_new w1 _,hxl,Nat.le_refl _,fun j hj=>by omega,fun j hj=>by omega,fun i j _ hj=>by omega,Ix.IX.below hx1 ((Below.refl _ w1).alloc (Nat.le_refl _) _),?_⟩
  exact (((hk1.mono (fun g _ h=>by omega):Keeps (fun k=>w.heap.size≤k) w w1)).alloc _).below (Nat.le_refl _) (fun _ h=>h)
 have HM0:Hid _:=hm0
 clear hm0 hx1 hk1 hc
 go_loopw [11] (fun i wr=>∃ (k:Nat) (P:Nat→Nat),k≤3∧i=.int .i64 k∧Making w wr w1.heap.size (heldC n) w.heap.size k P) (fun i _=>3 - (intOf i).toNat)
 case atStart=>exact ⟨0,_,by omega,rfl,HM0.out⟩
 case round =>
  obtain ⟨k,P,hk,rfl,hM⟩:=hrel
  have HM:Hid _:=hM
  have heo:=lt_of_block hM.top
  rcases Nat.lt_or_ge k 3 with hlt | hge
  ·have hmk:=Ls.make_any wr.drew (fun g=>g=wr.heap.size) rfl
   have hcell:∃ u,wr.cell? ⟨w1.heap.size,1+k,none⟩=some u:=by
    rw [cell_of_block hM.top]
    have:k=0∨k=1∨k=2:=by omega
    rcases this with e1 | e1 | e1 <;> subst e1 <;> exact ⟨_,rfl⟩
   obtain ⟨u,hu⟩:=hcell
   have hfz:wr.frozen? ⟨w1.heap.size,1+k,none⟩=false:=frozen_of_block hM.top
   clear hM
   go_wp2_with fail
   go_region_with (go_at_call 57;refine Calls.mono hmk ?_;rintro ee w2 ⟨p,rfl,hl2,hk2⟩;have hk2':=hk2.undrew;have hb:=(hk2'.block _ heo (by omega));have hu2:w2.cell? ⟨w1.heap.size,1+k,none⟩=some u:=(by rw [World.cell?_of_block hb];exact hu);have hf2:w2.frozen? ⟨w1.heap.size,1+k,none⟩=false:=(frozen_of_block (hb.trans HM.out.top)))
   all_goals
    go_wp2
    obtain ⟨P',hM'⟩:=HM.out.step hlt hl2 hk2'
    exact ⟨⟨k+1,P',hlt,by go_num,hM'⟩,by simp [intOf];omega⟩
  ·have hk':k=3:=by omega
   subst hk'
   go_wp2
   go_ret
   exact ⟨_,rfl,HM.out.done D HD.out⟩
end Go.Proofs.YtkkkkiejnmpdkaaGreatDoor.Lirs
