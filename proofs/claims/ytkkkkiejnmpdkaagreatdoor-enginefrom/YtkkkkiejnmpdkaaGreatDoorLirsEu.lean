/- Lirs Eu: Ca Eh -/
import Derived.Test.YtkkkkiejnmpdkaaGreatDoorLirsEo
import Derived.Test.YtkkkkiejnmpdkaaGreatDoorLirsEf
namespace Go.Proofs.YtkkkkiejnmpdkaaGreatDoor.Lirs
open Go.RowKit
theorem row_owned {W:World} {B:Nat} {ad:Option Addr} {cap:Nat} {zs:List ByteArray} (h:W.ownsRow B 9 1 (.slice ad zs.length cap) zs.length (zs.map Value.string)):Row (B≤·) W ad cap zs:=by
 rcases h.2 with ⟨h0,hn⟩ | ⟨g,cap',cur,hv,hb,hg,hn,hc,hcs,ht⟩
 ·obtain rfl:zs=[]:=List.eq_nil_of_length_eq_zero hn
  cases h0
  exact Row.nil
 ·cases hv
  refine ⟨hn,hc,fun _=>⟨g,0,cur,rfl,hb,hg,by omega,fun i z hz=>?_⟩⟩
  have hi:=lt_of_at hz
  have h1:(cur.toList.take (zs.length*1))[i]? = some (Value.string z):=by rw [ht,List.getElem?_map,hz];rfl
  rw [List.getElem?_take,if_pos (by omega)] at h1
  rw [Nat.zero_add]
  simpa using h1
theorem Row.same {D:Nat→Prop} {w:World} {g off cap i:Nat} {zs:List ByteArray} {z:ByteArray} (h:Row D w (some ⟨g,off,none⟩) cap zs) (hz:zs[i]? = some z):Row D (w.setCell ⟨g,off+i,none⟩ (.string z)) (some ⟨g,off,none⟩) cap zs∧D g:=by
 have hi:=lt_of_at hz
 have h0:=h.1
 obtain ⟨g',off',cur,e,hD,hg,hs,hc⟩:=h.2.2 (by omega)
 cases e
 refine ⟨⟨h.1,h.2.1,fun _=>⟨g,off,cur.set! (off+i) (.string z),rfl,hD,block_setCell hg,by simpa using hs,fun j y hj=>?_⟩⟩,hD⟩
 by_cases e:j=i
 ·subst e
  rw [hz] at hj
  cases hj
  have:off+j<cur.size:=by omega
  simp [this]
 ·have:=hc j y hj
  rw [Array.set!_eq_setIfInBounds,Array.getElem?_setIfInBounds_ne (by omega)]
  exact this
section
variable {D:Nat→Prop} {w:World} {e b:Nat} {s:Stt}
set_option maxRecDepth 100000 in
set_option maxHeartbeats 1000000 in
theorem copiesM (H:AM e b s D w) {i:Nat} (hi:i<3) :
 Calls Tryz.prog 247 #[.pointer (some ⟨e,0,none⟩),.int .i64 (i:Nat)] w fun ee w'=>∃ ad cap,ee=.returned (.slice ad (qs s i).length cap)∧Row (w.heap.size≤·) w' ad cap (qs s i)∧Below w.heap.size w w':=by
 have HQs:Hid (∀ x∈qs s i,x.size≤1000):=fun x hx=>EN.size H hi hx
 have hql:(qs s i).length≤20000:=EN.lens H hi
 obtain ⟨pr,cr,hall⟩:=EN.all H (by omega) hi
 obtain ⟨-,hall⟩:=hall w (Below.refl _ w)
 have heo:=(EN.cells H).2.2.2.1
 clear H
 generalize qs s i=R at *
 go_enter Tryz.func247,Tryz.ntmps247
 go_wp2_with (go_at_call 192;refine Calls.mono hall ?_;clear hall;rintro ee w3 ⟨ad,cap,rfl,hown3,hb3⟩;have HR3:Hid (Row (w.heap.size≤·) w3 ad cap R):=row_owned hown3;have HB3:Hid (Below w.heap.size w w3):=hb3;clear hown3 hb3)
 go_loopw [16] (fun i wr=>∃ k:Nat,k≤R.length∧i=.int .i64 k∧Row (w.heap.size≤·) wr ad cap R∧Below w.heap.size w wr) (fun i _=>R.length - (intOf i).toNat)
 case atStart=>exact ⟨0,Nat.zero_le _,rfl,HR3.out,HB3.out⟩
 case round =>
  obtain ⟨k,hk,rfl,hr,hb⟩:=hrel
  have HR:Hid (Row (w.heap.size≤·) wr ad cap R):=hr
  have HB:Hid (Below w.heap.size w wr):=hb
  rcases Nat.lt_or_ge k R.length with hlt | hge
  ·obtain ⟨key,hkey⟩:∃ key,R[k]? = some key:=⟨_,List.getElem?_eq_getElem hlt⟩
   obtain ⟨g,off,rfl,hg,ck,fk⟩:=hr.at hkey
   have hks:key.size≤1000:=HQs.out key (List.mem_of_getElem? hkey)
   have HKy:Hid (R[k]? = some key):=hkey
   clear hr hb hkey hg HR3
   go_wp2_with (go_at_call 197;refine (Ix.clone_any key hks _).mono ?_;rintro ee w5 ⟨rfl,hb5⟩;have h5:=HR.out.below hb5;have HS:Hid _:=Row.same h5 HKy.out;obtain ⟨g',off',e',-,ck5,fk5⟩:=h5.at HKy.out;cases e';have HB5:Hid (Below w.heap.size w w5):=(below_trans' HB.out hb5);clear hb5 h5 ck fk)
   go_roundw
   case rel=>exact ⟨k+1,hlt,by go_num,HS.out.1,((Keeps.of_below (D:=fun x=>w.heap.size≤x) HB5.out).setCell (p:=⟨g,off+k,none⟩) HS.out.2 _).below (Nat.le_refl _) (fun _ h=>h)⟩
   case measure=>simp [intOf];omega
  ·clear hr hb
   go_wp2_with fail
   go_ret
   exact ⟨ad,cap,rfl,HR.out,HB.out⟩
theorem ghostsEM (H:AM e b s D w) (_:b≤100000) :
 Calls Tryz.prog 233 #[.pointer (some ⟨e,0,none⟩)] w fun ee w'=>∃ ad cap,ee=.returned (.slice ad (A.ghosts s).length cap)∧Row (w.heap.size≤·) w' ad cap (A.ghosts s)∧Below w.heap.size w w':=by
 have HE:Hid (AM e b s D w):=H
 have hc:Calls Tryz.prog 247 #[.pointer (some ⟨e,0,none⟩),.int .i64 2] w fun ee w'=>∃ ad cap,ee=.returned (.slice ad (A.ghosts s).length cap)∧Row (w.heap.size≤·) w' ad cap (A.ghosts s)∧Below w.heap.size w w':=copiesM H (i:=2) (by omega)
 clear H
 go_enter Tryz.func233,Tryz.ntmps233
 go_wp2_with (first
  | (go_at_call 242;refine (blank_any HE.out).mono ?_;rintro ee w1 ⟨rfl,rfl⟩)
  | (go_at_call 247;refine Calls.mono hc ?_;clear hc;rintro ee w2 ⟨ad,cap,rfl,hr,hb2⟩))
 go_ret
 exact ⟨ad,cap,rfl,hr,hb2⟩
end
end Go.Proofs.YtkkkkiejnmpdkaaGreatDoor.Lirs
namespace Go.Proofs.YtkkkkiejnmpdkaaGreatDoor.Lirs
open Go.RowKit
def AE (e b:Nat) (s:Stt) (D:Nat→Prop) (w:World):Prop:=AM e b s D w∧A.Base s
section
variable {D D':Nat→Prop} {w w':World} {e b:Nat} {s:Stt}
theorem AE.below (H:AE e b s D w) (hb:Below w.heap.size w w'):AE e b s D w':=⟨H.1.below hb,H.2⟩
theorem load_any (H:AE e b s D w) (hok:A.Ok s) (hD:∀ k,w.heap.size≤k→D k) (hb:b≤600000) (key:ByteArray) (hk:key.size≤1000) :
 Calls Tryz.prog 237 #[.pointer (some ⟨e,0,none⟩),.string key] w fun ee w'=>ee=.returned (.bool (A.load s key).1)∧AE e (b+1) (A.load s key).2 D w'∧Keeps D w w':=by
 refine (loadM H.1 hok hD hb key hk).mono ?_
 rintro ee w' ⟨rfl,h,hk1⟩
 exact ⟨rfl,⟨h,(A.load_any hok key).1.toBase⟩,hk1⟩
theorem keys_any (H:AE e b s D w) (_:b≤900000):Calls Tryz.prog 236 #[.pointer (some ⟨e,0,none⟩)] w fun ee w'=>ee=.returned (.int .i64 ((A.keys s).length:Nat))∧Below w.heap.size w w':=by
 refine (lenA H.1 H.2).mono ?_
 rintro ee w' ⟨rfl,rfl⟩
 exact ⟨rfl,Below.refl _ _⟩
theorem ghostsE_any (H:AE e b s D w) (hb:b≤100000) :
 Calls Tryz.prog 233 #[.pointer (some ⟨e,0,none⟩)] w fun ee w'=>∃ ad cap,ee=.returned (.slice ad (A.ghosts s).length cap)∧Row (w.heap.size≤·) w' ad cap (A.ghosts s)∧Below w.heap.size w w':=ghostsEM H.1 hb
theorem stateE_any (H:AE e b s D w):Calls Tryz.prog 240 #[.pointer (some ⟨e,0,none⟩)] w fun ee w'=>ee=.returned (.string ⟨(stB (qs s)).toArray⟩)∧Below w.heap.size w w':=state_any H.1 (by omega)
end
theorem new_any (w:World) (D:Nat→Prop) (hD:∀ k,w.heap.size≤k→D k) (n:Int) :
 Calls Tryz.prog 20 #[.int .i64 n] w fun ee w'=>∃ e,ee=.returned (.pointer (some ⟨e,0,none⟩))∧AE e 0 (A.start (heldC n)) D w'∧Keeps D w w':=by
 refine (newM w D hD n).mono ?_
 rintro ee w' ⟨e,rfl,h,hk1⟩
 exact ⟨e,rfl,⟨h,(A.start_ok (heldC_in n).1 (heldC_in n).2).toBase⟩,hk1⟩
end Go.Proofs.YtkkkkiejnmpdkaaGreatDoor.Lirs
