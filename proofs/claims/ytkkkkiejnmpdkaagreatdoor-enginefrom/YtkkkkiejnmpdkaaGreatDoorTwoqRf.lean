/- Twoq Rf: Rfa Rfb Rfc Rfe Rfg Rfh -/
import Derived.Test.YtkkkkiejnmpdkaaGreatDoorTx
import Derived.Test.YtkkkkiejnmpdkaaGreatDoorTwoqPu
import Derived.Test.YtkkkkiejnmpdkaaGreatDoorTwoqEu
import Derived.Test.YtkkkkiejnmpdkaaGreatDoorTwoqEn
import Derived.Test.YtkkkkiejnmpdkaaGreatDoorTwoqEo
import Derived.Deep.LoopGhost
import Derived.Laws.Concat
namespace Go.Proofs.YtkkkkiejnmpdkaaGreatDoor.Twoq
open Go.RowKit
theorem bytes_beq (x y:ByteArray):(x.toList==y.toList)=decide (x=y):=by
 by_cases h:x=y
 ·subst h;simp
 ·have:¬ x.toList=y.toList:=by
   intro e
   rw [ByteArray.toList_eq,ByteArray.toList_eq] at e
   apply h
   cases x
   cases y
   congr
   exact Array.toList_inj.1 e
  simp [h,this]
def idx (zs:List ByteArray) (k:ByteArray):Int:=match zs.findIdx? (fun z=>decide (z=k)) with
 | some i=>(i:Nat)
 | none=>-1
theorem idx_yes {zs:List ByteArray} {k:ByteArray} {i:Nat} (h:zs[i]? = some k) (hn:∀ j,j<i→zs[j]?≠some k):idx zs k=(i:Nat):=by
 have hi:=lt_of_at h
 have:zs.findIdx? (fun z=>decide (z=k))=some i:=by
  rw [List.findIdx?_eq_some_iff_getElem]
  refine ⟨hi,?_,?_⟩
  ·rw [List.getElem?_eq_getElem hi] at h
   simpa using h
  ·intro j hj
   have:=hn j hj
   rw [List.getElem?_eq_getElem (by omega)] at this
   simpa using this
 unfold idx
 rw [this]
theorem idx_no {zs:List ByteArray} {k:ByteArray} (h:k∉zs):idx zs k = -1:=by
 have:zs.findIdx? (fun z=>decide (z=k))=none:=by
  rw [List.findIdx?_eq_none_iff]
  intro z hz
  simp
  rintro rfl
  exact h hz
 unfold idx
 rw [this]
theorem idx_mem {zs:List ByteArray} {k:ByteArray} (h:k∈zs):0≤idx zs k:=by
 have:(zs.findIdx? (fun z=>decide (z=k))).isSome=true:=by
  rw [List.findIdx?_isSome]
  simpa using h
 obtain ⟨i,hi⟩:=Option.isSome_iff_exists.1 this
 unfold idx
 rw [hi]
 simp
theorem rrow_old {B:Nat} {w w':World} {ad:Option Addr} {cap:Nat} {zs:List ByteArray} (h:Row (fun g=>B≤g∨w.heap.size≤g) w' ad cap zs) (hB:B≤w.heap.size):Row (B≤·) w' ad cap zs:=h.wide (fun g _ h=>by
 show B≤g
 rcases h with h | h
 ·exact h
 ·omega)
section
variable {D:Nat→Prop} {w:World} {ad:Option Addr} {cap:Nat} {zs:List ByteArray}
set_option maxHeartbeats 1000000 in
theorem rhas_any (H:Row D w ad cap zs) (hn:zs.length≤1000000) (k:ByteArray) :
 Calls Tryz.prog 114 #[.slice ad zs.length cap,.string k] w fun e w'=>e=.returned (.int .i64 (idx zs k))∧w'=w:=by
 have HH:Hid (Row D w ad cap zs):=H
 clear H
 go_enter Tryz.func114,Tryz.ntmps114
 go_wp2
 go_loop [5] (fun i=>∃ j:Nat,j≤zs.length∧i=.int .i64 j∧Hid (∀ m,m<j→zs[m]?≠some k)) (fun i=>zs.length - (intOf i).toNat)
 case atStart=>exact ⟨0,Nat.zero_le _,rfl,fun m hm=>by omega⟩
 case round =>
  obtain ⟨j,hj,rfl,hno⟩:=hrel
  rcases Nat.lt_or_ge j zs.length with hlt | hge
  ·obtain ⟨z,hz⟩:∃ z,zs[j]? = some z:=⟨_,List.getElem?_eq_getElem hlt⟩
   obtain ⟨g,off,rfl,-,c0,-⟩:=HH.out.at hz
   have HZ:Hid (zs[j]? = some z):=hz
   clear hz
   by_cases he:z=k
   ·have hE:(z.toList==k.toList)=true:=by rw [bytes_beq,decide_eq_true he]
    have HE:Hid (z=k):=he
    clear he
    go_wp2
    go_ret
    exact ⟨ret_int (idx_yes (by rw [← HE.out];exact HZ.out) hno.out).symm,rfl⟩
   ·have hE:(z.toList==k.toList)=false:=by rw [bytes_beq,decide_eq_false he]
    have HE:Hid (¬ z=k):=he
    clear he
    go_wp2
    go_round
    case rel =>
     refine ⟨j+1,hlt,by go_num,fun m hm=>?_⟩
     rcases Nat.lt_or_ge m j with h | h
     ·exact hno.out m h
     ·rw [show m=j by omega,HZ.out]
      exact fun e=>HE.out (by cases e;rfl)
    case measure=>simp [intOf];omega
  ·have hj':j=zs.length:=by omega
   subst hj'
   go_wp2
   go_ret
   refine ⟨ret_int (idx_no (fun hm=>?_)).symm,rfl⟩
   obtain ⟨m,hm1,hm2⟩:=List.getElem_of_mem hm
   exact hno.out m hm1 (by rw [List.getElem?_eq_getElem hm1,hm2])
theorem rcut_no {zs:List ByteArray} {k:ByteArray} {j:Nat} (h:zs[j]? = some k):A.cut (zs.take (j+1)) k=A.cut (zs.take j) k:=by
 rw [List.take_add_one,h]
 simp [A.cut]
theorem rcut_yes {zs:List ByteArray} {k z:ByteArray} {j:Nat} (h:zs[j]? = some z) (hz:z≠k):A.cut (zs.take (j+1)) k=A.cut (zs.take j) k++[z]:=by
 rw [List.take_add_one,h]
 simp [A.cut,hz]
theorem rcut_len (zs:List ByteArray) (k:ByteArray) (j:Nat):(A.cut (zs.take j) k).length≤zs.length:=by
 have h1:=A.length_cut_le (zs.take j) k
 have h2:(zs.take j).length≤zs.length:=by simp;omega
 omega
set_option maxHeartbeats 2000000 in
theorem rcut_any (H:Row D w ad cap zs) (hn:zs.length≤10000) (k:ByteArray) :
 Calls Tryz.prog 115 #[.slice ad zs.length cap,.string k] w fun e w'=>∃ ad' cap',e=.returned (.slice ad' (A.cut zs k).length cap')∧Row (w.heap.size≤·) w' ad' cap' (A.cut zs k)∧Below w.heap.size w w':=by
 have HH:Hid (Row D w ad cap zs):=H
 clear H
 go_enter Tryz.func115,Tryz.ntmps115
 go_wp2
 go_loopw [5,6] (fun v i wr=>∃ (j:Nat) (a2:Option Addr) (c2:Nat),j≤zs.length∧i=.int .i64 j∧v=.slice a2 (A.cut (zs.take j) k).length c2∧Row (w.heap.size≤·) wr a2 c2 (A.cut (zs.take j) k)∧Below w.heap.size w wr) (fun _ i _=>zs.length - (intOf i).toNat)
 case atStart=>exact ⟨0,none,0,Nat.zero_le _,rfl,rfl,Row.nil,Below.refl _ _⟩
 case round =>
  obtain ⟨j,a2,c2,hj,rfl,rfl,hrow,hb⟩:=hrel
  have hs:=hb.size
  have hcl:=rcut_len zs k j
  rcases Nat.lt_or_ge j zs.length with hlt | hge
  ·obtain ⟨z,hz⟩:∃ z,zs[j]? = some z:=⟨_,List.getElem?_eq_getElem hlt⟩
   obtain ⟨g,off,rfl,-,c0,-⟩:=(HH.out.below hb).at hz
   have HY:Hid (z≠k→A.cut (zs.take (j+1)) k=A.cut (zs.take j) k++[z]):=rcut_yes hz
   have HX:Hid (z=k→A.cut (zs.take (j+1)) k=A.cut (zs.take j) k):=fun e=>rcut_no (e ▸ hz)
   clear hz
   generalize A.cut (zs.take j) k=m at *
   by_cases he:z=k
   ·have hE:(z.toList==k.toList)=true:=by rw [bytes_beq,decide_eq_true he]
    have HE:=HX.out he
    have HF:Hid (A.cut (zs.take (j+1)) k=m):=HE
    clear HX HY he HE
    go_wp2_with fail
    go_roundw
    case rel=>exact ⟨j+1,a2,c2,hlt,by go_num,by rw [HF.out],by rw [HF.out];exact hrow,hb⟩
    case measure=>simp [intOf];omega
   ·have hE:(z.toList==k.toList)=false:=by rw [bytes_beq,decide_eq_false he]
    have HE:=HY.out he
    have HF:Hid (A.cut (zs.take (j+1)) k=m++[z]):=HE
    clear HX HY he HE
    go_wp2_with (at_builtin;go_must (refine wpList_append_row (ks:=[z]) rfl _ _ rfl rfl (hrow.below ((Below.refl _ wr).alloc (Nat.le_refl _) _)) rfl (src_one _ z) (by simp;omega) ?_);intro a3 c3 w3 hrow3 hk3;have hb3:Below w.heap.size w w3:=(hb.alloc hs _).trans (hk3.below (by simp;omega) (fun _ h=>h));have hrow3':Row (w.heap.size≤·) w3 a3 c3 (m++[z]):=rrow_old hrow3 (by simp;omega);clear hrow3 hk3)
    go_roundw
    case rel=>exact ⟨j+1,a3,c3,hlt,by go_num,by rw [HF.out];simp,by rw [HF.out];exact hrow3',hb3⟩
    case measure=>simp [intOf];omega
  ·have hj':j=zs.length:=by omega
   subst hj'
   rw [List.take_length] at *
   go_wp2_with fail
   go_ret
   exact ⟨_,_,rfl,hrow,hb⟩
end
end Go.Proofs.YtkkkkiejnmpdkaaGreatDoor.Twoq
namespace Go.Proofs.YtkkkkiejnmpdkaaGreatDoor.Twoq
open Go.RowKit
def eng (s:Stt) (a1:Option Addr) (c1:Nat) (a2:Option Addr) (c2:Nat) (a3:Option Addr) (c3:Nat):Array Value :=
 #[.slice a1 s.t1.length c1,.slice a2 s.b1.length c2,.slice a3 s.t2.length c3,.int .i64 (s.c:Nat)]
structure ReIn (D:Nat→Prop) (L:Nat→Nat) (w:World) (x:Nat) (s:Stt) (a1:Option Addr) (c1:Nat) (a2:Option Addr) (c2:Nat) (a3:Option Addr) (c3:Nat):Prop where
 dx:D x
 lx:L x=0
 top:w.heap[x]? = some (.cells (eng s a1 c1 a2 c2 a3 c3) 127 (0,0))
 r1:Row (fun g=>D g∧L g=1) w a1 c1 s.t1
 r2:Row (fun g=>D g∧L g=2) w a2 c2 s.b1
 r3:Row (fun g=>D g∧L g=3) w a3 c3 s.t2
def lab (L:Nat→Nat) (n i:Nat):Nat→Nat:=fun g=>if g<n then L g else i
theorem lab_old {L:Nat→Nat} {n i g:Nat} (h:g<n):lab L n i g=L g:=by simp [lab,h]
theorem lab_new {L:Nat→Nat} {n i g:Nat} (h:n≤g):lab L n i g=i:=by simp [lab,show ¬ g<n by omega]
section
variable {D D':Nat→Prop} {L:Nat→Nat} {w w':World} {x:Nat} {s:Stt} {a1 a2 a3 a:Option Addr} {c1 c2 c3 c:Nat} {zs:List ByteArray}
theorem ReIn.cells (H:ReIn D L w x s a1 c1 a2 c2 a3 c3) :
 w.cell? ⟨x,0,none⟩=some (.slice a1 s.t1.length c1)∧w.cell? ⟨x,1,none⟩=some (.slice a2 s.b1.length c2)∧w.cell? ⟨x,2,none⟩=some (.slice a3 s.t2.length c3)∧w.cell? ⟨x,3,none⟩=some (.int .i64 (s.c:Nat)):=by
 have h:=H.top
 refine ⟨?_,?_,?_,?_⟩ <;> (rw [cell_of_block h];rfl)
theorem ReIn.thaw (H:ReIn D L w x s a1 c1 a2 c2 a3 c3) :
 w.frozen? ⟨x,0,none⟩=false∧w.frozen? ⟨x,1,none⟩=false∧w.frozen? ⟨x,2,none⟩=false∧w.frozen? ⟨x,3,none⟩=false :=
 ⟨frozen_of_block H.top,frozen_of_block H.top,frozen_of_block H.top,frozen_of_block H.top⟩
theorem ReIn.kept (H:ReIn D L w x s a1 c1 a2 c2 a3 c3) (hk:Keeps D' w w') (hd:∀ k,D k→¬ D' k):ReIn D L w' x s a1 c1 a2 c2 a3 c3 :=
 ⟨H.dx,H.lx,(hk.block x (lt_of_block H.top) (hd _ H.dx)).trans H.top,H.r1.kept hk (fun k h=>hd k h.1),H.r2.kept hk (fun k h=>hd k h.1),H.r3.kept hk (fun k h=>hd k h.1)⟩
theorem ReIn.below (H:ReIn D L w x s a1 c1 a2 c2 a3 c3) (hb:Below w.heap.size w w'):ReIn D L w' x s a1 c1 a2 c2 a3 c3:=H.kept (D':=fun _=>False) (.of_below hb) (fun _ _ e=>e)
theorem ReIn.wide (H:ReIn D L w x s a1 c1 a2 c2 a3 c3) (hD:∀ k,k<w.heap.size→D k→D' k):ReIn D' L w x s a1 c1 a2 c2 a3 c3 :=
 ⟨hD _ (lt_of_block H.top) H.dx,H.lx,H.top,H.r1.wide (fun k a h=>⟨hD k a h.1,h.2⟩),H.r2.wide (fun k a h=>⟨hD k a h.1,h.2⟩),H.r3.wide (fun k a h=>⟨hD k a h.1,h.2⟩)⟩
theorem ReIn.put2 (H:ReIn D L w x s a1 c1 a2 c2 a3 c3) (hD:∀ k,w.heap.size≤k→D k) (hk:Keeps (fun g=>D g∧L g=2) w w') (hr:Row (fun g=>(D g∧L g=2)∨w.heap.size≤g) w' a c zs) :
 ReIn D (lab L w.heap.size 2) (w'.setCell ⟨x,1,none⟩ (.slice a zs.length c)) x { s with b1:=zs } a1 c1 a c a3 c3:=by
 have hxl:=lt_of_block H.top
 have lx:lab L w.heap.size 2 x=0:=by rw [lab_old hxl];exact H.lx
 have hx:Keeps (fun k=>k=x) w' (w'.setCell ⟨x,1,none⟩ (.slice a zs.length c)):=Keeps.setCell (D:=fun k=>k=x) (Keeps.refl _ w') (p:=⟨x,1,none⟩) rfl _
 have ne:∀ i':Nat,i'≠0→∀ k,(D k∧lab L w.heap.size 2 k=i')→¬ k=x:=fun i' hi k h e=>by subst e;omega
 have top:=(hk.block x hxl (fun h=>by have:=H.lx;omega)).trans H.top
 have hr2:Row (fun g=>D g∧lab L w.heap.size 2 g=2) (w'.setCell ⟨x,1,none⟩ (.slice a zs.length c)) a c zs:=(hr.wide (D':=fun g=>D g∧lab L w.heap.size 2 g=2) (fun g _ h=>by
  rcases Nat.lt_or_ge g w.heap.size with hg | hg
  ·rw [lab_old hg]
   rcases h with h | h
   ·exact h
   ·omega
  ·rw [lab_new hg]
   exact ⟨hD g hg,rfl⟩)).kept hx (ne 2 (by omega))
 exact ⟨H.dx,lx,by rw [block_setCell top];rfl,(((H.r1.wide (D':=fun g=>D g∧lab L w.heap.size 2 g=1) (fun g hg h=>⟨h.1,by rw [lab_old hg];exact h.2⟩)).kept2 hk (fun g hg h e=>by have:=e.2;rw [lab_old hg] at h;omega)).kept hx (ne 1 (by omega))),hr2,(((H.r3.wide (D':=fun g=>D g∧lab L w.heap.size 2 g=3) (fun g hg h=>⟨h.1,by rw [lab_old hg];exact h.2⟩)).kept2 hk (fun g hg h e=>by have:=e.2;rw [lab_old hg] at h;omega)).kept hx (ne 3 (by omega)))⟩
theorem ReIn.put3 (H:ReIn D L w x s a1 c1 a2 c2 a3 c3) (hD:∀ k,w.heap.size≤k→D k) (hk:Keeps (fun g=>D g∧L g=3) w w') (hr:Row (fun g=>(D g∧L g=3)∨w.heap.size≤g) w' a c zs) :
 ReIn D (lab L w.heap.size 3) (w'.setCell ⟨x,2,none⟩ (.slice a zs.length c)) x { s with t2:=zs } a1 c1 a2 c2 a c:=by
 have hxl:=lt_of_block H.top
 have lx:lab L w.heap.size 3 x=0:=by rw [lab_old hxl];exact H.lx
 have hx:Keeps (fun k=>k=x) w' (w'.setCell ⟨x,2,none⟩ (.slice a zs.length c)):=Keeps.setCell (D:=fun k=>k=x) (Keeps.refl _ w') (p:=⟨x,2,none⟩) rfl _
 have ne:∀ i':Nat,i'≠0→∀ k,(D k∧lab L w.heap.size 3 k=i')→¬ k=x:=fun i' hi k h e=>by subst e;omega
 have top:=(hk.block x hxl (fun h=>by have:=H.lx;omega)).trans H.top
 have hr2:Row (fun g=>D g∧lab L w.heap.size 3 g=3) (w'.setCell ⟨x,2,none⟩ (.slice a zs.length c)) a c zs:=(hr.wide (D':=fun g=>D g∧lab L w.heap.size 3 g=3) (fun g _ h=>by
  rcases Nat.lt_or_ge g w.heap.size with hg | hg
  ·rw [lab_old hg]
   rcases h with h | h
   ·exact h
   ·omega
  ·rw [lab_new hg]
   exact ⟨hD g hg,rfl⟩)).kept hx (ne 3 (by omega))
 exact ⟨H.dx,lx,by rw [block_setCell top];rfl,(((H.r1.wide (D':=fun g=>D g∧lab L w.heap.size 3 g=1) (fun g hg h=>⟨h.1,by rw [lab_old hg];exact h.2⟩)).kept2 hk (fun g hg h e=>by have:=e.2;rw [lab_old hg] at h;omega)).kept hx (ne 1 (by omega))),(((H.r2.wide (D':=fun g=>D g∧lab L w.heap.size 3 g=2) (fun g hg h=>⟨h.1,by rw [lab_old hg];exact h.2⟩)).kept2 hk (fun g hg h e=>by have:=e.2;rw [lab_old hg] at h;omega)).kept hx (ne 2 (by omega))),hr2⟩
theorem ReIn.still (H:ReIn D L w x s a1 c1 a2 c2 a3 c3) {i:Nat} (hi:i≠0) (hk:Keeps (fun g=>D g∧L g=i) w w') :
 (w'.cell? ⟨x,0,none⟩=some (.slice a1 s.t1.length c1)∧w'.cell? ⟨x,1,none⟩=some (.slice a2 s.b1.length c2)∧w'.cell? ⟨x,2,none⟩=some (.slice a3 s.t2.length c3)∧w'.cell? ⟨x,3,none⟩=some (.int .i64 (s.c:Nat))) ∧
 w'.frozen? ⟨x,0,none⟩=false∧w'.frozen? ⟨x,1,none⟩=false∧w'.frozen? ⟨x,2,none⟩=false∧w'.frozen? ⟨x,3,none⟩=false:=by
 have h:=(hk.block x (lt_of_block H.top) (fun e=>by have:=H.lx;omega)).trans H.top
 refine ⟨⟨?_,?_,?_,?_⟩,frozen_of_block h,frozen_of_block h,frozen_of_block h,frozen_of_block h⟩ <;> (rw [cell_of_block h];rfl)
end
def RE (x:Nat) (s:Stt) (D:Nat→Prop) (w:World):Prop:=∃ L a1 c1 a2 c2 a3 c3,ReIn D L w x s a1 c1 a2 c2 a3 c3
structure Small (s:Stt):Prop where
 l1:s.t1.length≤4100
 l2:s.b1.length≤4100
 l3:s.t2.length≤4100
 hc:s.c≤1024
theorem Small.of {s:Stt} (h:A.Ok s):Small s:=by
 have h1:=h.res;have h2:=h.out;have h3:=h.hi
 unfold A.kout at h2
 exact ⟨by omega,by omega,by omega,by omega⟩
section
variable {D D':Nat→Prop} {w w':World} {x:Nat} {s:Stt}
theorem RE.below (H:RE x s D w) (hb:Below w.heap.size w w'):RE x s D w':=by
 obtain ⟨L,a1,c1,a2,c2,a3,c3,h⟩:=H;exact ⟨L,a1,c1,a2,c2,a3,c3,h.below hb⟩
theorem RE.kept (H:RE x s D w) (hk:Keeps D' w w') (hd:∀ k,D k→¬ D' k):RE x s D w':=by
 obtain ⟨L,a1,c1,a2,c2,a3,c3,h⟩:=H;exact ⟨L,a1,c1,a2,c2,a3,c3,h.kept hk hd⟩
theorem RE.wide (H:RE x s D w) (hD:∀ k,k<w.heap.size→D k→D' k):RE x s D' w:=by
 obtain ⟨L,a1,c1,a2,c2,a3,c3,h⟩:=H;exact ⟨L,a1,c1,a2,c2,a3,c3,h.wide hD⟩
end
end Go.Proofs.YtkkkkiejnmpdkaaGreatDoor.Twoq
namespace Go.Proofs.YtkkkkiejnmpdkaaGreatDoor.Twoq
open Go.RowKit
section
variable {D D':Nat→Prop} {w w':World} {x:Nat} {s:Stt}
theorem rlen_any (H:RE x s D w) (hs:Small s):Calls Tryz.prog 127 #[.pointer (some ⟨x,0,none⟩)] w fun e w'=>e=.returned (.int .i64 ((A.keys s).length:Nat))∧∃ q,w'=w.drewN q:=by
 obtain ⟨L,a1,c1,a2,c2,a3,c3,H⟩:=H
 obtain ⟨d0,d1,d2,d3⟩:=H.cells
 have h1:=hs.l1
 have h2:=hs.l3
 rw [A.keys_length]
 generalize s.t1.length=n at *
 generalize s.t2.length=m at *
 clear H hs
 go_enter Tryz.func127,Tryz.ntmps127
 go_wp2_with fail
 go_quiet (fail)
 go_wp2_with fail
 go_ret
 exact ⟨ret_int (by omega),_,rfl⟩
theorem idx_false {zs:List ByteArray} {k:ByteArray} (h:k∉zs):decide (0≤idx zs k)=false:=by rw [idx_no h];decide
theorem idx_true {zs:List ByteArray} {k:ByteArray} (h:k∈zs):decide (0≤idx zs k)=true:=decide_eq_true (idx_mem h)
def inn (k:ByteArray) (zs:List ByteArray):Bool:=decide (0≤idx zs k)
theorem inn_yes {zs:List ByteArray} {k:ByteArray} (h:k∈zs):inn k zs=true:=idx_true h
theorem inn_no {zs:List ByteArray} {k:ByteArray} (h:k∉zs):inn k zs=false:=idx_false h
theorem inn_keys (s:Stt) (k:ByteArray):inn k (A.keys s)=(inn k s.t1 || inn k s.t2):=by
 by_cases h1:k∈s.t1
 ·rw [inn_yes h1,inn_yes (by simp [A.keys,h1])];rfl
 ·by_cases h2:k∈s.t2
  ·rw [inn_yes h2,inn_yes (by simp [A.keys,h2])];simp
  ·rw [inn_no h1,inn_no h2,inn_no (by simp [A.keys,h1,h2])];rfl
theorem rhas_key (H:RE x s D w) (hs:Small s) (k:ByteArray):Calls Tryz.prog 90 #[.pointer (some ⟨x,0,none⟩),.string k] w fun e w'=>e=.returned (.bool (inn k (A.keys s)))∧w'=w:=by
 obtain ⟨L,a1,c1,a2,c2,a3,c3,H⟩:=H
 obtain ⟨d0,d1,d2,d3⟩:=H.cells
 have e1:=rhas_any H.r1 (by have:=hs.l1;omega) k
 have e2:=rhas_any H.r3 (by have:=hs.l3;omega) k
 rw [inn_keys]
 by_cases h1:k∈s.t1
 ·have hi:=idx_mem h1
  rw [inn_yes h1]
  generalize idx s.t1 k=j1 at *
  clear H hs
  go_enter Tryz.func90,Tryz.ntmps90
  go_wp2_with (go_at_call 114;refine e1.mono ?_;rintro e w1 ⟨rfl,rfl⟩;clear e1)
  go_ret
  exact ⟨by simp,rfl⟩
 ·rw [inn_no h1]
  rw [idx_no h1] at e1
  unfold inn
  generalize idx s.t2 k=j2 at *
  clear H hs
  go_enter Tryz.func90,Tryz.ntmps90
  go_wp2_with (first | (go_at_call 114;refine e1.mono ?_;rintro e w1 ⟨rfl,rfl⟩;clear e1) | (go_at_call 114;refine e2.mono ?_;rintro e w2 ⟨rfl,rfl⟩;clear e2))
  go_ret
  exact ⟨by simp,rfl⟩
end
end Go.Proofs.YtkkkkiejnmpdkaaGreatDoor.Twoq
namespace Go.Proofs.YtkkkkiejnmpdkaaGreatDoor.Twoq
open Go.RowKit
section
variable {D D':Nat→Prop} {w w':World} {x:Nat} {s:Stt}
theorem eng_start (c:Nat) (v:Int) (h:v=c):some (Obj.cells #[.slice none 0 0,.slice none 0 0,.slice none 0 0,.int .i64 v] 127 (0,0))=some (Obj.cells (eng (A.start c) none 0 none 0 none 0) 127 (0,0)):=by
 subst h
 rfl
theorem rnew_any (r:Int) (hD:∀ k,w.heap.size≤k→D k) :
 Calls Tryz.prog 26 #[.int .i64 r] w fun e w'=>∃ x,e=.returned (.pointer (some ⟨x,0,none⟩))∧RE x (A.start (heldC r)) D w'∧Keeps D w w':=by
 have hc:((heldC r:Nat):Int)=min (max r 1) 1024:=by unfold heldC;omega
 go_enter Tryz.func26,Tryz.ntmps26
 go_wp2_with fail
 all_goals
  go_ret
  refine ⟨_,rfl,⟨fun g=>if g=w.heap.size then 0 else 1,none,0,none,0,none,0,hD _ (Nat.le_refl _),by simp,?_,Row.nil,Row.nil,Row.nil⟩,(Keeps.refl D w).alloc _⟩
  rw [heap_alloc_new]
  exact eng_start _ _ (by first | exact hc.symm | omega)
end
end Go.Proofs.YtkkkkiejnmpdkaaGreatDoor.Twoq
namespace Go.Proofs.YtkkkkiejnmpdkaaGreatDoor.Twoq
open Go.RowKit
section
variable {D D':Nat→Prop} {w w':World} {x:Nat} {s:Stt}
theorem rload_no (H:RE x s D w) (hs:Small s) (key:ByteArray) (hk:key∈A.keys s∨s.c≤(A.keys s).length) :
 Calls Tryz.prog 75 #[.pointer (some ⟨x,0,none⟩),.string key] w fun e w'=>e=.returned (.bool false)∧∃ q,w'=w.drewN q:=by
 have hh:=fun q=>rhas_key (H.below (below_drewN (Below.refl _ w) q)) hs key
 have hlen:=fun q=>rlen_any (H.below (below_drewN (Below.refl _ w) q)) hs
 obtain ⟨L,a1,c1,a2,c2,a3,c3,H⟩:=H
 obtain ⟨d0,d1,d2,d3⟩:=H.cells
 have hhi:=hs.hc
 by_cases h1:key∈A.keys s
 ·rw [inn_yes h1] at hh
  clear H hs
  go_enter Tryz.func75,Tryz.ntmps75
  go_wp2_with fail
  go_quiet (first | (go_at_call 90;refine Calls.quiet_of_same (hh _)) | (go_at_call 127;refine Calls.quiet_of (hlen _)))
  go_wp2_with fail
  go_ret
  exact ⟨rfl,_,rfl⟩
 ·rw [inn_no h1] at hh
  have h2:s.c≤(A.keys s).length:=by rcases hk with h | h;exact absurd h h1;exact h
  generalize (A.keys s).length=n at *
  generalize s.c=c at *
  have hd:decide ((c:Int)≤(n:Int))=true:=decide_eq_true (by omega)
  clear H hs
  go_enter Tryz.func75,Tryz.ntmps75
  go_wp2_with fail
  go_quiet (first | (go_at_call 90;refine Calls.quiet_of_same (hh _)) | (go_at_call 127;refine Calls.quiet_of (hlen _)))
  go_wp2_with fail
  go_ret
  exact ⟨rfl,_,rfl⟩
set_option maxRecDepth 100000 in
set_option maxHeartbeats 2000000 in
theorem rload_yes (H:RE x s D w) (hok:A.Ok s) (hD:∀ k,w.heap.size≤k→D k) (key:ByteArray) (hk:key∉A.keys s) (hl:(A.keys s).length<s.c) :
 Calls Tryz.prog 75 #[.pointer (some ⟨x,0,none⟩),.string key] w fun e w'=>e=.returned (.bool true)∧RE x (A.again (A.noGhost s key) key) D w'∧Keeps D w w':=by
 have hs:=Small.of hok
 have hh:=fun q=>rhas_key (H.below (below_drewN (Below.refl _ w) q)) hs key
 have hlen:=fun q=>rlen_any (H.below (below_drewN (Below.refl _ w) q)) hs
 have HD:Hid (∀ k,w.heap.size≤k→D k):=hD
 rw [inn_no hk] at hh
 obtain ⟨L,a1,c1,a2,c2,a3,c3,H⟩:=H
 have HE:Hid (∀ q,ReIn D L (w.drewN q) x s a1 c1 a2 c2 a3 c3):=fun q=>H.below (below_drewN (Below.refl _ w) q)
 obtain ⟨d0,d1,d2,d3⟩:=H.cells
 have hhi:=hs.hc
 have hl3:=hs.l3
 have hcut:=fun q=>rcut_any (H.below (below_drewN (Below.refl _ w) q)).r2 (by have:=hs.l2;omega) key
 have HCut:Hid (∀ q,Calls Tryz.prog 115 #[.slice a2 s.b1.length c2,.string key] (w.drewN q) fun e w'=>∃ ad' cap',e=.returned (.slice ad' (A.cut s.b1 key).length cap')∧Row ((w.drewN q).heap.size≤·) w' ad' cap' (A.cut s.b1 key)∧Below (w.drewN q).heap.size (w.drewN q) w'):=hcut
 obtain ⟨n,hn⟩:∃ n,n=(A.keys s).length:=⟨_,rfl⟩
 rw [← hn] at hl hlen
 obtain ⟨c,hcc⟩:∃ c,c=s.c:=⟨_,rfl⟩
 rw [← hcc] at d3 hl hhi
 have hd:decide ((c:Int)≤(n:Int))=false:=decide_eq_false (by omega)
 clear H hs hcut hD hok hn hcc
 go_enter Tryz.func75,Tryz.ntmps75
 go_wp2_with fail
 go_quiet (first | (go_at_call 90;refine Calls.quiet_of_same (hh _)) | (go_at_call 127;refine Calls.quiet_of (hlen _)))
 go_wp2_with (first
  | (go_at_call 115;refine Calls.mono (HCut.out _) ?_;rintro e w5 ⟨ad5,cp5,rfl,hr5,hb5⟩;have HE5:=((HE.out _).below hb5);obtain ⟨p0,p1,p2,p3⟩:=HE5.cells;obtain ⟨t0,t1,t2,t3⟩:=HE5.thaw;have H6:Hid (ReIn D _ (w5.setCell ⟨x,1,none⟩ (.slice ad5 (A.cut s.b1 key).length cp5)) x (A.noGhost s key) a1 c1 ad5 cp5 a3 c3):=((HE.out _).put2 HD.out (Keeps.of_below hb5) (hr5.wide (fun _ _ h=>.inr h)));have HK6:Hid (Keeps D w (w5.setCell ⟨x,1,none⟩ (.slice ad5 (A.cut s.b1 key).length cp5))):=(((Keeps.of_below (below_drewN (Below.refl _ w) _)).trans (Keeps.of_below hb5)).setCell (p:=⟨x,1,none⟩) (HE.out 0).dx _);clear hr5 hb5 HE5)
  | (at_builtin;go_must (refine wpList_append_row (ks:=[key]) rfl _ _ rfl rfl (H6.out.r3.below ((Below.refl _ _).alloc (Nat.le_refl _) _)) rfl (src_at key (by simp [World.setCell])) (by simp;omega) ?_);intro a7 n7 w7 hr7 hk7;obtain ⟨⟨x0,x1,x2,x3⟩,y0,y1,y2,y3⟩:=(H6.out.below ((Below.refl _ _).alloc (Nat.le_refl _) _)).still (by omega) hk7;have H7:Hid (ReIn D _ (w7.setCell ⟨x,2,none⟩ (.slice a7 (s.t2++[key]).length n7)) x (A.again (A.noGhost s key) key) a1 c1 ad5 cp5 a7 n7):=((H6.out.below ((Below.refl _ _).alloc (Nat.le_refl _) _)).put3 (fun k h=>HD.out k (Nat.le_trans (Nat.le_trans HK6.out.size (by simp)) h)) hk7 hr7);have HK7:Hid (Keeps D w (w7.setCell ⟨x,2,none⟩ (.slice a7 (s.t2++[key]).length n7))):=(((HK6.out.alloc _).trans (hk7.mono (fun _ _ h=>h.1))).setCell (p:=⟨x,2,none⟩) (HE.out 0).dx _);clear hr7 hk7))
 go_ret
 rw [List.length_append,List.length_cons,List.length_nil] at H7 HK7
 exact ⟨rfl,⟨_,_,_,_,_,_,_,H7.out⟩,HK7.out⟩
theorem rload_any (H:RE x s D w) (hok:A.Ok s) (hD:∀ k,w.heap.size≤k→D k) (key:ByteArray) :
 Calls Tryz.prog 75 #[.pointer (some ⟨x,0,none⟩),.string key] w fun e w'=>e=.returned (.bool (A.load s key).1)∧RE x (A.load s key).2 D w'∧Keeps D w w':=by
 by_cases hk:key∈A.keys s∨s.c≤(A.keys s).length
 ·rw [A.load_no hk]
  refine (rload_no H (Small.of hok) key hk).mono ?_
  rintro e w' ⟨rfl,q,rfl⟩
  exact ⟨rfl,H.below (below_drewN (Below.refl _ w) q),.of_below (below_drewN (Below.refl _ w) q)⟩
 ·have e0:A.load s key=(true,A.again (A.noGhost s key) key):=by
   unfold A.load
   rw [if_neg hk]
  rw [e0]
  exact rload_yes H hok hD key (fun h=>hk (.inl h)) (by rcases Nat.lt_or_ge (A.keys s).length s.c with h | h;exact h;exact absurd (.inr h) hk)
end
end Go.Proofs.YtkkkkiejnmpdkaaGreatDoor.Twoq
namespace Go.Proofs.YtkkkkiejnmpdkaaGreatDoor.Twoq
open Go.RowKit
section
variable {D D':Nat→Prop} {w w':World} {x:Nat} {s:Stt}
set_option maxHeartbeats 2000000 in
theorem rkeys_any (H:RE x s D w) (hs:Small s) :
 Calls Tryz.prog 41 #[.pointer (some ⟨x,0,none⟩)] w fun e w'=>∃ ad cap,e=.returned (.slice ad (A.keys s).length cap)∧Row (w.heap.size≤·) w' ad cap (A.keys s)∧Below w.heap.size w w':=by
 obtain ⟨L,a1,c1,a2,c2,a3,c3,H⟩:=H
 obtain ⟨d0,d1,d2,d3⟩:=H.cells
 have l1:=hs.l1
 have l2:=hs.l3
 have hx:=lt_of_block H.top
 have HC:Hid (∀ W,Below w.heap.size w W→W.cell? ⟨x,0,none⟩=some (.slice a1 s.t1.length c1)∧W.cell? ⟨x,2,none⟩=some (.slice a3 s.t2.length c3)):=fun W hb=>by
  obtain ⟨p0,p1,p2,p3⟩:=(H.below hb).cells
  exact ⟨p0,p2⟩
 have HH:Hid _:=H
 clear H hs
 go_enter Tryz.func41,Tryz.ntmps41
 go_wp2_with fail
 go_region_held3 (fun w'=>w'.cell? ⟨x,0,none⟩=some (.slice a1 s.t1.length c1)∧w'.cell? ⟨x,2,none⟩=some (.slice a3 s.t2.length c3)) (first | exact q6 | exact q5 | exact HC.out _ (by first | exact (Below.refl _ _).drew | exact ((Below.refl _ _).alloc (Nat.le_refl _) _).drew | exact ((Below.refl _ _).drew).alloc (Nat.le_refl _) _) | go_keep)
  (first
  | (refine step_append_row (D:=fun g=>w.heap.size≤g) (zs:=[]) (ks:=s.t1) (by rfl) _ _ (by rfl) (by rfl) (Row.bare _) (by rfl) ((HH.out.r1.below (by first | exact ((Below.refl _ _).alloc (Nat.le_refl _) _).drew | exact ((Below.refl _ _).drew).alloc (Nat.le_refl _) _)).src) (by simp;omega) ?_
     intro a5 n5 w5 hr5 hk5
     rw [List.nil_append] at hr5
     have hb5:Below w.heap.size w w5:=by first | exact (((Below.refl _ w).alloc (Nat.le_refl _) _).drew).trans (hk5.below (by show w.heap.size≤(w.alloc _).heap.size;simp) (fun _ h=>h)) | exact (((Below.refl _ w).drew).alloc (Nat.le_refl _) _).trans (hk5.below (by simp) (fun _ h=>h))
     have hs5:=hb5.size
     replace hr5:=rrow_old hr5 (by first | (show w.heap.size≤(w.alloc _).heap.size;simp) | simp)
     have q5:=HC.out _ hb5
     simp only [List.length_nil,Nat.zero_add])
  | (refine step_append_row (D:=fun g=>w.heap.size≤g) (zs:=s.t1) (ks:=s.t2) (by rfl) _ _ (by rfl) (by rfl) hr5 (by rfl) ((HH.out.r3.below hb5).src) (by omega) ?_
     intro a6 n6 w6 hr6 hk6
     have hb6:Below w.heap.size w w6:=hb5.trans (hk6.below hs5 (fun _ h=>h))
     replace hr6:=rrow_old hr6 hs5
     have q6:=HC.out _ hb6))
 go_wp2_with fail
 go_ret
 rw [A.keys_length]
 exact ⟨_,_,rfl,hr6,hb6⟩
end
def txt (nm:ByteArray) (zs:List ByteArray):ByteArray:=zs.foldl (fun t z=>t++⟨#[32]⟩++z) (nm++⟨#[58]⟩)
theorem txt_snoc (nm:ByteArray) (zs:List ByteArray) (z:ByteArray):txt nm (zs++[z])=txt nm zs++⟨#[32]⟩++z:=by simp [txt]
theorem size_snoc (a b:ByteArray):(a++b).size=a.size+b.size:=by simp
theorem txt_size (nm:ByteArray):∀ (zs:List ByteArray),(∀ z∈zs,z.size≤1000)→(txt nm zs).size≤nm.size+1+1001*zs.length:=by
 intro zs
 suffices h:∀ (t:ByteArray),(∀ z∈zs,z.size≤1000)→(zs.foldl (fun t z=>t++⟨#[32]⟩++z) t).size≤t.size+1001*zs.length by
  intro hz
  have h2:=h (nm++⟨#[58]⟩) hz
  rw [size_snoc] at h2
  exact h2
 induction zs with
 | nil=>intro t _;simp
 | cons a l ih =>
   intro t hz
   rw [List.foldl_cons]
   have h1:=ih (t++⟨#[32]⟩++a) (fun z h=>hz z (List.mem_cons_of_mem _ h))
   have h2:=hz a List.mem_cons_self
   rw [size_snoc,size_snoc] at h1
   have h3:(⟨#[32]⟩:ByteArray).size=1:=rfl
   rw [List.length_cons]
   omega
section
variable {D D':Nat→Prop} {w w':World} {ad:Option Addr} {cap:Nat} {zs:List ByteArray}
set_option maxHeartbeats 1000000 in
theorem rtext_any (H:Row D w ad cap zs) (hn:zs.length≤10000) (hz:∀ z∈zs,z.size≤1000) (nm:ByteArray) (hnm:nm.size≤100) :
 Calls Tryz.prog 95 #[.string nm,.slice ad zs.length cap] w fun e w'=>e=.returned (.string (txt nm zs))∧w'=w:=by
 have HH:Hid (Row D w ad cap zs):=H
 have HZ:Hid (∀ z∈zs,z.size≤1000):=hz
 clear H hz
 go_enter Tryz.func95,Tryz.ntmps95
 go_wp2
 go_loop [5,6] (fun t i=>∃ j:Nat,j≤zs.length∧i=.int .i64 j∧t=.string (txt nm (zs.take j))) (fun _ i=>zs.length - (intOf i).toNat)
 case atStart=>exact ⟨0,Nat.zero_le _,rfl,rfl⟩
 case round =>
  obtain ⟨j,hj,rfl,rfl⟩:=hrel
  rcases Nat.lt_or_ge j zs.length with hlt | hge
  ·obtain ⟨z,hz⟩:∃ z,zs[j]? = some z:=⟨_,List.getElem?_eq_getElem hlt⟩
   obtain ⟨g,off,rfl,-,c0,-⟩:=HH.out.at hz
   have hzs:=HZ.out z (List.mem_of_getElem? hz)
   have hts:=txt_size nm (zs.take j) (fun y hy=>HZ.out y (List.mem_of_mem_take hy))
   have htl:(zs.take j).length≤10000:=by simp;omega
   have HS:Hid (txt nm (zs.take (j+1))=txt nm (zs.take j)++⟨#[32]⟩++z):=by
    show txt nm (zs.take (j+1))=_
    rw [List.take_add_one,hz]
    exact txt_snoc _ _ _
   clear hz
   generalize txt nm (zs.take j)=t at *
   have ht:t.size≤20000000:=by omega
   clear hts htl
   go_wp2
   go_round
   case rel=>exact ⟨j+1,hlt,by go_num,by rw [HS.out]⟩
   case measure=>simp [intOf];omega
  ·have hj':j=zs.length:=by omega
   subst hj'
   go_wp2
   go_ret
   exact ⟨rfl,rfl⟩
end
theorem bytes_app (a b:ByteArray):(a++b).data.toList=a.data.toList++b.data.toList:=by simp
theorem txt_bytes (nm:ByteArray):∀ (zs:List ByteArray),(txt nm zs).data.toList=nm.data.toList++[58]++rowB zs:=by
 intro zs
 unfold txt
 suffices h:∀ (t:ByteArray),(zs.foldl (fun t z=>t++⟨#[32]⟩++z) t).data.toList=t.data.toList++rowB zs by
  rw [h,bytes_app]
 induction zs with
 | nil=>intro t;simp [rowB]
 | cons z l ih =>
   intro t
   rw [List.foldl_cons,ih,bytes_app,bytes_app]
   simp [rowB]
def stT (s:Stt):ByteArray:=txt ⟨#[65,49,105,110]⟩ s.t1++⟨#[59]⟩++txt ⟨#[65,49,111,117,116]⟩ s.b1++⟨#[59]⟩++txt ⟨#[65,109]⟩ s.t2
theorem stT_eq (s:Stt):stT s=⟨(stB (qs s) 3).toArray⟩:=by
 have h:(stT s).data.toList=stB (qs s) 3:=by
  unfold stT
  simp only [bytes_app,txt_bytes]
  simp [stB,List.range,List.range.loop,oneB,nameB,qs]
 rw [← h]
section
variable {D D':Nat→Prop} {w w':World} {x:Nat} {s:Stt}
set_option maxRecDepth 20000 in
set_option maxHeartbeats 2000000 in
theorem rstate_any (H:RE x s D w) (hs:Small s) (hz:∀ k,k∈s.t1∨k∈s.t2∨k∈s.b1→k.size≤1000) :
 Calls Tryz.prog 36 #[.pointer (some ⟨x,0,none⟩)] w fun e w'=>e=.returned (.string (stT s))∧Below w.heap.size w w':=by
 obtain ⟨L,a1,c1,a2,c2,a3,c3,H⟩:=H
 obtain ⟨d0,d1,d2,d3⟩:=H.cells
 have l1:=hs.l1
 have l2:=hs.l2
 have l3:=hs.l3
 have t1:=fun (_:Unit)=>rtext_any (H.below ((Below.refl _ w)).drew).r1 (by omega) (fun z h=>hz z (.inl h)) ⟨#[65,49,105,110]⟩ (by decide)
 have t2:=fun (_:Unit)=>rtext_any (H.below ((Below.refl _ w)).drew).r2 (by omega) (fun z h=>hz z (.inr (.inr h))) ⟨#[65,49,111,117,116]⟩ (by decide)
 have t3:=fun (_:Unit)=>rtext_any (H.below ((Below.refl _ w)).drew).r3 (by omega) (fun z h=>hz z (.inr (.inl h))) ⟨#[65,109]⟩ (by decide)
 have z1:=txt_size ⟨#[65,49,105,110]⟩ s.t1 (fun z h=>hz z (.inl h))
 have z2:=txt_size ⟨#[65,49,111,117,116]⟩ s.b1 (fun z h=>hz z (.inr (.inr h)))
 have z3:=txt_size ⟨#[65,109]⟩ s.t2 (fun z h=>hz z (.inr (.inl h)))
 have e1:(⟨#[65,49,105,110]⟩:ByteArray).size=4:=rfl
 have e2:(⟨#[65,49,111,117,116]⟩:ByteArray).size=5:=rfl
 have e3:(⟨#[65,109]⟩:ByteArray).size=2:=rfl
 unfold stT
 generalize txt ⟨#[65,49,105,110]⟩ s.t1=x1 at *
 generalize txt ⟨#[65,49,111,117,116]⟩ s.b1=x2 at *
 generalize txt ⟨#[65,109]⟩ s.t2=x3 at *
 have y1:x1.size≤5000000:=by omega
 have y2:x2.size≤5000000:=by omega
 have y3:x3.size≤5000000:=by omega
 clear z1 z2 z3 e1 e2 e3 H hs hz
 have sz:(⟨#[59]⟩:ByteArray).size=1:=rfl
 have p1:∀ W:World,(Op.stringOp .add x1 (⟨#[59]⟩:ByteArray)).run Tryz.prog W=.ok (.string (x1++(⟨#[59]⟩:ByteArray))) W:=fun W=>run_string_add_sum W _ _ (by omega)
 have s1:(x1++(⟨#[59]⟩:ByteArray)).size≤5000001:=by rw [size_snoc];omega
 generalize hc1:x1++(⟨#[59]⟩:ByteArray)=c1' at *
 have p2:∀ W:World,(Op.stringOp .add c1' x2).run Tryz.prog W=.ok (.string (c1'++x2)) W:=fun W=>run_string_add_sum W _ _ (by omega)
 have s2:(c1'++x2).size≤10000001:=by rw [size_snoc];omega
 generalize hc2:c1'++x2=c2' at *
 have p3:∀ W:World,(Op.stringOp .add c2' (⟨#[59]⟩:ByteArray)).run Tryz.prog W=.ok (.string (c2'++(⟨#[59]⟩:ByteArray))) W:=fun W=>run_string_add_sum W _ _ (by omega)
 have s3:(c2'++(⟨#[59]⟩:ByteArray)).size≤10000002:=by rw [size_snoc];omega
 generalize hc3:c2'++(⟨#[59]⟩:ByteArray)=c3' at *
 have p4:∀ W:World,(Op.stringOp .add c3' x3).run Tryz.prog W=.ok (.string (c3'++x3)) W:=fun W=>run_string_add_sum W _ _ (by omega)
 generalize hc4:c3'++x3=c4' at *
 clear hc1 hc2 hc3 hc4 s1 s2 s3 sz y1 y2 y3
 go_enter Tryz.func36,Tryz.ntmps36
 go_wp2_with fail
 go_region_held3 (fun w'=>w'.cell? ⟨x,0,none⟩=some (.slice a1 s.t1.length c1)∧w'.cell? ⟨x,1,none⟩=some (.slice a2 s.b1.length c2)∧w'.cell? ⟨x,2,none⟩=some (.slice a3 s.t2.length c3)) (first | exact ⟨d0,d1,d2⟩ | go_keep)
  (first
  | (go_at_call 95;refine (t1 ()).mono ?_;clear t1;rintro e w1 ⟨rfl,rfl⟩)
  | (go_at_call 95;refine (t2 ()).mono ?_;clear t2;rintro e w1 ⟨rfl,rfl⟩)
  | (go_at_call 95;refine (t3 ()).mono ?_;clear t3;rintro e w1 ⟨rfl,rfl⟩))
 all_goals
  go_wp2_with fail
  go_ret
  exact ⟨rfl,(Below.refl _ _).drew⟩
end
end Go.Proofs.YtkkkkiejnmpdkaaGreatDoor.Twoq
