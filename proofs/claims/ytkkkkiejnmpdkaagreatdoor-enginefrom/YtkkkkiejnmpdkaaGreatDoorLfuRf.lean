/- Lfu Rf: Rfa Rfb Rfc Rfe Rfl Rfm Af -/
import Derived.Test.YtkkkkiejnmpdkaaGreatDoorTx
import Derived.Test.YtkkkkiejnmpdkaaGreatDoorLfuPu
import Derived.Test.YtkkkkiejnmpdkaaGreatDoorLfuRk
import Derived.Test.YtkkkkiejnmpdkaaGreatDoorLfuEu
import Derived.Test.YtkkkkiejnmpdkaaGreatDoorAg
import Derived.Test.YtkkkkiejnmpdkaaGreatDoorLfuEo
import Derived.StillTail
import Derived.WalkKit
import Derived.Deep.LoopGhost
import Derived.Laws.Concat
import Derived.Deep.Upon
namespace Go.Proofs.YtkkkkiejnmpdkaaGreatDoor.Lfu
open Go.RowKit
theorem bytes_beq (x y:ByteArray):(x.toList==y.toList)=decide (x=y):=by
 by_cases h:x=y
 ·subst h;simp
 ·have:¬ x.toList=y.toList:=by
   intro e
   rw [ByteArray.toList_eq,ByteArray.toList_eq] at e
   apply h
   cases x
   cases y
   congr
   exact Array.toList_inj.1 e
  simp [h,this]
def idx (zs:List ByteArray) (k:ByteArray):Int:=match zs.findIdx? (fun z=>decide (z=k)) with
 | some i=>(i:Nat)
 | none=>-1
theorem idx_yes {zs:List ByteArray} {k:ByteArray} {i:Nat} (h:zs[i]? = some k) (hn:∀ j,j<i→zs[j]?≠some k):idx zs k=(i:Nat):=by
 have hi:=lt_of_at h
 have:zs.findIdx? (fun z=>decide (z=k))=some i:=by
  rw [List.findIdx?_eq_some_iff_getElem]
  refine ⟨hi,?_,?_⟩
  ·rw [List.getElem?_eq_getElem hi] at h
   simpa using h
  ·intro j hj
   have:=hn j hj
   rw [List.getElem?_eq_getElem (by omega)] at this
   simpa using this
 unfold idx
 rw [this]
theorem idx_no {zs:List ByteArray} {k:ByteArray} (h:k∉zs):idx zs k = -1:=by
 have:zs.findIdx? (fun z=>decide (z=k))=none:=by
  rw [List.findIdx?_eq_none_iff]
  intro z hz
  simp
  rintro rfl
  exact h hz
 unfold idx
 rw [this]
theorem idx_mem {zs:List ByteArray} {k:ByteArray} (h:k∈zs):0≤idx zs k:=by
 have:(zs.findIdx? (fun z=>decide (z=k))).isSome=true:=by
  rw [List.findIdx?_isSome]
  simpa using h
 obtain ⟨i,hi⟩:=Option.isSome_iff_exists.1 this
 unfold idx
 rw [hi]
 simp
theorem rrow_old {B:Nat} {w w':World} {ad:Option Addr} {cap:Nat} {zs:List ByteArray} (h:Row (fun g=>B≤g∨w.heap.size≤g) w' ad cap zs) (hB:B≤w.heap.size):Row (B≤·) w' ad cap zs:=h.wide (fun g _ h=>by
 show B≤g
 rcases h with h | h
 ·exact h
 ·omega)
section
variable {D:Nat→Prop} {w:World} {ad:Option Addr} {cap:Nat} {zs:List ByteArray}
set_option maxHeartbeats 1000000 in
theorem rhas_any (H:Row D w ad cap zs) (hn:zs.length≤1000000) (k:ByteArray) :
 Calls Tryz.prog 118 #[.slice ad zs.length cap,.string k] w fun e w'=>e=.returned (.int .i64 (idx zs k))∧w'=w:=by
 have HH:Hid (Row D w ad cap zs):=H
 clear H
 go_enter Tryz.func118,Tryz.ntmps118
 go_wp2
 go_loop [5] (fun i=>∃ j:Nat,j≤zs.length∧i=.int .i64 j∧Hid (∀ m,m<j→zs[m]?≠some k)) (fun i=>zs.length - (intOf i).toNat)
 case atStart=>exact ⟨0,Nat.zero_le _,rfl,fun m hm=>by omega⟩
 case round =>
  obtain ⟨j,hj,rfl,hno⟩:=hrel
  rcases Nat.lt_or_ge j zs.length with hlt | hge
  ·obtain ⟨z,hz⟩:∃ z,zs[j]? = some z:=⟨_,List.getElem?_eq_getElem hlt⟩
   obtain ⟨g,off,rfl,-,c0,-⟩:=HH.out.at hz
   have HZ:Hid (zs[j]? = some z):=hz
   clear hz
   by_cases he:z=k
   ·have hE:(z.toList==k.toList)=true:=by rw [bytes_beq,decide_eq_true he]
    have HE:Hid (z=k):=he
    clear he
    go_wp2
    go_ret
    exact ⟨ret_int (idx_yes (by rw [← HE.out];exact HZ.out) hno.out).symm,rfl⟩
   ·have hE:(z.toList==k.toList)=false:=by rw [bytes_beq,decide_eq_false he]
    have HE:Hid (¬ z=k):=he
    clear he
    go_wp2
    go_round
    case rel =>
     refine ⟨j+1,hlt,by go_num,fun m hm=>?_⟩
     rcases Nat.lt_or_ge m j with h | h
     ·exact hno.out m h
     ·rw [show m=j by omega,HZ.out]
      exact fun e=>HE.out (by cases e;rfl)
    case measure=>simp [intOf];omega
  ·have hj':j=zs.length:=by omega
   subst hj'
   go_wp2
   go_ret
   refine ⟨ret_int (idx_no (fun hm=>?_)).symm,rfl⟩
   obtain ⟨m,hm1,hm2⟩:=List.getElem_of_mem hm
   exact hno.out m hm1 (by rw [List.getElem?_eq_getElem hm1,hm2])
end
end Go.Proofs.YtkkkkiejnmpdkaaGreatDoor.Lfu
namespace Go.Proofs.YtkkkkiejnmpdkaaGreatDoor.Lfu
open Go.RowKit
theorem RkAt.wide {p N s:Nat} {c:Nat→Nat} {D D':Nat→Prop} {w:World} (h:Sk.RF p N c s D w) (hD:∀ k,k<w.heap.size→D k→D' k):Sk.RF p N c s D' w:=by
 obtain ⟨f,g,h⟩:=h
 exact ⟨f,g,h.narrow.wide (fun k e=>hD k e.2 e.1)⟩
theorem RkAt.keep {p N s:Nat} {c:Nat→Nat} {D D':Nat→Prop} {w w':World} (h:Sk.RF p N c s D w) (hk:Keeps D' w w') (hd:∀ k,k<w.heap.size→D k→¬ D' k):Sk.RF p N c s D w':=by
 obtain ⟨f,g,h⟩:=h
 exact ⟨f,g,(h.narrow.kept hk (fun k e=>hd k e.2 e.1)).wide (fun k e=>e.1)⟩
theorem RdAt.wide {p K:Nat} {b:Nat→Bool} {D D':Nat→Prop} {w:World} (h:Dr.RF p K b D w) (hD:∀ k,k<w.heap.size→D k→D' k):Dr.RF p K b D' w:=by
 obtain ⟨f,g,h⟩:=h
 exact ⟨f,g,h.narrow.wide (fun k e=>hD k e.2 e.1)⟩
theorem RdAt.keep {p K:Nat} {b:Nat→Bool} {D D':Nat→Prop} {w w':World} (h:Dr.RF p K b D w) (hk:Keeps D' w w') (hd:∀ k,k<w.heap.size→D k→¬ D' k):Dr.RF p K b D w':=by
 obtain ⟨f,g,h⟩:=h
 exact ⟨f,g,(h.narrow.kept hk (fun k e=>hd k e.2 e.1)).wide (fun k e=>e.1)⟩
def eng (y:Dk) (s:Stt) (a1:Option Addr) (c1:Nat) (a2:Option Addr) (c2:Nat) (a3:Option Addr) (c3:Nat):Array Value :=
 #[.slice a1 s.t1.length c1,.slice a2 s.b1.length c2,.slice a3 s.t2.length c3,.pointer (some ⟨y.pk,0,none⟩),.pointer (some ⟨y.pd,0,none⟩),.int .i64 (s.c:Nat)]
structure ReIn (D:Nat→Prop) (L:Nat→Nat) (w:World) (x:Nat) (y:Dk) (s:Stt) (a1:Option Addr) (c1:Nat) (a2:Option Addr) (c2:Nat) (a3:Option Addr) (c3:Nat):Prop where
 dx:D x
 lx:L x=0
 top:w.heap[x]? = some (.cells (eng y s a1 c1 a2 c2 a3 c3) 133 (0,0))
 r1:Row (fun g=>D g∧L g=1) w a1 c1 s.t1
 r2:Row (fun g=>D g∧L g=2) w a2 c2 s.b1
 r3:Row (fun g=>D g∧L g=3) w a3 c3 s.t2
 rk:Sk.RF y.pk y.N y.ct y.sm (fun g=>D g∧L g=5) w
 rd:Dr.RF y.pd y.K y.bs (fun g=>D g∧L g=6) w
def lab (L:Nat→Nat) (n i:Nat):Nat→Nat:=fun g=>if g<n then L g else i
theorem lab_old {L:Nat→Nat} {n i g:Nat} (h:g<n):lab L n i g=L g:=by simp [lab,h]
theorem lab_new {L:Nat→Nat} {n i g:Nat} (h:n≤g):lab L n i g=i:=by simp [lab,show ¬ g<n by omega]
section
variable {D D':Nat→Prop} {L:Nat→Nat} {w w':World} {x:Nat} {y:Dk} {s:Stt} {a1 a2 a3 a:Option Addr} {c1 c2 c3 c:Nat} {zs:List ByteArray}
theorem ReIn.cells (H:ReIn D L w x y s a1 c1 a2 c2 a3 c3) :
 w.cell? ⟨x,0,none⟩=some (.slice a1 s.t1.length c1)∧w.cell? ⟨x,1,none⟩=some (.slice a2 s.b1.length c2)∧w.cell? ⟨x,2,none⟩=some (.slice a3 s.t2.length c3)∧w.cell? ⟨x,5,none⟩=some (.int .i64 (s.c:Nat))∧w.cell? ⟨x,3,none⟩=some (.pointer (some ⟨y.pk,0,none⟩))∧w.cell? ⟨x,4,none⟩=some (.pointer (some ⟨y.pd,0,none⟩)):=by
 have h:=H.top
 refine ⟨?_,?_,?_,?_,?_,?_⟩ <;> (rw [cell_of_block h];rfl)
theorem ReIn.kept (H:ReIn D L w x y s a1 c1 a2 c2 a3 c3) (hk:Keeps D' w w') (hd:∀ k,D k→¬ D' k):ReIn D L w' x y s a1 c1 a2 c2 a3 c3 :=
 ⟨H.dx,H.lx,(hk.block x (lt_of_block H.top) (hd _ H.dx)).trans H.top,H.r1.kept hk (fun k h=>hd k h.1),H.r2.kept hk (fun k h=>hd k h.1),H.r3.kept hk (fun k h=>hd k h.1),RkAt.keep H.rk hk (fun k _ h=>hd k h.1),RdAt.keep H.rd hk (fun k _ h=>hd k h.1)⟩
theorem ReIn.below (H:ReIn D L w x y s a1 c1 a2 c2 a3 c3) (hb:Below w.heap.size w w'):ReIn D L w' x y s a1 c1 a2 c2 a3 c3:=H.kept (D':=fun _=>False) (.of_below hb) (fun _ _ e=>e)
theorem ReIn.wide (H:ReIn D L w x y s a1 c1 a2 c2 a3 c3) (hD:∀ k,k<w.heap.size→D k→D' k):ReIn D' L w x y s a1 c1 a2 c2 a3 c3 :=
 ⟨hD _ (lt_of_block H.top) H.dx,H.lx,H.top,H.r1.wide (fun k a h=>⟨hD k a h.1,h.2⟩),H.r2.wide (fun k a h=>⟨hD k a h.1,h.2⟩),H.r3.wide (fun k a h=>⟨hD k a h.1,h.2⟩),RkAt.wide H.rk (fun k a h=>⟨hD k a h.1,h.2⟩),RdAt.wide H.rd (fun k a h=>⟨hD k a h.1,h.2⟩)⟩
theorem ReIn.put1 (H:ReIn D L w x y s a1 c1 a2 c2 a3 c3) (hD:∀ k,w.heap.size≤k→D k) (hk:Keeps (fun g=>D g∧L g=1) w w') (hr:Row (fun g=>(D g∧L g=1)∨w.heap.size≤g) w' a c zs) :
 ReIn D (lab L w.heap.size 1) (w'.setCell ⟨x,0,none⟩ (.slice a zs.length c)) x y { s with t1:=zs } a c a2 c2 a3 c3:=by
 have hxl:=lt_of_block H.top
 have lx:lab L w.heap.size 1 x=0:=by rw [lab_old hxl];exact H.lx
 have hx:Keeps (fun k=>k=x) w' (w'.setCell ⟨x,0,none⟩ (.slice a zs.length c)):=Keeps.setCell (D:=fun k=>k=x) (Keeps.refl _ w') (p:=⟨x,0,none⟩) rfl _
 have ne:∀ i':Nat,i'≠0→∀ k,(D k∧lab L w.heap.size 1 k=i')→¬ k=x:=fun i' hi k h e=>by subst e;omega
 have top:=(hk.block x hxl (fun h=>by have:=H.lx;omega)).trans H.top
 have hr2:Row (fun g=>D g∧lab L w.heap.size 1 g=1) (w'.setCell ⟨x,0,none⟩ (.slice a zs.length c)) a c zs:=(hr.wide (D':=fun g=>D g∧lab L w.heap.size 1 g=1) (fun g _ h=>by
  rcases Nat.lt_or_ge g w.heap.size with hg | hg
  ·rw [lab_old hg]
   rcases h with h | h
   ·exact h
   ·omega
  ·rw [lab_new hg]
   exact ⟨hD g hg,rfl⟩)).kept hx (ne 1 (by omega))
 exact ⟨H.dx,lx,by rw [block_setCell top];rfl,hr2,(((H.r2.wide (D':=fun g=>D g∧lab L w.heap.size 1 g=2) (fun g hg h=>⟨h.1,by rw [lab_old hg];exact h.2⟩)).kept2 hk (fun g hg h e=>by have:=e.2;rw [lab_old hg] at h;omega)).kept hx (ne 2 (by omega))),(((H.r3.wide (D':=fun g=>D g∧lab L w.heap.size 1 g=3) (fun g hg h=>⟨h.1,by rw [lab_old hg];exact h.2⟩)).kept2 hk (fun g hg h e=>by have:=e.2;rw [lab_old hg] at h;omega)).kept hx (ne 3 (by omega))),RkAt.keep (RkAt.keep (RkAt.wide (D':=fun g=>D g∧lab L w.heap.size 1 g=5) H.rk (fun g hg h=>⟨h.1,by rw [lab_old hg];exact h.2⟩)) hk (fun g hg h e=>by have h2:=e.2;have h3:=h.2;rw [lab_old hg] at h3;omega)) hx (fun g _ h=>ne 5 (by omega) g h),RdAt.keep (RdAt.keep (RdAt.wide (D':=fun g=>D g∧lab L w.heap.size 1 g=6) H.rd (fun g hg h=>⟨h.1,by rw [lab_old hg];exact h.2⟩)) hk (fun g hg h e=>by have h2:=e.2;have h3:=h.2;rw [lab_old hg] at h3;omega)) hx (fun g _ h=>ne 6 (by omega) g h)⟩
theorem ReIn.put2 (H:ReIn D L w x y s a1 c1 a2 c2 a3 c3) (hD:∀ k,w.heap.size≤k→D k) (hk:Keeps (fun g=>D g∧L g=2) w w') (hr:Row (fun g=>(D g∧L g=2)∨w.heap.size≤g) w' a c zs) :
 ReIn D (lab L w.heap.size 2) (w'.setCell ⟨x,1,none⟩ (.slice a zs.length c)) x y { s with b1:=zs } a1 c1 a c a3 c3:=by
 have hxl:=lt_of_block H.top
 have lx:lab L w.heap.size 2 x=0:=by rw [lab_old hxl];exact H.lx
 have hx:Keeps (fun k=>k=x) w' (w'.setCell ⟨x,1,none⟩ (.slice a zs.length c)):=Keeps.setCell (D:=fun k=>k=x) (Keeps.refl _ w') (p:=⟨x,1,none⟩) rfl _
 have ne:∀ i':Nat,i'≠0→∀ k,(D k∧lab L w.heap.size 2 k=i')→¬ k=x:=fun i' hi k h e=>by subst e;omega
 have top:=(hk.block x hxl (fun h=>by have:=H.lx;omega)).trans H.top
 have hr2:Row (fun g=>D g∧lab L w.heap.size 2 g=2) (w'.setCell ⟨x,1,none⟩ (.slice a zs.length c)) a c zs:=(hr.wide (D':=fun g=>D g∧lab L w.heap.size 2 g=2) (fun g _ h=>by
  rcases Nat.lt_or_ge g w.heap.size with hg | hg
  ·rw [lab_old hg]
   rcases h with h | h
   ·exact h
   ·omega
  ·rw [lab_new hg]
   exact ⟨hD g hg,rfl⟩)).kept hx (ne 2 (by omega))
 exact ⟨H.dx,lx,by rw [block_setCell top];rfl,(((H.r1.wide (D':=fun g=>D g∧lab L w.heap.size 2 g=1) (fun g hg h=>⟨h.1,by rw [lab_old hg];exact h.2⟩)).kept2 hk (fun g hg h e=>by have:=e.2;rw [lab_old hg] at h;omega)).kept hx (ne 1 (by omega))),hr2,(((H.r3.wide (D':=fun g=>D g∧lab L w.heap.size 2 g=3) (fun g hg h=>⟨h.1,by rw [lab_old hg];exact h.2⟩)).kept2 hk (fun g hg h e=>by have:=e.2;rw [lab_old hg] at h;omega)).kept hx (ne 3 (by omega))),RkAt.keep (RkAt.keep (RkAt.wide (D':=fun g=>D g∧lab L w.heap.size 2 g=5) H.rk (fun g hg h=>⟨h.1,by rw [lab_old hg];exact h.2⟩)) hk (fun g hg h e=>by have h2:=e.2;have h3:=h.2;rw [lab_old hg] at h3;omega)) hx (fun g _ h=>ne 5 (by omega) g h),RdAt.keep (RdAt.keep (RdAt.wide (D':=fun g=>D g∧lab L w.heap.size 2 g=6) H.rd (fun g hg h=>⟨h.1,by rw [lab_old hg];exact h.2⟩)) hk (fun g hg h e=>by have h2:=e.2;have h3:=h.2;rw [lab_old hg] at h3;omega)) hx (fun g _ h=>ne 6 (by omega) g h)⟩
theorem ReIn.still (H:ReIn D L w x y s a1 c1 a2 c2 a3 c3) {i:Nat} (hi:i≠0) (hk:Keeps (fun g=>D g∧L g=i) w w') :
 (w'.cell? ⟨x,0,none⟩=some (.slice a1 s.t1.length c1)∧w'.cell? ⟨x,1,none⟩=some (.slice a2 s.b1.length c2)∧w'.cell? ⟨x,2,none⟩=some (.slice a3 s.t2.length c3)∧w'.cell? ⟨x,5,none⟩=some (.int .i64 (s.c:Nat))) ∧
 w'.frozen? ⟨x,0,none⟩=false∧w'.frozen? ⟨x,1,none⟩=false∧w'.frozen? ⟨x,2,none⟩=false∧w'.frozen? ⟨x,3,none⟩=false:=by
 have h:=(hk.block x (lt_of_block H.top) (fun e=>by have:=H.lx;omega)).trans H.top
 refine ⟨⟨?_,?_,?_,?_⟩,frozen_of_block h,frozen_of_block h,frozen_of_block h,frozen_of_block h⟩ <;> (rw [cell_of_block h];rfl)
end
def RE (x:Nat) (y:Dk) (s:Stt) (D:Nat→Prop) (w:World):Prop:=∃ L a1 c1 a2 c2 a3 c3,ReIn D L w x y s a1 c1 a2 c2 a3 c3
structure Small (s:Stt):Prop where
 l1:s.t1.length≤4100
 l2:s.b1.length≤4100
 l3:s.t2.length≤4100
 hc:s.c≤1024
theorem Small.of {s:Stt} (h:A.Ok s):Small s:=by
 have h1:=lens_ok h
 have h2:=h.hi
 exact ⟨by omega,by omega,by omega,by omega⟩
section
variable {D D':Nat→Prop} {w w':World} {x:Nat} {y:Dk} {s:Stt}
theorem RE.below (H:RE x y s D w) (hb:Below w.heap.size w w'):RE x y s D w':=by
 obtain ⟨L,a1,c1,a2,c2,a3,c3,h⟩:=H;exact ⟨L,a1,c1,a2,c2,a3,c3,h.below hb⟩
theorem RE.kept (H:RE x y s D w) (hk:Keeps D' w w') (hd:∀ k,D k→¬ D' k):RE x y s D w':=by
 obtain ⟨L,a1,c1,a2,c2,a3,c3,h⟩:=H;exact ⟨L,a1,c1,a2,c2,a3,c3,h.kept hk hd⟩
theorem RE.wide (H:RE x y s D w) (hD:∀ k,k<w.heap.size→D k→D' k):RE x y s D' w:=by
 obtain ⟨L,a1,c1,a2,c2,a3,c3,h⟩:=H;exact ⟨L,a1,c1,a2,c2,a3,c3,h.wide hD⟩
end
end Go.Proofs.YtkkkkiejnmpdkaaGreatDoor.Lfu
namespace Go.Proofs.YtkkkkiejnmpdkaaGreatDoor.Lfu
open Go.RowKit
section
variable {D D':Nat→Prop} {w w':World} {x:Nat} {y:Dk} {s:Stt}
theorem rlen_any (H:RE x y s D w) (hs:Small s):Calls Tryz.prog 128 #[.pointer (some ⟨x,0,none⟩)] w fun e w'=>e=.returned (.int .i64 ((A.keys s).length:Nat))∧∃ q,w'=w.drewN q:=by
 obtain ⟨L,a1,c1,a2,c2,a3,c3,H⟩:=H
 obtain ⟨d0,d1,d2,d3,d4,d5⟩:=H.cells
 have h1:=hs.l1
 have h2:=hs.l2
 have h3:=hs.l3
 rw [A.keys_length]
 generalize s.t1.length=n at *
 generalize s.b1.length=p at *
 generalize s.t2.length=m at *
 clear H hs
 go_enter Tryz.func128,Tryz.ntmps128
 go_wp2_with fail
 go_quiet (fail)
 go_wp2_with fail
 go_ret
 exact ⟨ret_int (by omega),_,rfl⟩
theorem idx_false {zs:List ByteArray} {k:ByteArray} (h:k∉zs):decide (0≤idx zs k)=false:=by rw [idx_no h];decide
theorem idx_true {zs:List ByteArray} {k:ByteArray} (h:k∈zs):decide (0≤idx zs k)=true:=decide_eq_true (idx_mem h)
def inn (k:ByteArray) (zs:List ByteArray):Bool:=decide (0≤idx zs k)
theorem inn_yes {zs:List ByteArray} {k:ByteArray} (h:k∈zs):inn k zs=true:=idx_true h
theorem inn_no {zs:List ByteArray} {k:ByteArray} (h:k∉zs):inn k zs=false:=idx_false h
theorem inn_keys (s:Stt) (k:ByteArray):inn k (A.keys s)=(inn k s.t1 || inn k s.b1 || inn k s.t2):=by
 by_cases h1:k∈s.t1
 ·rw [inn_yes h1,inn_yes (by simp [A.keys,h1])];rfl
 ·by_cases h2:k∈s.b1
  ·rw [inn_yes h2,inn_yes (by simp [A.keys,h2])];simp
  ·by_cases h3:k∈s.t2
   ·rw [inn_yes h3,inn_yes (by simp [A.keys,h3])];simp
   ·rw [inn_no h1,inn_no h2,inn_no h3,inn_no (by simp [A.keys,h1,h2,h3])];rfl
theorem rhas_key (H:RE x y s D w) (hs:Small s) (k:ByteArray):Calls Tryz.prog 91 #[.pointer (some ⟨x,0,none⟩),.string k] w fun e w'=>e=.returned (.bool (inn k (A.keys s)))∧w'=w:=by
 obtain ⟨L,a1,c1,a2,c2,a3,c3,H⟩:=H
 obtain ⟨d0,d1,d2,d3,d4,d5⟩:=H.cells
 have e1:=rhas_any H.r1 (by have:=hs.l1;omega) k
 have e2:=rhas_any H.r2 (by have:=hs.l2;omega) k
 have e3:=rhas_any H.r3 (by have:=hs.l3;omega) k
 rw [inn_keys]
 by_cases h1:k∈s.t1
 ·have hi:=idx_mem h1
  rw [inn_yes h1]
  generalize idx s.t1 k=j1 at *
  clear H hs
  go_enter Tryz.func91,Tryz.ntmps91
  go_wp2_with (go_at_call 118;refine e1.mono ?_;rintro e w1 ⟨rfl,rfl⟩;clear e1)
  go_ret
  exact ⟨by simp,rfl⟩
 ·rw [inn_no h1]
  rw [idx_no h1] at e1
  by_cases h2:k∈s.b1
  ·have hi:=idx_mem h2
   rw [inn_yes h2]
   generalize idx s.b1 k=j2 at *
   clear H hs
   go_enter Tryz.func91,Tryz.ntmps91
   go_wp2_with (first | (go_at_call 118;refine e1.mono ?_;rintro e w1 ⟨rfl,rfl⟩;clear e1) | (go_at_call 118;refine e2.mono ?_;rintro e w2 ⟨rfl,rfl⟩;clear e2))
   go_ret
   exact ⟨by simp,rfl⟩
  ·rw [inn_no h2]
   rw [idx_no h2] at e2
   unfold inn
   generalize idx s.t2 k=j3 at *
   clear H hs
   go_enter Tryz.func91,Tryz.ntmps91
   go_wp2_with (first | (go_at_call 118;refine e1.mono ?_;rintro e w1 ⟨rfl,rfl⟩;clear e1) | (go_at_call 118;refine e2.mono ?_;rintro e w2 ⟨rfl,rfl⟩;clear e2) | (go_at_call 118;refine e3.mono ?_;rintro e w3 ⟨rfl,rfl⟩;clear e3))
   go_ret
   exact ⟨by simp,rfl⟩
theorem rwindow_any (H:RE x y s D w) (hc:s.c≤1024):Calls Tryz.prog 121 #[.pointer (some ⟨x,0,none⟩)] w fun e w'=>e=.returned (.int .i64 ((wr s.c:Nat):Int))∧w'=w:=by
 obtain ⟨L,a1,c1,a2,c2,a3,c3,H⟩:=H
 obtain ⟨d0,d1,d2,d3,d4,d5⟩:=H.cells
 clear H
 unfold wr
 generalize s.c=c at *
 go_enter Tryz.func121,Tryz.ntmps121
 go_wp2
 go_ret
 exact ⟨by simp;omega,rfl⟩
theorem RE.drewN (H:RE x y s D w) (q:Nat):RE x y s D (w.drewN q):=H.kept (D':=fun _=>False) ((Keeps.refl _ w).drewN q) (fun _ _ e=>e)
theorem rmain_any (H:RE x y s D w) (h1:1≤s.c) (hc:s.c≤1024):Calls Tryz.prog 129 #[.pointer (some ⟨x,0,none⟩)] w fun e w'=>e=.returned (.int .i64 ((mr s.c:Nat):Int))∧∃ q,w'=w.drewN q:=by
 have HW2:Hid _:=fun q=>rwindow_any (RE.drewN H q) hc
 obtain ⟨L,a1,c1,a2,c2,a3,c3,H⟩:=H
 obtain ⟨d0,d1,d2,d3,d4,d5⟩:=H.cells
 have hle:=wr_le h1
 have hm:((mr s.c:Nat):Int)=(s.c:Int) - (wr s.c:Nat):=by unfold mr;omega
 rw [hm]
 clear H hm
 generalize wr s.c=n at *
 go_enter Tryz.func129,Tryz.ntmps129
 go_wp2_with fail
 go_quiet (first | (go_at_call 121;exact Calls.quiet_of_same (HW2.out _)))
 go_wp2
 go_ret
 exact ⟨by go_num,_,rfl⟩
end
end Go.Proofs.YtkkkkiejnmpdkaaGreatDoor.Lfu
namespace Go.Proofs.YtkkkkiejnmpdkaaGreatDoor.Lfu
open Go.RowKit
section
variable {D D':Nat→Prop} {w w':World} {x:Nat} {y:Dk} {s:Stt}
theorem below_da (w:World) (q:Nat) (o:Obj):Below w.heap.size w ((w.drewN q).alloc o):=(below_drewN (Below.refl _ w) q).alloc (Nat.le_refl _) o
end
end Go.Proofs.YtkkkkiejnmpdkaaGreatDoor.Lfu
namespace Go.Proofs.YtkkkkiejnmpdkaaGreatDoor.Lfu
open Go.RowKit
theorem eng_start (pd pk c:Nat) (v:Int) (h:v=c):some (Obj.cells #[.slice none 0 0,.slice none 0 0,.slice none 0 0,.pointer (some ⟨pk,0,none⟩),.pointer (some ⟨pd,0,none⟩),.int .i64 v] 133 (0,0))=some (Obj.cells (eng (zst pd pk c) (A.start c) none 0 none 0 none 0) 133 (0,0)):=by
 subst h
 rfl
section
variable {D D':Nat→Prop} {w w':World} {x:Nat} {y:Dk} {s:Stt}
set_option maxRecDepth 100000 in
set_option maxHeartbeats 2000000 in
theorem rnew_eng (r:Int) (hD:∀ k,w.heap.size≤k→D k) :
 Calls Tryz.prog 27 #[.int .i64 r] w fun e w'=>∃ x pd pk,e=.returned (.pointer (some ⟨x,0,none⟩))∧RE x (zst pd pk (heldC r)) (A.start (heldC r)) D w'∧Keeps D w w':=by
 have hc:((heldC r:Nat):Int)=min (max r 1) 1024:=by unfold heldC;omega
 have HK:Hid (∀ W v,v=((heldC r:Nat):Int)→Calls Tryz.prog 66 #[.int .i64 v] W fun e w'=>∃ p,e=.returned (.pointer (some ⟨p,0,none⟩))∧Sk.RF p (Sk.wd ((heldC r:Nat):Int)) (fun _=>0) 0 (W.heap.size≤·) w'∧Below W.heap.size W w'):=fun W v hv=>by
  subst hv
  refine (Sk.rnew_any (D:=(W.heap.size≤·)) ((heldC r:Nat):Int) (by omega) (by omega) (fun _ h=>h)).mono ?_
  rintro e w' ⟨p,rfl,h,hk⟩
  exact ⟨p,rfl,h,hk.below (Nat.le_refl _) (fun _ h=>h)⟩
 have HDr:Hid (∀ W v,v=((heldC r:Nat):Int)→Calls Tryz.prog 67 #[.int .i64 v] W fun e w'=>∃ p,e=.returned (.pointer (some ⟨p,0,none⟩))∧Dr.RF p (Dr.nw ((heldC r:Nat):Int)) (fun _=>false) (W.heap.size≤·) w'∧Below W.heap.size W w'):=fun W v hv=>by
  subst hv
  refine (Dr.rnew_any (D:=(W.heap.size≤·)) ((heldC r:Nat):Int) (by omega) (by omega) (fun _ h=>h)).mono ?_
  rintro e w' ⟨p,rfl,h,hk⟩
  exact ⟨p,rfl,h,hk.below (Nat.le_refl _) (fun _ h=>h)⟩
 have HC:Hid (((heldC r:Nat):Int)=min (max r 1) 1024):=hc
 clear hc
 go_enter Tryz.func27,Tryz.ntmps27
 go_wp2_with (first
  | (go_at_call 66;refine Calls.mono (HK.out _ _ HC.out.symm) ?_;rintro e w1 ⟨pk,rfl,h1,hb1⟩;have H1:Hid _:=h1;have HB1:Hid _:=hb1;clear h1 hb1)
  | (go_at_call 67;refine Calls.mono (HDr.out _ _ HC.out.symm) ?_;rintro e w2 ⟨pd,rfl,h2,hb2⟩;have H2:Hid _:=h2;have HB2:Hid _:=hb2;clear h2 hb2))
 go_ret
 obtain ⟨L,hL⟩:∃ L:Nat→Nat,∀ g,L g=if g<w1.heap.size then 5 else if g<w2.heap.size then 6 else if g=w2.heap.size then 0 else 1:=⟨_,fun _=>rfl⟩
 have s1:=HB1.out.size
 have s2:=HB2.out.size
 have hb3:Below w2.heap.size w2 (w2.alloc (.cells #[.slice none 0 0,.slice none 0 0,.slice none 0 0,.pointer (some ⟨pk,0,none⟩),.pointer (some ⟨pd,0,none⟩),.int .i64 (min (max r 1) 1024)] 133)):=(Below.refl _ w2).alloc (Nat.le_refl _) _
 have hb13:=below_trans HB2.out hb3
 refine ⟨w2.heap.size,pd,pk,rfl,⟨L,none,0,none,0,none,0,hD _ (by omega),by rw [hL];simp;omega,?_,Row.nil,Row.nil,Row.nil,?_,?_⟩,(Keeps.of_below (below_trans HB1.out HB2.out)).alloc _⟩
 ·rw [heap_alloc_new]
  exact eng_start _ _ _ _ HC.out.symm
 ·exact RkAt.keep (D':=fun _=>False) (RkAt.wide H1.out (fun k hk h=>⟨hD k h,by rw [hL,if_pos hk]⟩)) (.of_below hb13) (fun _ _ _ e=>e)
 ·exact RdAt.keep (D':=fun _=>False) (RdAt.wide H2.out (fun k hk h=>⟨hD k (Nat.le_trans s1 h),by rw [hL,if_neg (by have h':w1.heap.size≤k:=h;omega),if_pos hk]⟩)) (.of_below hb3) (fun _ _ _ e=>e)
theorem rload_no (H:RE x y s D w) (hs:Small s) (key:ByteArray) (hk:key∈A.keys s∨s.c≤(A.keys s).length) :
 Calls Tryz.prog 76 #[.pointer (some ⟨x,0,none⟩),.string key] w fun e w'=>e=.returned (.bool false)∧∃ q,w'=w.drewN q:=by
 have hh:=fun q=>rhas_key (RE.drewN H q) hs key
 have hlen:=fun q=>rlen_any (RE.drewN H q) hs
 obtain ⟨L,a1,c1,a2,c2,a3,c3,H⟩:=H
 obtain ⟨d0,d1,d2,d3,d4,d5⟩:=H.cells
 have hhi:=hs.hc
 by_cases h1:key∈A.keys s
 ·rw [inn_yes h1] at hh
  clear H hs
  go_enter Tryz.func76,Tryz.ntmps76
  go_wp2_with fail
  go_quiet (first | (go_at_call 91;refine Calls.quiet_of_same (hh _)) | (go_at_call 128;refine Calls.quiet_of (hlen _)))
  go_wp2_with fail
  go_ret
  exact ⟨rfl,_,rfl⟩
 ·rw [inn_no h1] at hh
  have h2:s.c≤(A.keys s).length:=by rcases hk with h | h;exact absurd h h1;exact h
  generalize (A.keys s).length=n at *
  generalize s.c=c at *
  have hd:decide ((c:Int)≤(n:Int))=true:=decide_eq_true (by omega)
  clear H hs
  go_enter Tryz.func76,Tryz.ntmps76
  go_wp2_with fail
  go_quiet (first | (go_at_call 91;refine Calls.quiet_of_same (hh _)) | (go_at_call 128;refine Calls.quiet_of (hlen _)))
  go_wp2_with fail
  go_ret
  exact ⟨rfl,_,rfl⟩
set_option maxRecDepth 100000 in
set_option maxHeartbeats 2000000 in
theorem rload_a (H:RE x y s D w) (hok:A.Ok s) (hD:∀ k,w.heap.size≤k→D k) (key:ByteArray) (hk:key∉A.keys s) (hl:(A.keys s).length<s.c) (hroom:s.b1.length+s.t2.length<mr s.c) :
 Calls Tryz.prog 76 #[.pointer (some ⟨x,0,none⟩),.string key] w fun e w'=>e=.returned (.bool true)∧RE x y { s with b1:=s.b1++[key] } D w'∧Keeps D w w':=by
 have hs:=Small.of hok
 have hhi:=hs.hc
 have hlo:=hok.lo
 have hh:=fun q=>rhas_key (RE.drewN H q) hs key
 have hlen:=fun q=>rlen_any (RE.drewN H q) hs
 have HMn:Hid (∀ a b,Calls Tryz.prog 129 #[.pointer (some ⟨x,0,none⟩)] (w.drewN (a+b)) fun e w'=>e=.returned (.int .i64 ((mr s.c:Nat):Int))∧∃ n,w'=w.drewN (a+n)):=fun a b =>
  (rmain_any (RE.drewN H (a+b)) hlo hhi).mono (by rintro e w' ⟨rfl,q,rfl⟩;exact ⟨rfl,b+q,by simp [Nat.add_assoc]⟩)
 have HD:Hid (∀ k,w.heap.size≤k→D k):=hD
 rw [inn_no hk] at hh
 obtain ⟨L,a1,c1,a2,c2,a3,c3,H⟩:=H
 have HE:Hid (ReIn D L w x y s a1 c1 a2 c2 a3 c3):=H
 obtain ⟨d0,d1,d2,d3,d4,d5⟩:=H.cells
 have hl1:=hs.l1
 have hl2:=hs.l2
 have hl3:=hs.l3
 obtain ⟨n,hn⟩:∃ n,n=(A.keys s).length:=⟨_,rfl⟩
 rw [← hn] at hl hlen
 have hd:decide ((s.c:Int)≤(n:Int))=false:=decide_eq_false (by omega)
 clear H hs hD hok hn
 go_enter Tryz.func76,Tryz.ntmps76
 go_wp2_with fail
 go_quiet (first | (go_at_call 91;refine Calls.quiet_of_same (hh _)) | (go_at_call 128;refine Calls.quiet_of (hlen _)))
 go_wp2_with fail
 go_quiet (first | (go_at_call 129;exact HMn.out _ _))
 go_wp2_with (at_builtin;go_must (refine wpList_append_row (ks:=[key]) rfl _ _ rfl rfl (HE.out.r2.below (below_da _ _ _)) rfl (src_at key (by simp)) (by simp;omega) ?_);intro a7 n7 w7 hr7 hk7;obtain ⟨⟨x0,x1,x2,x3⟩,y0,y1,y2,y3⟩:=(HE.out.below (below_da _ _ _)).still (by omega) hk7;have H7:Hid (RE x y { s with b1:=s.b1++[key] } D (w7.setCell ⟨x,1,none⟩ (.slice a7 (s.b1++[key]).length n7))):=⟨_,_,_,_,_,_,_,(HE.out.below (below_da _ _ _)).put2 (fun k h=>HD.out k (Nat.le_trans (by simp) h)) hk7 hr7⟩;have HK7:Hid (Keeps D w (w7.setCell ⟨x,1,none⟩ (.slice a7 (s.b1++[key]).length n7))):=((((((Keeps.refl D w).drewN _).alloc _).trans (hk7.mono (fun _ _ h=>h.1))).setCell (p:=⟨x,1,none⟩) HE.out.dx _));clear hr7 hk7)
 go_ret
 have e7:(s.b1++[key]).length=s.b1.length+1:=by simp
 have H8:=H7.out
 have HK8:=HK7.out
 rw [e7] at H8 HK8
 exact ⟨rfl,H8,HK8⟩
set_option maxRecDepth 100000 in
set_option maxHeartbeats 2000000 in
theorem rload_w (H:RE x y s D w) (hok:A.Ok s) (hD:∀ k,w.heap.size≤k→D k) (key:ByteArray) (hk:key∉A.keys s) (hl:(A.keys s).length<s.c) (hroom:¬ s.b1.length+s.t2.length<mr s.c) :
 Calls Tryz.prog 76 #[.pointer (some ⟨x,0,none⟩),.string key] w fun e w'=>e=.returned (.bool true)∧RE x y { s with t1:=s.t1++[key] } D w'∧Keeps D w w':=by
 have hs:=Small.of hok
 have hhi:=hs.hc
 have hlo:=hok.lo
 have hh:=fun q=>rhas_key (RE.drewN H q) hs key
 have hlen:=fun q=>rlen_any (RE.drewN H q) hs
 have HMn:Hid (∀ a b,Calls Tryz.prog 129 #[.pointer (some ⟨x,0,none⟩)] (w.drewN (a+b)) fun e w'=>e=.returned (.int .i64 ((mr s.c:Nat):Int))∧∃ n,w'=w.drewN (a+n)):=fun a b =>
  (rmain_any (RE.drewN H (a+b)) hlo hhi).mono (by rintro e w' ⟨rfl,q,rfl⟩;exact ⟨rfl,b+q,by simp [Nat.add_assoc]⟩)
 have HD:Hid (∀ k,w.heap.size≤k→D k):=hD
 rw [inn_no hk] at hh
 obtain ⟨L,a1,c1,a2,c2,a3,c3,H⟩:=H
 have HE:Hid (ReIn D L w x y s a1 c1 a2 c2 a3 c3):=H
 obtain ⟨d0,d1,d2,d3,d4,d5⟩:=H.cells
 have hl1:=hs.l1
 have hl2:=hs.l2
 have hl3:=hs.l3
 obtain ⟨n,hn⟩:∃ n,n=(A.keys s).length:=⟨_,rfl⟩
 rw [← hn] at hl hlen
 have hd:decide ((s.c:Int)≤(n:Int))=false:=decide_eq_false (by omega)
 clear H hs hD hok hn
 go_enter Tryz.func76,Tryz.ntmps76
 go_wp2_with fail
 go_quiet (first | (go_at_call 91;refine Calls.quiet_of_same (hh _)) | (go_at_call 128;refine Calls.quiet_of (hlen _)))
 go_wp2_with fail
 go_quiet (first | (go_at_call 129;exact HMn.out _ _))
 go_wp2_with (at_builtin;go_must (refine wpList_append_row (ks:=[key]) rfl _ _ rfl rfl (HE.out.r1.below (below_da _ _ _)) rfl (src_at key (by simp)) (by simp;omega) ?_);intro a7 n7 w7 hr7 hk7;obtain ⟨⟨x0,x1,x2,x3⟩,y0,y1,y2,y3⟩:=(HE.out.below (below_da _ _ _)).still (by omega) hk7;have H7:Hid (RE x y { s with t1:=s.t1++[key] } D (w7.setCell ⟨x,0,none⟩ (.slice a7 (s.t1++[key]).length n7))):=⟨_,_,_,_,_,_,_,(HE.out.below (below_da _ _ _)).put1 (fun k h=>HD.out k (Nat.le_trans (by simp) h)) hk7 hr7⟩;have HK7:Hid (Keeps D w (w7.setCell ⟨x,0,none⟩ (.slice a7 (s.t1++[key]).length n7))):=((((((Keeps.refl D w).drewN _).alloc _).trans (hk7.mono (fun _ _ h=>h.1))).setCell (p:=⟨x,0,none⟩) HE.out.dx _));clear hr7 hk7)
 go_ret
 have e7:(s.t1++[key]).length=s.t1.length+1:=by simp
 have H8:=H7.out
 have HK8:=HK7.out
 rw [e7] at H8 HK8
 exact ⟨rfl,H8,HK8⟩
theorem rload_any (H:RE x y s D w) (hok:A.Ok s) (hD:∀ k,w.heap.size≤k→D k) (key:ByteArray) :
 Calls Tryz.prog 76 #[.pointer (some ⟨x,0,none⟩),.string key] w fun e w'=>e=.returned (.bool (A.load s key).1)∧RE x y (A.load s key).2 D w'∧Keeps D w w':=by
 by_cases hk:key∈A.keys s∨s.c≤(A.keys s).length
 ·rw [A.load_no hk]
  refine (rload_no H (Small.of hok) key hk).mono ?_
  rintro e w' ⟨rfl,q,rfl⟩
  exact ⟨rfl,H.drewN q,(Keeps.refl _ _).drewN q⟩
 ·have h1:key∉A.keys s:=fun h=>hk (.inl h)
  have h2:(A.keys s).length<s.c:=by rcases Nat.lt_or_ge (A.keys s).length s.c with h | h;exact h;exact absurd (.inr h) hk
  by_cases hroom:s.b1.length+s.t2.length<mr s.c
  ·have e:A.load s key=(true,{ s with b1:=s.b1++[key] }):=by
    unfold A.load
    rw [if_neg hk,if_neg (show ¬ A.mroom s≤_ by show ¬ mr s.c≤_;omega)]
   rw [e]
   exact rload_a H hok hD key h1 h2 hroom
  ·have e:A.load s key=(true,{ s with t1:=s.t1++[key] }):=by
    unfold A.load
    rw [if_neg hk,if_pos (show A.mroom s≤_ by show mr s.c≤_;omega)]
   rw [e]
   exact rload_w H hok hD key h1 h2 hroom
end
end Go.Proofs.YtkkkkiejnmpdkaaGreatDoor.Lfu
namespace Go.Proofs.YtkkkkiejnmpdkaaGreatDoor.Lfu
open Go.RowKit
section
variable {D D':Nat→Prop} {w w':World} {x:Nat} {y:Dk} {s:Stt}
set_option maxHeartbeats 4000000 in
theorem rkeys_any (H:RE x y s D w) (hs:Small s) :
 Calls Tryz.prog 42 #[.pointer (some ⟨x,0,none⟩)] w fun e w'=>∃ ad cap,e=.returned (.slice ad (A.keys s).length cap)∧Row (w.heap.size≤·) w' ad cap (A.keys s)∧Below w.heap.size w w':=by
 obtain ⟨L,a1,c1,a2,c2,a3,c3,H⟩:=H
 obtain ⟨d0,d1,d2,d3,d4,d5⟩:=H.cells
 have l1:=hs.l1
 have l2:=hs.l2
 have l3:=hs.l3
 have hx:=lt_of_block H.top
 have HC:Hid (∀ W,Below w.heap.size w W→W.cell? ⟨x,0,none⟩=some (.slice a1 s.t1.length c1)∧W.cell? ⟨x,1,none⟩=some (.slice a2 s.b1.length c2)∧W.cell? ⟨x,2,none⟩=some (.slice a3 s.t2.length c3)):=fun W hb=>by
  obtain ⟨p0,p1,p2,p3,p4,p5⟩:=(H.below hb).cells
  exact ⟨p0,p1,p2⟩
 have HH:Hid (ReIn D L w x y s a1 c1 a2 c2 a3 c3):=H
 clear H hs
 go_enter Tryz.func42,Tryz.ntmps42
 go_wp2_with fail
 go_region_held3 (fun w'=>w'.cell? ⟨x,0,none⟩=some (.slice a1 s.t1.length c1)∧w'.cell? ⟨x,1,none⟩=some (.slice a2 s.b1.length c2)∧w'.cell? ⟨x,2,none⟩=some (.slice a3 s.t2.length c3)) (first | exact q7 | exact q6 | exact q5 | exact HC.out _ (by first | exact (Below.refl _ _).drew | exact ((Below.refl _ _).alloc (Nat.le_refl _) _).drew | exact ((Below.refl _ _).drew).alloc (Nat.le_refl _) _) | go_keep)
  (first
  | (refine step_append_row (D:=fun g=>w.heap.size≤g) (zs:=[]) (ks:=s.t1) (by rfl) _ _ (by rfl) (by rfl) (Row.bare _) (by rfl) ((HH.out.r1.below (by first | exact ((Below.refl _ _).alloc (Nat.le_refl _) _).drew | exact ((Below.refl _ _).drew).alloc (Nat.le_refl _) _)).src) (by simp;omega) ?_
     intro a5 n5 w5 hr5 hk5
     rw [List.nil_append] at hr5
     have hb5:Below w.heap.size w w5:=by first | exact (((Below.refl _ w).alloc (Nat.le_refl _) _).drew).trans (hk5.below (by show w.heap.size≤(w.alloc _).heap.size;simp) (fun _ h=>h)) | exact (((Below.refl _ w).drew).alloc (Nat.le_refl _) _).trans (hk5.below (by simp) (fun _ h=>h))
     have hs5:=hb5.size
     replace hr5:=rrow_old hr5 (by first | (show w.heap.size≤(w.alloc _).heap.size;simp) | simp)
     have q5:=HC.out _ hb5
     simp only [List.length_nil,Nat.zero_add])
  | (refine step_append_row (D:=fun g=>w.heap.size≤g) (zs:=s.t1) (ks:=s.b1) (by rfl) _ _ (by rfl) (by rfl) hr5 (by rfl) ((HH.out.r2.below hb5).src) (by omega) ?_
     intro a6 n6 w6 hr6 hk6
     have hb6:Below w.heap.size w w6:=hb5.trans (hk6.below hs5 (fun _ h=>h))
     have hs6:=hb6.size
     replace hr6:=rrow_old hr6 hs5
     have q6:=HC.out _ hb6)
  | (refine step_append_row (D:=fun g=>w.heap.size≤g) (zs:=s.t1++s.b1) (ks:=s.t2) (by rfl) _ _ (by rfl) (by rw [List.length_append];rfl) hr6 (by rfl) ((HH.out.r3.below hb6).src) (by simp;omega) ?_
     intro a7 n7 w7 hr7 hk7
     have hb7:Below w.heap.size w w7:=hb6.trans (hk7.below hs6 (fun _ h=>h))
     replace hr7:=rrow_old hr7 hs6
     have q7:=HC.out _ hb7))
 go_wp2_with fail
 go_ret
 rw [List.append_assoc] at hr7
 refine ⟨_,_,?_,hr7,hb7⟩
 rw [A.keys_length]
 simp
end
def txt (nm:ByteArray) (zs:List ByteArray):ByteArray:=zs.foldl (fun t z=>t++⟨#[32]⟩++z) (nm++⟨#[58]⟩)
theorem txt_snoc (nm:ByteArray) (zs:List ByteArray) (z:ByteArray):txt nm (zs++[z])=txt nm zs++⟨#[32]⟩++z:=by simp [txt]
theorem size_snoc (a b:ByteArray):(a++b).size=a.size+b.size:=by simp
theorem txt_size (nm:ByteArray):∀ (zs:List ByteArray),(∀ z∈zs,z.size≤1000)→(txt nm zs).size≤nm.size+1+1001*zs.length:=by
 intro zs
 suffices h:∀ (t:ByteArray),(∀ z∈zs,z.size≤1000)→(zs.foldl (fun t z=>t++⟨#[32]⟩++z) t).size≤t.size+1001*zs.length by
  intro hz
  have h2:=h (nm++⟨#[58]⟩) hz
  rw [size_snoc] at h2
  exact h2
 induction zs with
 | nil=>intro t _;simp
 | cons a l ih =>
   intro t hz
   rw [List.foldl_cons]
   have h1:=ih (t++⟨#[32]⟩++a) (fun z h=>hz z (List.mem_cons_of_mem _ h))
   have h2:=hz a List.mem_cons_self
   rw [size_snoc,size_snoc] at h1
   have h3:(⟨#[32]⟩:ByteArray).size=1:=rfl
   rw [List.length_cons]
   omega
section
variable {D D':Nat→Prop} {w w':World} {ad:Option Addr} {cap:Nat} {zs:List ByteArray}
set_option maxHeartbeats 1000000 in
theorem rtext_any (H:Row D w ad cap zs) (hn:zs.length≤10000) (hz:∀ z∈zs,z.size≤1000) (nm:ByteArray) (hnm:nm.size≤100) :
 Calls Tryz.prog 96 #[.string nm,.slice ad zs.length cap] w fun e w'=>e=.returned (.string (txt nm zs))∧w'=w:=by
 have HH:Hid (Row D w ad cap zs):=H
 have HZ:Hid (∀ z∈zs,z.size≤1000):=hz
 clear H hz
 go_enter Tryz.func96,Tryz.ntmps96
 go_wp2
 go_loop [5,6] (fun t i=>∃ j:Nat,j≤zs.length∧i=.int .i64 j∧t=.string (txt nm (zs.take j))) (fun _ i=>zs.length - (intOf i).toNat)
 case atStart=>exact ⟨0,Nat.zero_le _,rfl,rfl⟩
 case round =>
  obtain ⟨j,hj,rfl,rfl⟩:=hrel
  rcases Nat.lt_or_ge j zs.length with hlt | hge
  ·obtain ⟨z,hz⟩:∃ z,zs[j]? = some z:=⟨_,List.getElem?_eq_getElem hlt⟩
   obtain ⟨g,off,rfl,-,c0,-⟩:=HH.out.at hz
   have hzs:=HZ.out z (List.mem_of_getElem? hz)
   have hts:=txt_size nm (zs.take j) (fun y hy=>HZ.out y (List.mem_of_mem_take hy))
   have htl:(zs.take j).length≤10000:=by simp;omega
   have HS:Hid (txt nm (zs.take (j+1))=txt nm (zs.take j)++⟨#[32]⟩++z):=by
    show txt nm (zs.take (j+1))=_
    rw [List.take_add_one,hz]
    exact txt_snoc _ _ _
   clear hz
   generalize txt nm (zs.take j)=t at *
   have ht:t.size≤20000000:=by omega
   clear hts htl
   go_wp2
   go_round
   case rel=>exact ⟨j+1,hlt,by go_num,by rw [HS.out]⟩
   case measure=>simp [intOf];omega
  ·have hj':j=zs.length:=by omega
   subst hj'
   go_wp2
   go_ret
   exact ⟨rfl,rfl⟩
end
theorem bytes_app (a b:ByteArray):(a++b).data.toList=a.data.toList++b.data.toList:=by simp
theorem txt_bytes (nm:ByteArray):∀ (zs:List ByteArray),(txt nm zs).data.toList=nm.data.toList++[58]++rowB zs:=by
 intro zs
 unfold txt
 suffices h:∀ (t:ByteArray),(zs.foldl (fun t z=>t++⟨#[32]⟩++z) t).data.toList=t.data.toList++rowB zs by
  rw [h,bytes_app]
 induction zs with
 | nil=>intro t;simp [rowB]
 | cons z l ih =>
   intro t
   rw [List.foldl_cons,ih,bytes_app,bytes_app]
   simp [rowB]
def stT (s:Stt):ByteArray:=txt ⟨#[87]⟩ s.t1++⟨#[59]⟩++txt ⟨#[65]⟩ s.b1++⟨#[59]⟩++txt ⟨#[80]⟩ s.t2
theorem stT_eq (s:Stt):stT s=⟨(stB (qs s) 3).toArray⟩:=by
 have h:(stT s).data.toList=stB (qs s) 3:=by
  unfold stT
  simp only [bytes_app,txt_bytes]
  simp [stB,List.range,List.range.loop,oneB,nameB,qs]
 rw [← h]
section
variable {D D':Nat→Prop} {w w':World} {x:Nat} {y:Dk} {s:Stt}
set_option maxRecDepth 20000 in
set_option maxHeartbeats 2000000 in
theorem rstate_any (H:RE x y s D w) (hs:Small s) (hz:∀ k,k∈s.t1∨k∈s.t2∨k∈s.b1→k.size≤1000) :
 Calls Tryz.prog 37 #[.pointer (some ⟨x,0,none⟩)] w fun e w'=>e=.returned (.string (stT s))∧Below w.heap.size w w':=by
 obtain ⟨L,a1,c1,a2,c2,a3,c3,H⟩:=H
 obtain ⟨d0,d1,d2,d3,d4,d5⟩:=H.cells
 have l1:=hs.l1
 have l2:=hs.l2
 have l3:=hs.l3
 have t1:=fun (_:Unit)=>rtext_any (H.below ((Below.refl _ w)).drew).r1 (by omega) (fun z h=>hz z (.inl h)) ⟨#[87]⟩ (by decide)
 have t2:=fun (_:Unit)=>rtext_any (H.below ((Below.refl _ w)).drew).r2 (by omega) (fun z h=>hz z (.inr (.inr h))) ⟨#[65]⟩ (by decide)
 have t3:=fun (_:Unit)=>rtext_any (H.below ((Below.refl _ w)).drew).r3 (by omega) (fun z h=>hz z (.inr (.inl h))) ⟨#[80]⟩ (by decide)
 have z1:=txt_size ⟨#[87]⟩ s.t1 (fun z h=>hz z (.inl h))
 have z2:=txt_size ⟨#[65]⟩ s.b1 (fun z h=>hz z (.inr (.inr h)))
 have z3:=txt_size ⟨#[80]⟩ s.t2 (fun z h=>hz z (.inr (.inl h)))
 have e1:(⟨#[87]⟩:ByteArray).size=1:=rfl
 have e2:(⟨#[65]⟩:ByteArray).size=1:=rfl
 have e3:(⟨#[80]⟩:ByteArray).size=1:=rfl
 unfold stT
 generalize txt ⟨#[87]⟩ s.t1=x1 at *
 generalize txt ⟨#[65]⟩ s.b1=x2 at *
 generalize txt ⟨#[80]⟩ s.t2=x3 at *
 have y1:x1.size≤5000000:=by omega
 have y2:x2.size≤5000000:=by omega
 have y3:x3.size≤5000000:=by omega
 clear z1 z2 z3 e1 e2 e3 H hs hz
 have sz:(⟨#[59]⟩:ByteArray).size=1:=rfl
 have p1:∀ W:World,(Op.stringOp .add x1 (⟨#[59]⟩:ByteArray)).run Tryz.prog W=.ok (.string (x1++(⟨#[59]⟩:ByteArray))) W:=fun W=>run_string_add_sum W _ _ (by omega)
 have s1:(x1++(⟨#[59]⟩:ByteArray)).size≤5000001:=by rw [size_snoc];omega
 generalize hc1:x1++(⟨#[59]⟩:ByteArray)=c1' at *
 have p2:∀ W:World,(Op.stringOp .add c1' x2).run Tryz.prog W=.ok (.string (c1'++x2)) W:=fun W=>run_string_add_sum W _ _ (by omega)
 have s2:(c1'++x2).size≤10000001:=by rw [size_snoc];omega
 generalize hc2:c1'++x2=c2' at *
 have p3:∀ W:World,(Op.stringOp .add c2' (⟨#[59]⟩:ByteArray)).run Tryz.prog W=.ok (.string (c2'++(⟨#[59]⟩:ByteArray))) W:=fun W=>run_string_add_sum W _ _ (by omega)
 have s3:(c2'++(⟨#[59]⟩:ByteArray)).size≤10000002:=by rw [size_snoc];omega
 generalize hc3:c2'++(⟨#[59]⟩:ByteArray)=c3' at *
 have p4:∀ W:World,(Op.stringOp .add c3' x3).run Tryz.prog W=.ok (.string (c3'++x3)) W:=fun W=>run_string_add_sum W _ _ (by omega)
 generalize hc4:c3'++x3=c4' at *
 clear hc1 hc2 hc3 hc4 s1 s2 s3 sz y1 y2 y3
 go_enter Tryz.func37,Tryz.ntmps37
 go_wp2_with fail
 go_region_held3 (fun w'=>w'.cell? ⟨x,0,none⟩=some (.slice a1 s.t1.length c1)∧w'.cell? ⟨x,1,none⟩=some (.slice a2 s.b1.length c2)∧w'.cell? ⟨x,2,none⟩=some (.slice a3 s.t2.length c3)) (first | exact ⟨d0,d1,d2⟩ | go_keep)
  (first
  | (go_at_call 96;refine (t1 ()).mono ?_;clear t1;rintro e w1 ⟨rfl,rfl⟩)
  | (go_at_call 96;refine (t2 ()).mono ?_;clear t2;rintro e w1 ⟨rfl,rfl⟩)
  | (go_at_call 96;refine (t3 ()).mono ?_;clear t3;rintro e w1 ⟨rfl,rfl⟩))
 all_goals
  go_wp2_with fail
  go_ret
  exact ⟨rfl,(Below.refl _ _).drew⟩
end
end Go.Proofs.YtkkkkiejnmpdkaaGreatDoor.Lfu
namespace Go.Proofs.YtkkkkiejnmpdkaaGreatDoor.Lfu
open Go.RowKit
section
variable {O D:Nat→Prop} {w w':World} {e x b:Nat} {s:Stt} {ad:Option Addr} {cap:Nat} {zs:List ByteArray}
def RN (x c:Nat) (D:Nat→Prop) (w:World):Prop:=∃ pd pk,RE x (zst pd pk c) (A.start c) D w
theorem rnewN_any (r:Int) (hD:∀ k,w.heap.size≤k→D k) :
 Calls Tryz.prog 27 #[.int .i64 r] w fun ee w'=>∃ x,ee=.returned (.pointer (some ⟨x,0,none⟩))∧RN x (heldC r) D w'∧Keeps D w w':=by
 refine (rnew_eng r hD).mono ?_
 rintro ee w' ⟨x,pd,pk,rfl,h,hk1⟩
 exact ⟨x,rfl,⟨_,_,h⟩,hk1⟩
end
end Go.Proofs.YtkkkkiejnmpdkaaGreatDoor.Lfu
