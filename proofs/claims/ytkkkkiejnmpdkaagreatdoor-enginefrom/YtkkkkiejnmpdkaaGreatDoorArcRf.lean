/- Arc Rf: Rfa Rfb Rfc Rfi Rfl Rfm Rfn Rfo Rfp -/
import Derived.Test.YtkkkkiejnmpdkaaGreatDoorTx
import Derived.Test.YtkkkkiejnmpdkaaGreatDoorArcPu
import Derived.Test.YtkkkkiejnmpdkaaGreatDoorArcEf
import Derived.Test.YtkkkkiejnmpdkaaGreatDoorArcEo
import Derived.Deep.CutBlock
import Derived.Deep.DeepCutAuto
import Derived.Laws.BytesString
import Derived.Laws.Concat
namespace Go.Proofs.YtkkkkiejnmpdkaaGreatDoor.Arc
open Go.RowKit
theorem bytes_beq (x y:ByteArray):(x.toList==y.toList)=decide (x=y):=by
 by_cases h:x=y
 ·subst h;simp
 ·have:¬ x.toList=y.toList:=by
   intro e
   rw [ByteArray.toList_eq,ByteArray.toList_eq] at e
   apply h
   cases x
   cases y
   congr
   exact Array.toList_inj.1 e
  simp [h,this]
def idx (zs:List ByteArray) (k:ByteArray):Int:=match zs.findIdx? (fun z=>decide (z=k)) with
 | some i=>(i:Nat)
 | none=>-1
theorem idx_yes {zs:List ByteArray} {k:ByteArray} {i:Nat} (h:zs[i]? = some k) (hn:∀ j,j<i→zs[j]?≠some k):idx zs k=(i:Nat):=by
 have hi:=lt_of_at h
 have:zs.findIdx? (fun z=>decide (z=k))=some i:=by
  rw [List.findIdx?_eq_some_iff_getElem]
  refine ⟨hi,?_,?_⟩
  ·rw [List.getElem?_eq_getElem hi] at h
   simpa using h
  ·intro j hj
   have:=hn j hj
   rw [List.getElem?_eq_getElem (by omega)] at this
   simpa using this
 unfold idx
 rw [this]
theorem idx_no {zs:List ByteArray} {k:ByteArray} (h:k∉zs):idx zs k = -1:=by
 have:zs.findIdx? (fun z=>decide (z=k))=none:=by
  rw [List.findIdx?_eq_none_iff]
  intro z hz
  simp
  rintro rfl
  exact h hz
 unfold idx
 rw [this]
theorem idx_mem {zs:List ByteArray} {k:ByteArray} (h:k∈zs):0≤idx zs k:=by
 have:(zs.findIdx? (fun z=>decide (z=k))).isSome=true:=by
  rw [List.findIdx?_isSome]
  simpa using h
 obtain ⟨i,hi⟩:=Option.isSome_iff_exists.1 this
 unfold idx
 rw [hi]
 simp
theorem rrow_old {B:Nat} {w w':World} {ad:Option Addr} {cap:Nat} {zs:List ByteArray} (h:Row (fun g=>B≤g∨w.heap.size≤g) w' ad cap zs) (hB:B≤w.heap.size):Row (B≤·) w' ad cap zs:=h.wide (fun g _ h=>by
 show B≤g
 rcases h with h | h
 ·exact h
 ·omega)
section
variable {D:Nat→Prop} {w:World} {ad:Option Addr} {cap:Nat} {zs:List ByteArray}
set_option maxHeartbeats 1000000 in
theorem rhas_any (H:Row D w ad cap zs) (hn:zs.length≤1000000) (k:ByteArray) :
 Calls Tryz.prog 102 #[.slice ad zs.length cap,.string k] w fun e w'=>e=.returned (.int .i64 (idx zs k))∧w'=w:=by
 have HH:Hid (Row D w ad cap zs):=H
 clear H
 go_enter Tryz.func102,Tryz.ntmps102
 go_wp2
 go_loop [5] (fun i=>∃ j:Nat,j≤zs.length∧i=.int .i64 j∧Hid (∀ m,m<j→zs[m]?≠some k)) (fun i=>zs.length - (intOf i).toNat)
 case atStart=>exact ⟨0,Nat.zero_le _,rfl,fun m hm=>by omega⟩
 case round =>
  obtain ⟨j,hj,rfl,hno⟩:=hrel
  rcases Nat.lt_or_ge j zs.length with hlt | hge
  ·obtain ⟨z,hz⟩:∃ z,zs[j]? = some z:=⟨_,List.getElem?_eq_getElem hlt⟩
   obtain ⟨g,off,rfl,-,c0,-⟩:=HH.out.at hz
   have HZ:Hid (zs[j]? = some z):=hz
   clear hz
   by_cases he:z=k
   ·have hE:(z.toList==k.toList)=true:=by rw [bytes_beq,decide_eq_true he]
    have HE:Hid (z=k):=he
    clear he
    go_wp2
    go_ret
    exact ⟨ret_int (idx_yes (by rw [← HE.out];exact HZ.out) hno.out).symm,rfl⟩
   ·have hE:(z.toList==k.toList)=false:=by rw [bytes_beq,decide_eq_false he]
    have HE:Hid (¬ z=k):=he
    clear he
    go_wp2
    go_round
    case rel =>
     refine ⟨j+1,hlt,by go_num,fun m hm=>?_⟩
     rcases Nat.lt_or_ge m j with h | h
     ·exact hno.out m h
     ·rw [show m=j by omega,HZ.out]
      exact fun e=>HE.out (by cases e;rfl)
    case measure=>simp [intOf];omega
  ·have hj':j=zs.length:=by omega
   subst hj'
   go_wp2
   go_ret
   refine ⟨ret_int (idx_no (fun hm=>?_)).symm,rfl⟩
   obtain ⟨m,hm1,hm2⟩:=List.getElem_of_mem hm
   exact hno.out m hm1 (by rw [List.getElem?_eq_getElem hm1,hm2])
theorem rcut_no {zs:List ByteArray} {k:ByteArray} {j:Nat} (h:zs[j]? = some k):A.cut (zs.take (j+1)) k=A.cut (zs.take j) k:=by
 rw [List.take_add_one,h]
 simp [A.cut]
theorem rcut_yes {zs:List ByteArray} {k z:ByteArray} {j:Nat} (h:zs[j]? = some z) (hz:z≠k):A.cut (zs.take (j+1)) k=A.cut (zs.take j) k++[z]:=by
 rw [List.take_add_one,h]
 simp [A.cut,hz]
theorem rcut_len (zs:List ByteArray) (k:ByteArray) (j:Nat):(A.cut (zs.take j) k).length≤zs.length:=by
 have h1:=A.length_cut_le (zs.take j) k
 have h2:(zs.take j).length≤zs.length:=by simp;omega
 omega
set_option maxHeartbeats 2000000 in
theorem rcut_any (H:Row D w ad cap zs) (hn:zs.length≤10000) (k:ByteArray) :
 Calls Tryz.prog 101 #[.slice ad zs.length cap,.string k] w fun e w'=>∃ ad' cap',e=.returned (.slice ad' (A.cut zs k).length cap')∧Row (w.heap.size≤·) w' ad' cap' (A.cut zs k)∧Below w.heap.size w w':=by
 have HH:Hid (Row D w ad cap zs):=H
 clear H
 go_enter Tryz.func101,Tryz.ntmps101
 go_wp2
 go_loopw [5,6] (fun v i wr=>∃ (j:Nat) (a2:Option Addr) (c2:Nat),j≤zs.length∧i=.int .i64 j∧v=.slice a2 (A.cut (zs.take j) k).length c2∧Row (w.heap.size≤·) wr a2 c2 (A.cut (zs.take j) k)∧Below w.heap.size w wr) (fun _ i _=>zs.length - (intOf i).toNat)
 case atStart=>exact ⟨0,none,0,Nat.zero_le _,rfl,rfl,Row.nil,Below.refl _ _⟩
 case round =>
  obtain ⟨j,a2,c2,hj,rfl,rfl,hrow,hb⟩:=hrel
  have hs:=hb.size
  have hcl:=rcut_len zs k j
  rcases Nat.lt_or_ge j zs.length with hlt | hge
  ·obtain ⟨z,hz⟩:∃ z,zs[j]? = some z:=⟨_,List.getElem?_eq_getElem hlt⟩
   obtain ⟨g,off,rfl,-,c0,-⟩:=(HH.out.below hb).at hz
   have HY:Hid (z≠k→A.cut (zs.take (j+1)) k=A.cut (zs.take j) k++[z]):=rcut_yes hz
   have HX:Hid (z=k→A.cut (zs.take (j+1)) k=A.cut (zs.take j) k):=fun e=>rcut_no (e ▸ hz)
   clear hz
   generalize A.cut (zs.take j) k=m at *
   by_cases he:z=k
   ·have hE:(z.toList==k.toList)=true:=by rw [bytes_beq,decide_eq_true he]
    have HE:=HX.out he
    have HF:Hid (A.cut (zs.take (j+1)) k=m):=HE
    clear HX HY he HE
    go_wp2_with fail
    go_roundw
    case rel=>exact ⟨j+1,a2,c2,hlt,by go_num,by rw [HF.out],by rw [HF.out];exact hrow,hb⟩
    case measure=>simp [intOf];omega
   ·have hE:(z.toList==k.toList)=false:=by rw [bytes_beq,decide_eq_false he]
    have HE:=HY.out he
    have HF:Hid (A.cut (zs.take (j+1)) k=m++[z]):=HE
    clear HX HY he HE
    go_wp2_with (at_builtin;go_must (refine wpList_append_row (ks:=[z]) rfl _ _ rfl rfl (hrow.below ((Below.refl _ wr).alloc (Nat.le_refl _) _)) rfl (src_one _ z) (by simp;omega) ?_);intro a3 c3 w3 hrow3 hk3;have hb3:Below w.heap.size w w3:=(hb.alloc hs _).trans (hk3.below (by simp;omega) (fun _ h=>h));have hrow3':Row (w.heap.size≤·) w3 a3 c3 (m++[z]):=rrow_old hrow3 (by simp;omega);clear hrow3 hk3)
    go_roundw
    case rel=>exact ⟨j+1,a3,c3,hlt,by go_num,by rw [HF.out];simp,by rw [HF.out];exact hrow3',hb3⟩
    case measure=>simp [intOf];omega
  ·have hj':j=zs.length:=by omega
   subst hj'
   rw [List.take_length] at *
   go_wp2_with fail
   go_ret
   exact ⟨_,_,rfl,hrow,hb⟩
end
end Go.Proofs.YtkkkkiejnmpdkaaGreatDoor.Arc
namespace Go.Proofs.YtkkkkiejnmpdkaaGreatDoor.Arc
open Go.RowKit
def eng (s:Stt) (a1:Option Addr) (c1:Nat) (a2:Option Addr) (c2:Nat) (a3:Option Addr) (c3:Nat) (a4:Option Addr) (c4:Nat):Array Value :=
 #[.slice a1 s.t1.length c1,.slice a2 s.t2.length c2,.slice a3 s.b1.length c3,.slice a4 s.b2.length c4,.int .i64 (s.p:Nat),.int .i64 (s.c:Nat)]
structure ReIn (D:Nat→Prop) (L:Nat→Nat) (w:World) (x:Nat) (s:Stt) (a1:Option Addr) (c1:Nat) (a2:Option Addr) (c2:Nat) (a3:Option Addr) (c3:Nat) (a4:Option Addr) (c4:Nat):Prop where
 dx:D x
 lx:L x=0
 top:w.heap[x]? = some (.cells (eng s a1 c1 a2 c2 a3 c3 a4 c4) 122 (0,0))
 r1:Row (fun g=>D g∧L g=1) w a1 c1 s.t1
 r2:Row (fun g=>D g∧L g=2) w a2 c2 s.t2
 r3:Row (fun g=>D g∧L g=3) w a3 c3 s.b1
 r4:Row (fun g=>D g∧L g=4) w a4 c4 s.b2
def lab (L:Nat→Nat) (n i:Nat):Nat→Nat:=fun g=>if g<n then L g else i
theorem lab_old {L:Nat→Nat} {n i g:Nat} (h:g<n):lab L n i g=L g:=by simp [lab,h]
theorem lab_new {L:Nat→Nat} {n i g:Nat} (h:n≤g):lab L n i g=i:=by simp [lab,show ¬ g<n by omega]
section
variable {D D':Nat→Prop} {L:Nat→Nat} {w w':World} {x:Nat} {s:Stt} {a1 a2 a3 a4 a:Option Addr} {c1 c2 c3 c4 c:Nat} {zs:List ByteArray}
theorem ReIn.cells (H:ReIn D L w x s a1 c1 a2 c2 a3 c3 a4 c4) :
 w.cell? ⟨x,0,none⟩=some (.slice a1 s.t1.length c1)∧w.cell? ⟨x,1,none⟩=some (.slice a2 s.t2.length c2)∧w.cell? ⟨x,2,none⟩=some (.slice a3 s.b1.length c3)∧w.cell? ⟨x,3,none⟩=some (.slice a4 s.b2.length c4) ∧
 w.cell? ⟨x,4,none⟩=some (.int .i64 (s.p:Nat))∧w.cell? ⟨x,5,none⟩=some (.int .i64 (s.c:Nat)):=by
 have h:=H.top
 refine ⟨?_,?_,?_,?_,?_,?_⟩ <;> (rw [cell_of_block h];rfl)
theorem ReIn.thaw (H:ReIn D L w x s a1 c1 a2 c2 a3 c3 a4 c4) :
 w.frozen? ⟨x,0,none⟩=false∧w.frozen? ⟨x,1,none⟩=false∧w.frozen? ⟨x,2,none⟩=false∧w.frozen? ⟨x,3,none⟩=false∧w.frozen? ⟨x,4,none⟩=false∧w.frozen? ⟨x,5,none⟩=false :=
 ⟨frozen_of_block H.top,frozen_of_block H.top,frozen_of_block H.top,frozen_of_block H.top,frozen_of_block H.top,frozen_of_block H.top⟩
theorem ReIn.kept (H:ReIn D L w x s a1 c1 a2 c2 a3 c3 a4 c4) (hk:Keeps D' w w') (hd:∀ k,D k→¬ D' k):ReIn D L w' x s a1 c1 a2 c2 a3 c3 a4 c4 :=
 ⟨H.dx,H.lx,(hk.block x (lt_of_block H.top) (hd _ H.dx)).trans H.top,H.r1.kept hk (fun k h=>hd k h.1),H.r2.kept hk (fun k h=>hd k h.1),H.r3.kept hk (fun k h=>hd k h.1),H.r4.kept hk (fun k h=>hd k h.1)⟩
theorem ReIn.below (H:ReIn D L w x s a1 c1 a2 c2 a3 c3 a4 c4) (hb:Below w.heap.size w w'):ReIn D L w' x s a1 c1 a2 c2 a3 c3 a4 c4:=H.kept (D':=fun _=>False) (.of_below hb) (fun _ _ e=>e)
theorem ReIn.wide (H:ReIn D L w x s a1 c1 a2 c2 a3 c3 a4 c4) (hD:∀ k,k<w.heap.size→D k→D' k):ReIn D' L w x s a1 c1 a2 c2 a3 c3 a4 c4 :=
 ⟨hD _ (lt_of_block H.top) H.dx,H.lx,H.top,H.r1.wide (fun k a h=>⟨hD k a h.1,h.2⟩),H.r2.wide (fun k a h=>⟨hD k a h.1,h.2⟩),H.r3.wide (fun k a h=>⟨hD k a h.1,h.2⟩),H.r4.wide (fun k a h=>⟨hD k a h.1,h.2⟩)⟩
theorem ReIn.put1 (H:ReIn D L w x s a1 c1 a2 c2 a3 c3 a4 c4) (hD:∀ k,w.heap.size≤k→D k) (hk:Keeps (fun g=>D g∧L g=1) w w') (hr:Row (fun g=>(D g∧L g=1)∨w.heap.size≤g) w' a c zs) :
 ReIn D (lab L w.heap.size 1) (w'.setCell ⟨x,0,none⟩ (.slice a zs.length c)) x { s with t1:=zs } a c a2 c2 a3 c3 a4 c4:=by
 have hxl:=lt_of_block H.top
 have lx:lab L w.heap.size 1 x=0:=by rw [lab_old hxl];exact H.lx
 have hx:Keeps (fun k=>k=x) w' (w'.setCell ⟨x,0,none⟩ (.slice a zs.length c)):=Keeps.setCell (D:=fun k=>k=x) (Keeps.refl _ w') (p:=⟨x,0,none⟩) rfl _
 have ne:∀ i':Nat,i'≠0→∀ k,(D k∧lab L w.heap.size 1 k=i')→¬ k=x:=fun i' hi k h e=>by subst e;omega
 have top:=(hk.block x hxl (fun h=>by have:=H.lx;omega)).trans H.top
 have hr2:Row (fun g=>D g∧lab L w.heap.size 1 g=1) (w'.setCell ⟨x,0,none⟩ (.slice a zs.length c)) a c zs:=(hr.wide (D':=fun g=>D g∧lab L w.heap.size 1 g=1) (fun g _ h=>by
  rcases Nat.lt_or_ge g w.heap.size with hg | hg
  ·rw [lab_old hg]
   rcases h with h | h
   ·exact h
   ·omega
  ·rw [lab_new hg]
   exact ⟨hD g hg,rfl⟩)).kept hx (ne 1 (by omega))
 exact ⟨H.dx,lx,by rw [block_setCell top];rfl,hr2,(((H.r2.wide (D':=fun g=>D g∧lab L w.heap.size 1 g=2) (fun g hg h=>⟨h.1,by rw [lab_old hg];exact h.2⟩)).kept2 hk (fun g hg h e=>by have:=e.2;rw [lab_old hg] at h;omega)).kept hx (ne 2 (by omega))),(((H.r3.wide (D':=fun g=>D g∧lab L w.heap.size 1 g=3) (fun g hg h=>⟨h.1,by rw [lab_old hg];exact h.2⟩)).kept2 hk (fun g hg h e=>by have:=e.2;rw [lab_old hg] at h;omega)).kept hx (ne 3 (by omega))),(((H.r4.wide (D':=fun g=>D g∧lab L w.heap.size 1 g=4) (fun g hg h=>⟨h.1,by rw [lab_old hg];exact h.2⟩)).kept2 hk (fun g hg h e=>by have:=e.2;rw [lab_old hg] at h;omega)).kept hx (ne 4 (by omega)))⟩
theorem ReIn.put3 (H:ReIn D L w x s a1 c1 a2 c2 a3 c3 a4 c4) (hD:∀ k,w.heap.size≤k→D k) (hk:Keeps (fun g=>D g∧L g=3) w w') (hr:Row (fun g=>(D g∧L g=3)∨w.heap.size≤g) w' a c zs) :
 ReIn D (lab L w.heap.size 3) (w'.setCell ⟨x,2,none⟩ (.slice a zs.length c)) x { s with b1:=zs } a1 c1 a2 c2 a c a4 c4:=by
 have hxl:=lt_of_block H.top
 have lx:lab L w.heap.size 3 x=0:=by rw [lab_old hxl];exact H.lx
 have hx:Keeps (fun k=>k=x) w' (w'.setCell ⟨x,2,none⟩ (.slice a zs.length c)):=Keeps.setCell (D:=fun k=>k=x) (Keeps.refl _ w') (p:=⟨x,2,none⟩) rfl _
 have ne:∀ i':Nat,i'≠0→∀ k,(D k∧lab L w.heap.size 3 k=i')→¬ k=x:=fun i' hi k h e=>by subst e;omega
 have top:=(hk.block x hxl (fun h=>by have:=H.lx;omega)).trans H.top
 have hr2:Row (fun g=>D g∧lab L w.heap.size 3 g=3) (w'.setCell ⟨x,2,none⟩ (.slice a zs.length c)) a c zs:=(hr.wide (D':=fun g=>D g∧lab L w.heap.size 3 g=3) (fun g _ h=>by
  rcases Nat.lt_or_ge g w.heap.size with hg | hg
  ·rw [lab_old hg]
   rcases h with h | h
   ·exact h
   ·omega
  ·rw [lab_new hg]
   exact ⟨hD g hg,rfl⟩)).kept hx (ne 3 (by omega))
 exact ⟨H.dx,lx,by rw [block_setCell top];rfl,(((H.r1.wide (D':=fun g=>D g∧lab L w.heap.size 3 g=1) (fun g hg h=>⟨h.1,by rw [lab_old hg];exact h.2⟩)).kept2 hk (fun g hg h e=>by have:=e.2;rw [lab_old hg] at h;omega)).kept hx (ne 1 (by omega))),(((H.r2.wide (D':=fun g=>D g∧lab L w.heap.size 3 g=2) (fun g hg h=>⟨h.1,by rw [lab_old hg];exact h.2⟩)).kept2 hk (fun g hg h e=>by have:=e.2;rw [lab_old hg] at h;omega)).kept hx (ne 2 (by omega))),hr2,(((H.r4.wide (D':=fun g=>D g∧lab L w.heap.size 3 g=4) (fun g hg h=>⟨h.1,by rw [lab_old hg];exact h.2⟩)).kept2 hk (fun g hg h e=>by have:=e.2;rw [lab_old hg] at h;omega)).kept hx (ne 4 (by omega)))⟩
theorem ReIn.put4 (H:ReIn D L w x s a1 c1 a2 c2 a3 c3 a4 c4) (hD:∀ k,w.heap.size≤k→D k) (hk:Keeps (fun g=>D g∧L g=4) w w') (hr:Row (fun g=>(D g∧L g=4)∨w.heap.size≤g) w' a c zs) :
 ReIn D (lab L w.heap.size 4) (w'.setCell ⟨x,3,none⟩ (.slice a zs.length c)) x { s with b2:=zs } a1 c1 a2 c2 a3 c3 a c:=by
 have hxl:=lt_of_block H.top
 have lx:lab L w.heap.size 4 x=0:=by rw [lab_old hxl];exact H.lx
 have hx:Keeps (fun k=>k=x) w' (w'.setCell ⟨x,3,none⟩ (.slice a zs.length c)):=Keeps.setCell (D:=fun k=>k=x) (Keeps.refl _ w') (p:=⟨x,3,none⟩) rfl _
 have ne:∀ i':Nat,i'≠0→∀ k,(D k∧lab L w.heap.size 4 k=i')→¬ k=x:=fun i' hi k h e=>by subst e;omega
 have top:=(hk.block x hxl (fun h=>by have:=H.lx;omega)).trans H.top
 have hr2:Row (fun g=>D g∧lab L w.heap.size 4 g=4) (w'.setCell ⟨x,3,none⟩ (.slice a zs.length c)) a c zs:=(hr.wide (D':=fun g=>D g∧lab L w.heap.size 4 g=4) (fun g _ h=>by
  rcases Nat.lt_or_ge g w.heap.size with hg | hg
  ·rw [lab_old hg]
   rcases h with h | h
   ·exact h
   ·omega
  ·rw [lab_new hg]
   exact ⟨hD g hg,rfl⟩)).kept hx (ne 4 (by omega))
 exact ⟨H.dx,lx,by rw [block_setCell top];rfl,(((H.r1.wide (D':=fun g=>D g∧lab L w.heap.size 4 g=1) (fun g hg h=>⟨h.1,by rw [lab_old hg];exact h.2⟩)).kept2 hk (fun g hg h e=>by have:=e.2;rw [lab_old hg] at h;omega)).kept hx (ne 1 (by omega))),(((H.r2.wide (D':=fun g=>D g∧lab L w.heap.size 4 g=2) (fun g hg h=>⟨h.1,by rw [lab_old hg];exact h.2⟩)).kept2 hk (fun g hg h e=>by have:=e.2;rw [lab_old hg] at h;omega)).kept hx (ne 2 (by omega))),(((H.r3.wide (D':=fun g=>D g∧lab L w.heap.size 4 g=3) (fun g hg h=>⟨h.1,by rw [lab_old hg];exact h.2⟩)).kept2 hk (fun g hg h e=>by have:=e.2;rw [lab_old hg] at h;omega)).kept hx (ne 3 (by omega))),hr2⟩
end
end Go.Proofs.YtkkkkiejnmpdkaaGreatDoor.Arc
namespace Go.Proofs.YtkkkkiejnmpdkaaGreatDoor.Arc
open Go.RowKit
def RE (x:Nat) (s:Stt) (D:Nat→Prop) (w:World):Prop:=∃ L a1 c1 a2 c2 a3 c3 a4 c4,ReIn D L w x s a1 c1 a2 c2 a3 c3 a4 c4
structure Small (s:Stt):Prop where
 t1:s.t1.length≤2100
 t2:s.t2.length≤2100
 b1:s.b1.length≤2100
 b2:s.b2.length≤2100
 p:s.p≤1024
 lo:1≤s.c
 hi:s.c≤1024
theorem Small.of {s:Stt} (h:A.Ok s):Small s:=by
 have:=h.lo;have:=h.hi;have:=h.pc;have:=h.all
 exact ⟨by omega,by omega,by omega,by omega,by omega,by omega,by omega⟩
section
variable {D D':Nat→Prop} {w w':World} {x:Nat} {s:Stt}
theorem RE.below (H:RE x s D w) (hb:Below w.heap.size w w'):RE x s D w':=by
 obtain ⟨L,a1,c1,a2,c2,a3,c3,a4,c4,H⟩:=H
 exact ⟨L,a1,c1,a2,c2,a3,c3,a4,c4,H.below hb⟩
theorem RE.kept (H:RE x s D w) (hk:Keeps D' w w') (hd:∀ k,D k→¬ D' k):RE x s D w':=by
 obtain ⟨L,a1,c1,a2,c2,a3,c3,a4,c4,H⟩:=H
 exact ⟨L,a1,c1,a2,c2,a3,c3,a4,c4,H.kept hk hd⟩
theorem RE.wide (H:RE x s D w) (hD:∀ k,k<w.heap.size→D k→D' k):RE x s D' w:=by
 obtain ⟨L,a1,c1,a2,c2,a3,c3,a4,c4,H⟩:=H
 exact ⟨L,a1,c1,a2,c2,a3,c3,a4,c4,H.wide hD⟩
theorem rlen_any (H:RE x s D w) (hs:Small s):Calls Tryz.prog 126 #[.pointer (some ⟨x,0,none⟩)] w fun e w'=>e=.returned (.int .i64 ((A.keys s).length:Nat))∧∃ q,w'=w.drewN q:=by
 obtain ⟨L,a1,c1,a2,c2,a3,c3,a4,c4,H⟩:=H
 obtain ⟨d0,d1,-⟩:=H.cells
 have h1:=hs.t1
 have h2:=hs.t2
 rw [A.keys_length]
 generalize s.t1.length=n at *
 generalize s.t2.length=m at *
 clear H hs
 go_enter Tryz.func126,Tryz.ntmps126
 go_wp2_with fail
 go_quiet (fail)
 go_wp2_with fail
 go_ret
 exact ⟨ret_int (by omega),_,rfl⟩
theorem idx_false {zs:List ByteArray} {k:ByteArray} (h:k∉zs):decide (0≤idx zs k)=false:=by rw [idx_no h];decide
theorem idx_true {zs:List ByteArray} {k:ByteArray} (h:k∈zs):decide (0≤idx zs k)=true:=decide_eq_true (idx_mem h)
def inn (k:ByteArray) (zs:List ByteArray):Bool:=decide (0≤idx zs k)
theorem inn_yes {zs:List ByteArray} {k:ByteArray} (h:k∈zs):inn k zs=true:=idx_true h
theorem inn_no {zs:List ByteArray} {k:ByteArray} (h:k∉zs):inn k zs=false:=idx_false h
theorem inn_keys (s:Stt) (k:ByteArray):inn k (A.keys s)=(inn k s.t1 || inn k s.t2):=by
 by_cases h1:k∈s.t1
 ·rw [inn_yes h1,inn_yes (by simp [A.keys,h1])];rfl
 ·by_cases h2:k∈s.t2
  ·rw [inn_yes h2,inn_yes (by simp [A.keys,h2])];simp
  ·rw [inn_no h1,inn_no h2,inn_no (by simp [A.keys,h1,h2])];rfl
theorem rhas_key (H:RE x s D w) (hs:Small s) (k:ByteArray):Calls Tryz.prog 88 #[.pointer (some ⟨x,0,none⟩),.string k] w fun e w'=>e=.returned (.bool (inn k (A.keys s)))∧w'=w:=by
 obtain ⟨L,a1,c1,a2,c2,a3,c3,a4,c4,H⟩:=H
 obtain ⟨d0,d1,-⟩:=H.cells
 have e1:=rhas_any H.r1 (by have:=hs.t1;omega) k
 have e2:=rhas_any H.r2 (by have:=hs.t2;omega) k
 rw [inn_keys]
 by_cases h1:k∈s.t1
 ·have hi:=idx_mem h1
  rw [inn_yes h1]
  generalize idx s.t1 k=j1 at *
  clear H hs
  go_enter Tryz.func88,Tryz.ntmps88
  go_wp2_with (go_at_call 102;refine e1.mono ?_;rintro e w1 ⟨rfl,rfl⟩;clear e1)
  go_ret
  exact ⟨by simp,rfl⟩
 ·rw [inn_no h1]
  rw [idx_no h1] at e1
  unfold inn
  generalize idx s.t2 k=j2 at *
  clear H hs
  go_enter Tryz.func88,Tryz.ntmps88
  go_wp2_with (first | (go_at_call 102;refine e1.mono ?_;rintro e w1 ⟨rfl,rfl⟩;clear e1) | (go_at_call 102;refine e2.mono ?_;rintro e w2 ⟨rfl,rfl⟩;clear e2))
  go_ret
  exact ⟨by simp,rfl⟩
end
end Go.Proofs.YtkkkkiejnmpdkaaGreatDoor.Arc
namespace Go.Proofs.YtkkkkiejnmpdkaaGreatDoor.Arc
open Go.RowKit
theorem below_set {w w':World} (hb:Below w.heap.size w w') {a:Addr} (v:Value):Below (w.setCell a v).heap.size (w.setCell a v) (w'.setCell a v):=by
 have hs:=hb.size
 refine ⟨hb.os,hb.tape,hb.output,by simpa [World.setCell] using hs,fun k hk=>?_⟩
 have hk':k<w.heap.size:=by simpa [World.setCell] using hk
 by_cases e:k=a.block
 ·subst e
  have h1:=hb.block a.block hk'
  show (w'.heap.modify a.block _)[a.block]? = (w.heap.modify a.block _)[a.block]?
  rw [Array.getElem?_modify,Array.getElem?_modify,if_pos rfl,if_pos rfl,h1]
 ·rw [Below.heap_setCell _ _ _ _ e,Below.heap_setCell _ _ _ _ e]
  exact hb.block k hk'
theorem ReIn.both34 {D:Nat→Prop} {L:Nat→Nat} {w w3 w4:World} {x:Nat} {s:Stt} {a1 a2 a3 a4 a a':Option Addr} {c1 c2 c3 c4 c c':Nat} {zs zs':List ByteArray} (H:ReIn D L w x s a1 c1 a2 c2 a3 c3 a4 c4) (hD:∀ k,w.heap.size≤k→D k)
 (hb:Below w.heap.size w w3) (hr:Row (w.heap.size≤·) w3 a c zs) (hb2:Below w3.heap.size w3 w4) (hr2:Row (w3.heap.size≤·) w4 a' c' zs') :
 RE x { s with b1:=zs,b2:=zs' } D ((w4.setCell ⟨x,2,none⟩ (.slice a zs.length c)).setCell ⟨x,3,none⟩ (.slice a' zs'.length c')):=by
 have hx:=lt_of_block H.top
 have hs:=hb.size
 have H3:=H.put3 hD (.of_below hb) (hr.wide (fun _ _ h=>.inr h))
 have hz:(w3.setCell ⟨x,2,none⟩ (.slice a zs.length c)).heap.size=w3.heap.size:=by simp [World.setCell]
 have H4:=H3.put4 (fun k h=>hD k (by omega)) (.of_below (below_set hb2 (a:=⟨x,2,none⟩) _)) ((hr2.kept (Keeps.setCell (D:=fun k=>k=x) (Keeps.refl _ w4) (p:=⟨x,2,none⟩) rfl (.slice a zs.length c)) (fun k h e=>by subst e;have h':w3.heap.size≤k:=h;omega)).wide (fun k _ h=>.inr (by have h':w3.heap.size≤k:=h;omega)))
 exact ⟨_,_,_,_,_,_,_,_,_,H4⟩
end Go.Proofs.YtkkkkiejnmpdkaaGreatDoor.Arc
namespace Go.Proofs.YtkkkkiejnmpdkaaGreatDoor.Arc
open Go.RowKit
section
variable {D D':Nat→Prop} {w w':World} {x:Nat} {s:Stt}
theorem eng_start (c:Nat) (v:Int) (h:v=c):some (Obj.cells #[.slice none 0 0,.slice none 0 0,.slice none 0 0,.slice none 0 0,.int .i64 0,.int .i64 v] 122 (0,0))=some (Obj.cells (eng (A.start c) none 0 none 0 none 0 none 0) 122 (0,0)):=by
 subst h
 rfl
theorem rnew_any (r:Int) (hD:∀ k,w.heap.size≤k→D k) :
 Calls Tryz.prog 24 #[.int .i64 r] w fun e w'=>∃ x,e=.returned (.pointer (some ⟨x,0,none⟩))∧RE x (A.start (heldC r)) D w'∧Keeps D w w':=by
 have hc:((heldC r:Nat):Int)=min (max r 1) 1024:=by unfold heldC;omega
 go_enter Tryz.func24,Tryz.ntmps24
 go_wp2_with fail
 all_goals
  go_ret
  refine ⟨_,rfl,⟨fun g=>if g=w.heap.size then 0 else 1,none,0,none,0,none,0,none,0,hD _ (Nat.le_refl _),by simp,?_,Row.nil,Row.nil,Row.nil,Row.nil⟩,(Keeps.refl D w).alloc _⟩
  rw [heap_alloc_new]
  exact eng_start _ _ (by first | (rw [hc];done) | (rw [hc];omega) | (rw [hc];split <;> omega))
set_option maxHeartbeats 2000000 in
theorem rkeys_any (H:RE x s D w) (hs:Small s) :
 Calls Tryz.prog 39 #[.pointer (some ⟨x,0,none⟩)] w fun e w'=>∃ ad cap,e=.returned (.slice ad (A.keys s).length cap)∧Row (w.heap.size≤·) w' ad cap (A.keys s)∧Below w.heap.size w w':=by
 obtain ⟨L,a1,c1,a2,c2,a3,c3,a4,c4,H⟩:=H
 obtain ⟨d0,d1,d2,d3,d4,d5⟩:=H.cells
 have l1:=hs.t1
 have l2:=hs.t2
 have hx:=lt_of_block H.top
 have HC:Hid (∀ W,Below w.heap.size w W→W.cell? ⟨x,0,none⟩=some (.slice a1 s.t1.length c1)∧W.cell? ⟨x,1,none⟩=some (.slice a2 s.t2.length c2)):=fun W hb=>by
  obtain ⟨p0,p1,p2,p3,p4,p5⟩:=(H.below hb).cells
  exact ⟨p0,p1⟩
 have HH:Hid _:=H
 clear H hs
 go_enter Tryz.func39,Tryz.ntmps39
 go_wp2_with fail
 go_region_held3 (fun w'=>w'.cell? ⟨x,0,none⟩=some (.slice a1 s.t1.length c1)∧w'.cell? ⟨x,1,none⟩=some (.slice a2 s.t2.length c2)) (first | exact q6 | exact q5 | exact HC.out _ (by first | exact (Below.refl _ _).drew | exact ((Below.refl _ _).alloc (Nat.le_refl _) _).drew | exact ((Below.refl _ _).drew).alloc (Nat.le_refl _) _) | go_keep)
  (first
  | (refine step_append_row (D:=fun g=>w.heap.size≤g) (zs:=[]) (ks:=s.t1) (by rfl) _ _ (by rfl) (by rfl) (Row.bare _) (by rfl) ((HH.out.r1.below (by first | exact ((Below.refl _ _).alloc (Nat.le_refl _) _).drew | exact ((Below.refl _ _).drew).alloc (Nat.le_refl _) _)).src) (by simp;omega) ?_
     intro a5 n5 w5 hr5 hk5
     rw [List.nil_append] at hr5
     have hb5:Below w.heap.size w w5:=by first | exact (((Below.refl _ w).alloc (Nat.le_refl _) _).drew).trans (hk5.below (by show w.heap.size≤(w.alloc _).heap.size;simp) (fun _ h=>h)) | exact (((Below.refl _ w).drew).alloc (Nat.le_refl _) _).trans (hk5.below (by simp) (fun _ h=>h))
     have hs5:=hb5.size
     replace hr5:=rrow_old hr5 (by first | (show w.heap.size≤(w.alloc _).heap.size;simp) | simp)
     have q5:=HC.out _ hb5
     simp only [List.length_nil,Nat.zero_add])
  | (refine step_append_row (D:=fun g=>w.heap.size≤g) (zs:=s.t1) (ks:=s.t2) (by rfl) _ _ (by rfl) (by rfl) hr5 (by rfl) ((HH.out.r2.below hb5).src) (by omega) ?_
     intro a6 n6 w6 hr6 hk6
     have hb6:Below w.heap.size w w6:=hb5.trans (hk6.below hs5 (fun _ h=>h))
     replace hr6:=rrow_old hr6 hs5
     have q6:=HC.out _ hb6))
 go_wp2_with fail
 go_ret
 rw [A.keys_length]
 exact ⟨_,_,rfl,hr6,hb6⟩
end
end Go.Proofs.YtkkkkiejnmpdkaaGreatDoor.Arc
namespace Go.Proofs.YtkkkkiejnmpdkaaGreatDoor.Arc
open Go.RowKit
def lenAt (w:World) (x i:Nat):Nat:=match w.cell? ⟨x,i,none⟩ with | some (.slice _ n _)=>n | _=>0
section
variable {D D':Nat→Prop} {w w':World} {x:Nat} {s:Stt}
theorem RE.len3 (H:RE x s D w):lenAt w x 2=s.b1.length:=by
 obtain ⟨L,a1,c1,a2,c2,a3,c3,a4,c4,H⟩:=H
 obtain ⟨d0,d1,d2,-⟩:=H.cells
 simp [lenAt,d2]
theorem RE.len4 (H:RE x s D w):lenAt w x 3=s.b2.length:=by
 obtain ⟨L,a1,c1,a2,c2,a3,c3,a4,c4,H⟩:=H
 obtain ⟨d0,d1,d2,d3,-⟩:=H.cells
 simp [lenAt,d3]
theorem ReIn.pop3 {L:Nat→Nat} {a1 a2 a4:Option Addr} {c1 c2 c3 c4 g off:Nat} (H:ReIn D L w x s a1 c1 a2 c2 (some ⟨g,off,none⟩) c3 a4 c4) (hD:∀ k,w.heap.size≤k→D k) {n:Nat} (hn:n=s.b1.tail.length) :
 RE x { s with b1:=s.b1.tail } D (w.setCell ⟨x,2,none⟩ (.slice (some ⟨g,off+1,none⟩) n (c3 - 1)))∧(c3=1→RE x { s with b1:=s.b1.tail } D (w.setCell ⟨x,2,none⟩ (.slice (some ⟨g,off,none⟩) n 0))):=by
 subst hn
 refine ⟨?_,fun h=>?_⟩
 ·have:=H.r3.drop 1
  rw [List.drop_one] at this
  exact ⟨_,_,_,_,_,_,_,_,_,H.put3 hD (Keeps.refl _ _) (this.wide (fun _ _ h=>.inl h))⟩
 ·have hz:=H.r3.1
  have he:s.b1.tail=[]:=List.eq_nil_of_length_eq_zero (by rw [List.length_tail];omega)
  exact ⟨_,_,_,_,_,_,_,_,_,H.put3 hD (Keeps.refl _ _) (by rw [he];exact Row.bare _)⟩
theorem ReIn.pop4 {L:Nat→Nat} {a1 a2 a3:Option Addr} {c1 c2 c3 c4 g off:Nat} (H:ReIn D L w x s a1 c1 a2 c2 a3 c3 (some ⟨g,off,none⟩) c4) (hD:∀ k,w.heap.size≤k→D k) {n:Nat} (hn:n=s.b2.tail.length) :
 RE x { s with b2:=s.b2.tail } D (w.setCell ⟨x,3,none⟩ (.slice (some ⟨g,off+1,none⟩) n (c4 - 1)))∧(c4=1→RE x { s with b2:=s.b2.tail } D (w.setCell ⟨x,3,none⟩ (.slice (some ⟨g,off,none⟩) n 0))):=by
 subst hn
 refine ⟨?_,fun h=>?_⟩
 ·have:=H.r4.drop 1
  rw [List.drop_one] at this
  exact ⟨_,_,_,_,_,_,_,_,_,H.put4 hD (Keeps.refl _ _) (this.wide (fun _ _ h=>.inl h))⟩
 ·have hz:=H.r4.1
  have he:s.b2.tail=[]:=List.eq_nil_of_length_eq_zero (by rw [List.length_tail];omega)
  exact ⟨_,_,_,_,_,_,_,_,_,H.put4 hD (Keeps.refl _ _) (by rw [he];exact Row.bare _)⟩
theorem ReIn.popped3 {L:Nat→Nat} {a1 a2 a4:Option Addr} {c1 c2 c3 c4 g off:Nat} (H:ReIn D L w x s a1 c1 a2 c2 (some ⟨g,off,none⟩) c3 a4 c4) (hD:∀ k,w.heap.size≤k→D k) {n:Nat} (hn:n=s.b1.tail.length) :
 RE x { s with b1:=s.b1.tail } D (w.setCell ⟨x,2,none⟩ (.slice (if c3=1 then some ⟨g,off,none⟩ else some ⟨g,off+1,none⟩) n (c3 - 1))):=by
 by_cases h:c3=1
 ·rw [if_pos h,h]
  exact (H.pop3 hD hn).2 h
 ·rw [if_neg h]
  exact (H.pop3 hD hn).1
theorem ReIn.popped4 {L:Nat→Nat} {a1 a2 a3:Option Addr} {c1 c2 c3 c4 g off:Nat} (H:ReIn D L w x s a1 c1 a2 c2 a3 c3 (some ⟨g,off,none⟩) c4) (hD:∀ k,w.heap.size≤k→D k) {n:Nat} (hn:n=s.b2.tail.length) :
 RE x { s with b2:=s.b2.tail } D (w.setCell ⟨x,3,none⟩ (.slice (if c4=1 then some ⟨g,off,none⟩ else some ⟨g,off+1,none⟩) n (c4 - 1))):=by
 by_cases h:c4=1
 ·rw [if_pos h,h]
  exact (H.pop4 hD hn).2 h
 ·rw [if_neg h]
  exact (H.pop4 hD hn).1
set_option maxHeartbeats 1000000 in
theorem rload_no (H:RE x s D w) (hs:Small s) (key:ByteArray) (hk:key∈A.keys s∨s.c≤(A.keys s).length) :
 Calls Tryz.prog 73 #[.pointer (some ⟨x,0,none⟩),.string key] w fun e w'=>e=.returned (.bool false)∧∃ q,w'=w.drewN q:=by
 have hh:=fun q=>rhas_key (H.below (below_drewN (Below.refl _ w) q)) hs key
 have hlen:=fun q=>rlen_any (H.below (below_drewN (Below.refl _ w) q)) hs
 obtain ⟨L,a1,c1,a2,c2,a3,c3,a4,c4,H⟩:=H
 obtain ⟨d0,d1,d2,d3,d4,d5⟩:=H.cells
 have hhi:=hs.hi
 by_cases h1:key∈A.keys s
 ·rw [inn_yes h1] at hh
  clear H hs
  go_enter Tryz.func73,Tryz.ntmps73
  go_wp2_with fail
  go_quiet (first | (go_at_call 88;refine Calls.quiet_of_same (hh _)) | (go_at_call 126;refine Calls.quiet_of (hlen _)))
  go_wp2_with fail
  go_ret
  exact ⟨rfl,_,rfl⟩
 ·rw [inn_no h1] at hh
  have h2:s.c≤(A.keys s).length:=by rcases hk with h | h;exact absurd h h1;exact h
  generalize (A.keys s).length=n at *
  generalize s.c=c at *
  have hd:decide ((c:Int)≤(n:Int))=true:=decide_eq_true (by omega)
  clear H hs
  go_enter Tryz.func73,Tryz.ntmps73
  go_wp2_with fail
  go_quiet (first | (go_at_call 88;refine Calls.quiet_of_same (hh _)) | (go_at_call 126;refine Calls.quiet_of (hlen _)))
  go_wp2_with fail
  go_ret
  exact ⟨rfl,_,rfl⟩
set_option maxRecDepth 20000 in
set_option maxHeartbeats 8000000 in
theorem rload_yes (H:RE x s D w) (hok:A.Ok s) (hD:∀ k,w.heap.size≤k→D k) (key:ByteArray) (hk:key∉A.keys s) (hl:(A.keys s).length<s.c) :
 Calls Tryz.prog 73 #[.pointer (some ⟨x,0,none⟩),.string key] w fun e w'=>e=.returned (.bool true)∧RE x (A.trim2 (A.trim1 (A.comes s key))) D w'∧Keeps D w w':=by
 have hs:=Small.of hok
 have hh:=fun q=>rhas_key (H.below (below_drewN (Below.refl _ w) q)) hs key
 have hlen:=fun q=>rlen_any (H.below (below_drewN (Below.refl _ w) q)) hs
 rw [inn_no hk] at hh
 obtain ⟨L,a1,c1,a2,c2,a3,c3,a4,c4,H⟩:=H
 obtain ⟨d0,d1,d2,d3,d4,d5⟩:=H.cells
 have hhi:=hs.hi
 have hlo:=hs.lo
 have l1:=hs.t1
 have l2:=hs.t2
 have l3:=hs.b1
 have l4:=hs.b2
 have hcut1:=fun q=>rcut_any (H.below ((below_drewN (Below.refl _ w) q).drew)).r3 (by have:=hs.b1;omega) key
 have hcut2:=fun {W:World} (hb:Below w.heap.size w W)=>rcut_any (H.below hb).r4 (by have:=hs.b2;omega) key
 have hd:decide ((s.c:Int)≤((A.keys s).length:Int))=false:=decide_eq_false (by omega)
 have HT1:Hid (s.t1.length+1≤s.c):=by
  have:=A.keys_length s
  show s.t1.length+1≤s.c
  omega
 have HT2:Hid (s.t1.length+1+s.t2.length≤s.c):=by
  have:=A.keys_length s
  show s.t1.length+1+s.t2.length≤s.c
  omega
 have HN1:Hid ((A.comes s key).t1.length=s.t1.length+1):=by
  show (s.t1++[key]).length=_
  simp
 have HH:Hid _:=H
 generalize (A.keys s).length=n at *
 clear H hs
 go_enter Tryz.func73,Tryz.ntmps73
 go_wp2_with fail
 go_quiet (first | (go_at_call 88;refine Calls.quiet_of_same (hh _)) | (go_at_call 126;refine Calls.quiet_of (hlen _)))
 go_wp2_with fail
 clear hlen hh hd
 go_region_with (first
  | (go_at_call 101;refine (hcut1 _).mono ?_;rintro e w3 ⟨b1,n1,rfl,hr1,hb1⟩;have hbw:Below w.heap.size w w3:=((below_drewN (Below.refl _ w) _).drew).trans hb1;obtain ⟨u0,u1,u2,u3,u4,u5⟩:=(HH.out.below hbw).cells;have hcut3:=hcut2 hbw;clear hcut1 hcut2)
  | (go_at_call 101;refine hcut3.mono ?_;rintro e w4 ⟨b2,n2,rfl,hr2,hb2⟩;have hbv:Below w.heap.size w w4:=hbw.trans (hb2.mono hbw.size);obtain ⟨p0,p1,p2,p3,p4,p5⟩:=(HH.out.below hbv).cells;obtain ⟨v0,v1,v2,v3,v4,v5⟩:=(HH.out.below hbv).thaw))
 all_goals
  have HB:=HH.out.both34 hD hbw hr1 hb2 hr2
  have hkB:Keeps D w ((w4.setCell ⟨x,2,none⟩ (.slice b1 (A.cut s.b1 key).length n1)).setCell ⟨x,3,none⟩ (.slice b2 (A.cut s.b2 key).length n2)):=(((Keeps.of_below hbv).setCell (p:=⟨x,2,none⟩) HH.out.dx _).setCell (p:=⟨x,3,none⟩) HH.out.dx _)
  clear u0 u1 u2 u3 u4 u5 p0 p1 p2 p3 p4 p5 v0 v1 v2 v3 v4 v5 hcut3 hr1 hr2 hb1 hb2 hbw hbv d0 d1 d2 d3 d4 d5
  generalize (w4.setCell ⟨x,2,none⟩ (.slice b1 (A.cut s.b1 key).length n1)).setCell ⟨x,3,none⟩ (.slice b2 (A.cut s.b2 key).length n2)=W at *
  obtain ⟨L2,e1,m1,e2,m2,e3,m3,e4,m4,HR⟩:=HB
  have e0:(W.alloc (.cells #[] 9)).cell? ⟨x,0,none⟩=some (.slice e1 s.t1.length m1):=(HR.below ((Below.refl _ W).alloc (Nat.le_refl _) _)).cells.1
  have HX:Hid _:=HR
  have hD2:∀ k,W.heap.size≤k→D k:=fun k h=>hD k (Nat.le_trans hkB.size h)
  clear HR
  go_wp2_with (first
   | (at_builtin;(refine wpList_append_row (zs:=[]) (ks:=s.t1) (D:=fun g=>W.heap.size≤g) rfl _ _ rfl rfl (Row.bare _) (vx:=.slice e1 s.t1.length m1) rfl ((HX.out.r1.below ((Below.refl _ W).alloc (Nat.le_refl _) _)).src) (by simp;omega) ?_);intro a5 n5 w5 hr5 hk5;rw [List.nil_append] at hr5;have hb5:Below W.heap.size W w5:=((Below.refl _ W).alloc (Nat.le_refl _) _).trans (hk5.below (by simp) (fun _ h=>h));have hs5:=hb5.size;replace hr5:=rrow_old hr5 (by simp);simp only [List.length_nil,Nat.zero_add];clear hk5 e0)
   | (at_builtin;go_must (refine wpList_append_row (zs:=s.t1) (ks:=[key]) rfl _ _ rfl rfl (hr5.below ((Below.refl _ _).alloc (Nat.le_refl _) _)) rfl (src_one _ key) (by simp;omega) ?_);intro a6 n6 w6 hr6 hk6;have hb6:Below W.heap.size W w6:=(hb5.alloc hs5 _).trans (hk6.below (by simp;omega) (fun _ h=>h));replace hr6:=rrow_old hr6 (by simp;omega);have H6:=HX.out.put1 hD2 (.of_below hb6) (hr6.wide (fun _ _ h=>.inr h));obtain ⟨u0,u1,u2,u3,u4,u5⟩:=(HX.out.below hb6).cells;obtain ⟨v0,v1,v2,v3,v4,v5⟩:=(HX.out.below hb6).thaw;clear hk6 hr5))
  simp only [List.length_append,List.length_cons,List.length_nil,Nat.zero_add] at H6
  have hk7:Keeps D w (w6.setCell ⟨x,0,none⟩ (.slice a6 (s.t1.length+1) n6)):=hkB.trans ((Keeps.of_below hb6).setCell (p:=⟨x,0,none⟩) HX.out.dx _)
  have H7:RE x (A.comes s key) D (w6.setCell ⟨x,0,none⟩ (.slice a6 (s.t1.length+1) n6)):=⟨_,_,_,_,_,_,_,_,_,H6⟩
  clear H6 u0 u1 u2 u3 u4 u5 v0 v1 v2 v3 v4 v5 HX hb6 hb5 hs5 hr6 HH hkB hD2
  generalize w6.setCell ⟨x,0,none⟩ (.slice a6 (s.t1.length+1) n6)=W7 at *
 all_goals
  obtain ⟨B,hB⟩:∃ B,B=A.cut s.b1 key:=⟨_,rfl⟩
  have hBl:B.length≤2100:=by rw [hB];exact Nat.le_trans (A.length_cut_le _ _) l3
  have hn1:s.t1.length+1≤s.c:=HT1.out
  have H7':RE x { A.comes s key with b1:=B.drop 0 } D W7:=by rw [hB];exact H7
  clear H7
  go_loopw [] (fun wr=>∃ j:Nat,j≤s.t1.length+1+B.length - s.c∧RE x { A.comes s key with b1:=B.drop j } D wr∧Keeps D w wr) (fun wr=>lenAt wr x 2)
  case atStart=>exact ⟨0,Nat.zero_le _,H7',hk7⟩
  case round =>
   clear H7' hk7
   obtain ⟨j,hj,HR,hkr⟩:=hrel
   have hDr:∀ k,wr.heap.size≤k→D k:=fun k h=>hD k (Nat.le_trans hkr.size h)
   have hm3:=HR.len3
   obtain ⟨sj,hsj⟩:∃ sj:Stt,sj = { A.comes s key with b1:=B.drop j }:=⟨_,rfl⟩
   have q1:sj.t1.length=s.t1.length+1:=by rw [hsj];simp [A.comes]
   have q3:sj.b1.length=B.length - j:=by rw [hsj];simp
   have qc:sj.c=s.c:=by rw [hsj];rfl
   rw [← hsj] at HR
   have HSJ:Hid (sj = { A.comes s key with b1:=B.drop j }):=hsj
   have HK:Hid (Keeps D w wr):=hkr
   have HRE:Hid (RE x sj D wr):=HR
   obtain ⟨L2,r1,k1,r2,k2,r3,k3,r4,k4,HR⟩:=HR
   obtain ⟨d0,d1,d2,d3,d4,d5⟩:=HR.cells
   obtain ⟨f0,f1,f2,f3,f4,f5⟩:=HR.thaw
   rw [q1] at d0
   rw [q3] at d2
   rw [qc] at d5
   have w13:IntKind.i64.wrap (((s.t1.length+1:Nat):Int)+((B.length - j:Nat):Int))=((s.t1.length+1:Nat):Int)+((B.length - j:Nat):Int):=by rw [IntKind.wrap_i64];omega
   have hm3':lenAt wr x 2=B.length - j:=by rw [hm3];simp
   have HE:Hid ({ sj with b1:=sj.b1.tail } = ({ A.comes s key with b1:=B.drop (j+1) }:Stt)):=by
    show ({ sj with b1:=sj.b1.tail }:Stt)=_
    rw [hsj]
    simp [List.tail_drop]
   have HX:Hid (j=s.t1.length+1+B.length - s.c→sj=A.trim1 (A.comes s key)):=fun h=>by
    rw [hsj,h,hB]
    simp [A.trim1,A.comes]
   generalize hN1:s.t1.length+1=N1 at *
   generalize hM:B.length - j=M at *
   clear hsj hkr hm3
   rcases Nat.lt_or_ge s.c (N1+M) with hgt | hle
   ·have g13:decide ((s.c:Int)<(N1:Int)+(M:Int))=true:=decide_eq_true (by omega)
    have hMp:0<M:=by omega
    obtain ⟨g,off,rfl⟩:=HR.r3.shape (by have:=HR.r3.1;omega)
    have HPA:Hid (∀ q,RE x { sj with b1:=sj.b1.tail } D ((wr.drewN q).setCell ⟨x,2,none⟩ (.slice (if k3=1 then some ⟨g,off,none⟩ else some ⟨g,off+1,none⟩) (M - 1) (k3 - 1)))):=fun q=>(HR.below (below_drewN (Below.refl _ wr) q)).popped3 hDr (n:=M - 1) (by rw [List.length_tail];omega)
    have HKQ:Hid (∀ q v,Keeps D w ((wr.drewN q).setCell ⟨x,2,none⟩ v)):=fun q v=>(HK.out.drewN q).setCell (p:=⟨x,2,none⟩) HR.dx _
    have HQ3:Hid (sj.b1.length=M):=q3
    have hjl:j+1≤N1+B.length - s.c:=by omega
    have HM3:Hid (lenAt wr x 2=M):=hm3'
    clear HR q1 q3 qc hm3' hN1 hM hDr
    go_wp2_with fail
    go_quiet (fail)
    go_wp2_with fail
    all_goals
     go_roundw
     case rel =>
      refine ⟨j+1,hjl,?_,HKQ.out _ _⟩
      rw [← HE.out]
      exact HPA.out _
     case measure =>
      rw [HM3.out]
      have hq:=HQ3.out
      rw [RE.len3 (HPA.out _)]
      show sj.b1.tail.length<M
      rw [List.length_tail]
      omega
   ·have g13:decide ((s.c:Int)<(N1:Int)+(M:Int))=false:=decide_eq_false (by omega)
    have hsx:=HX.out (by omega)
    obtain ⟨C,hC⟩:∃ C,C=A.cut s.b2 key:=⟨_,rfl⟩
    have hCl:C.length≤2100:=by rw [hC];exact Nat.le_trans (A.length_cut_le _ _) l4
    have HB0:Hid (RE x { A.trim1 (A.comes s key) with b2:=C.drop 0 } D wr):=by
     have:=HRE.out
     rw [hsx] at this
     rw [hC]
     exact this
    have hM1:(A.trim1 (A.comes s key)).b1.length=M:=by rw [← hsx];exact q3
    have hKL:N1+s.t2.length≤s.c:=by have:=HT2.out;omega
    have hMc:N1+M≤s.c:=hle
    clear HR q1 q3 qc hm3' hDr HE HX HRE HSJ hsx hN1 hM hB hBl hj hle
    go_wp2_with fail
    go_quiet (fail)
    go_wp2_with fail
    have HB1:RE x { A.trim1 (A.comes s key) with b2:=C.drop 0 } D (wr.drewN nq):=HB0.out.below (below_drewN (Below.refl _ wr) _)
    have hkr:Keeps D w (wr.drewN nq):=HK.out.drewN _
    have HM1:Hid ((A.trim1 (A.comes s key)).b1.length=M):=hM1
    have HN2:Hid ((A.comes s key).t1.length=N1):=HN1.out
    clear HB0 HK d0 d1 d2 d3 d4 d5 f0 f1 f2 f3 f4 f5 w13 g13 hM1
    generalize wr.drewN nq=W8 at *
    go_loopw [] (fun wq=>∃ i:Nat,i≤N1+s.t2.length+M+C.length - 2*s.c∧RE x { A.trim1 (A.comes s key) with b2:=C.drop i } D wq∧Keeps D w wq) (fun wq=>lenAt wq x 3)
    case atStart=>exact ⟨0,Nat.zero_le _,HB1,hkr⟩
    case round =>
     clear HB1 hkr
     obtain ⟨i,hi,HR,hkr⟩:=hrel
     have hDr:∀ k,wr.heap.size≤k→D k:=fun k h=>hD k (Nat.le_trans hkr.size h)
     have hm4:=HR.len4
     obtain ⟨sk,hsk⟩:∃ sk:Stt,sk = { A.trim1 (A.comes s key) with b2:=C.drop i }:=⟨_,rfl⟩
     have q1:sk.t1.length=N1:=by rw [hsk];exact HN2.out
     have q2:sk.t2.length=s.t2.length:=by rw [hsk];rfl
     have q3:sk.b1.length=M:=by rw [hsk];exact HM1.out
     have q4:sk.b2.length=C.length - i:=by rw [hsk];simp
     have qc:sk.c=s.c:=by rw [hsk];rfl
     have qp:sk.p≤1024:=by rw [hsk];have:=hok.pc;show s.p≤1024;omega
     rw [← hsk] at HR
     have hsm:Small sk:=⟨by omega,by omega,by omega,by omega,qp,by omega,by omega⟩
     have hlen:=fun q=>rlen_any (HR.below (below_drewN (Below.refl _ wr) q)) hsm
     have hKk:(A.keys sk).length=N1+s.t2.length:=by rw [A.keys_length,q1,q2]
     rw [hKk] at hlen
     have hm4':lenAt wr x 3=C.length - i:=by rw [hm4];simp
     have HE:Hid ({ sk with b2:=sk.b2.tail } = ({ A.trim1 (A.comes s key) with b2:=C.drop (i+1) }:Stt)):=by
      show ({ sk with b2:=sk.b2.tail }:Stt)=_
      rw [hsk]
      simp [List.tail_drop]
     have HX:Hid (i=N1+s.t2.length+M+C.length - 2*s.c→sk=A.trim2 (A.trim1 (A.comes s key))):=fun h=>by
      rw [hsk,h,hC]
      have h1:=HN2.out
      have h2:=HM1.out
      unfold A.trim2
      have e1:(A.trim1 (A.comes s key)).t1.length=N1:=h1
      have e2:(A.trim1 (A.comes s key)).t2.length=s.t2.length:=rfl
      have e3:(A.trim1 (A.comes s key)).b2=A.cut s.b2 key:=rfl
      have e4:(A.trim1 (A.comes s key)).c=s.c:=rfl
      rw [e1,e2,h2,e3,e4]
      rfl
     have HK:Hid (Keeps D w wr):=hkr
     have HRE:Hid (RE x sk D wr):=HR
     obtain ⟨L2,r1,k1,r2,k2,r3,k3,r4,k4,HR⟩:=HR
     obtain ⟨d0,d1,d2,d3,d4,d5⟩:=HR.cells
     obtain ⟨f0,f1,f2,f3,f4,f5⟩:=HR.thaw
     rw [q3] at d2
     rw [q4] at d3
     rw [qc] at d5
     generalize hKK:N1+s.t2.length=K at *
     generalize hP:C.length - i=P at *
     have w1:IntKind.i64.wrap ((K:Int)+(M:Int))=(K:Int)+(M:Int):=by rw [IntKind.wrap_i64];omega
     have w2:IntKind.i64.wrap ((K:Int)+(M:Int)+(P:Int))=(K:Int)+(M:Int)+(P:Int):=by rw [IntKind.wrap_i64];omega
     have w3:IntKind.i64.wrap (2*(s.c:Int))=2*(s.c:Int):=by rw [IntKind.wrap_i64];omega
     clear hsk hkr hm4 hKk
     rcases Nat.lt_or_ge (2*s.c) (K+M+P) with hgt | hle
     ·have g13:decide (2*(s.c:Int)<(K:Int)+(M:Int)+(P:Int))=true:=decide_eq_true (by omega)
      have hPp:0<P:=by omega
      obtain ⟨g,off,rfl⟩:=HR.r4.shape (by have:=HR.r4.1;omega)
      have HPA:Hid (∀ q,RE x { sk with b2:=sk.b2.tail } D ((wr.drewN q).setCell ⟨x,3,none⟩ (.slice (if k4=1 then some ⟨g,off,none⟩ else some ⟨g,off+1,none⟩) (P - 1) (k4 - 1)))):=fun q=>(HR.below (below_drewN (Below.refl _ wr) q)).popped4 hDr (n:=P - 1) (by rw [List.length_tail];omega)
      have HKQ:Hid (∀ q v,Keeps D w ((wr.drewN q).setCell ⟨x,3,none⟩ v)):=fun q v=>(HK.out.drewN q).setCell (p:=⟨x,3,none⟩) HR.dx _
      have HQ4:Hid (sk.b2.length=P):=q4
      have hil:i+1≤K+M+C.length - 2*s.c:=by omega
      have HM4:Hid (lenAt wr x 3=P):=hm4'
      clear HR q1 q2 q3 q4 qc hm4' hKK hP hDr
      go_wp2_with fail
      go_quiet (first | (go_at_call 126;refine Calls.quiet_of (hlen _)))
      go_wp2_with fail
      all_goals
       go_roundw
       case rel =>
        refine ⟨i+1,hil,?_,HKQ.out _ _⟩
        rw [← HE.out]
        exact HPA.out _
       case measure =>
        rw [HM4.out]
        have hq:=HQ4.out
        rw [RE.len4 (HPA.out _)]
        show sk.b2.tail.length<P
        rw [List.length_tail]
        omega
     ·have g13:decide (2*(s.c:Int)<(K:Int)+(M:Int)+(P:Int))=false:=decide_eq_false (by omega)
      have hsx:=HX.out (by omega)
      have HFin:Hid (RE x (A.trim2 (A.trim1 (A.comes s key))) D wr):=by
       have:=HRE.out
       rw [hsx] at this
       exact this
      clear HR q1 q2 q3 q4 qc hm4' hKK hP hDr hsx HX HE HRE
      go_wp2_with fail
      go_quiet (first | (go_at_call 126;refine Calls.quiet_of (hlen _)))
      go_wp2_with fail
      go_ret
      exact ⟨rfl,HFin.out.below (below_drewN (Below.refl _ wr) _),HK.out.drewN _⟩
theorem rload_any (H:RE x s D w) (hok:A.Ok s) (hD:∀ k,w.heap.size≤k→D k) (key:ByteArray) :
 Calls Tryz.prog 73 #[.pointer (some ⟨x,0,none⟩),.string key] w fun e w'=>e=.returned (.bool (A.load s key).1)∧RE x (A.load s key).2 D w'∧Keeps D w w':=by
 by_cases h:key∈A.keys s∨s.c≤(A.keys s).length
 ·rw [A.load_no h]
  refine (rload_no H (Small.of hok) key h).mono ?_
  rintro e w' ⟨rfl,q,rfl⟩
  exact ⟨rfl,H.below (below_drewN (Below.refl _ w) q),(Keeps.refl D w).drewN q⟩
 ·unfold A.load
  rw [if_neg h]
  exact rload_yes H hok hD key (fun e=>h (.inl e)) (by rcases Nat.lt_or_ge (A.keys s).length s.c with e | e;exact e;exact absurd (.inr e) h)
end
end Go.Proofs.YtkkkkiejnmpdkaaGreatDoor.Arc
namespace Go.Proofs.YtkkkkiejnmpdkaaGreatDoor.Arc
open Go.RowKit
def txt (nm:ByteArray) (zs:List ByteArray):ByteArray:=zs.foldl (fun t z=>t++⟨#[32]⟩++z) (nm++⟨#[58]⟩)
theorem txt_snoc (nm:ByteArray) (zs:List ByteArray) (z:ByteArray):txt nm (zs++[z])=txt nm zs++⟨#[32]⟩++z:=by simp [txt]
theorem size_snoc (a b:ByteArray):(a++b).size=a.size+b.size:=by simp
theorem txt_size (nm:ByteArray):∀ (zs:List ByteArray),(∀ z∈zs,z.size≤1000)→(txt nm zs).size≤nm.size+1+1001*zs.length:=by
 intro zs
 suffices h:∀ (t:ByteArray),(∀ z∈zs,z.size≤1000)→(zs.foldl (fun t z=>t++⟨#[32]⟩++z) t).size≤t.size+1001*zs.length by
  intro hz
  have h2:=h (nm++⟨#[58]⟩) hz
  rw [size_snoc] at h2
  exact h2
 induction zs with
 | nil=>intro t _;simp
 | cons a l ih =>
   intro t hz
   rw [List.foldl_cons]
   have h1:=ih (t++⟨#[32]⟩++a) (fun z h=>hz z (List.mem_cons_of_mem _ h))
   have h2:=hz a List.mem_cons_self
   rw [size_snoc,size_snoc] at h1
   have h3:(⟨#[32]⟩:ByteArray).size=1:=rfl
   rw [List.length_cons]
   omega
section
variable {D D':Nat→Prop} {w w':World} {ad:Option Addr} {cap:Nat} {zs:List ByteArray}
set_option maxHeartbeats 1000000 in
theorem rtext_any (H:Row D w ad cap zs) (hn:zs.length≤10000) (hz:∀ z∈zs,z.size≤1000) (nm:ByteArray) (hnm:nm.size≤100) :
 Calls Tryz.prog 93 #[.string nm,.slice ad zs.length cap] w fun e w'=>e=.returned (.string (txt nm zs))∧w'=w:=by
 have HH:Hid (Row D w ad cap zs):=H
 have HZ:Hid (∀ z∈zs,z.size≤1000):=hz
 clear H hz
 go_enter Tryz.func93,Tryz.ntmps93
 go_wp2
 go_loop [5,6] (fun t i=>∃ j:Nat,j≤zs.length∧i=.int .i64 j∧t=.string (txt nm (zs.take j))) (fun _ i=>zs.length - (intOf i).toNat)
 case atStart=>exact ⟨0,Nat.zero_le _,rfl,rfl⟩
 case round =>
  obtain ⟨j,hj,rfl,rfl⟩:=hrel
  rcases Nat.lt_or_ge j zs.length with hlt | hge
  ·obtain ⟨z,hz⟩:∃ z,zs[j]? = some z:=⟨_,List.getElem?_eq_getElem hlt⟩
   obtain ⟨g,off,rfl,-,c0,-⟩:=HH.out.at hz
   have hzs:=HZ.out z (List.mem_of_getElem? hz)
   have hts:=txt_size nm (zs.take j) (fun y hy=>HZ.out y (List.mem_of_mem_take hy))
   have htl:(zs.take j).length≤10000:=by simp;omega
   have HS:Hid (txt nm (zs.take (j+1))=txt nm (zs.take j)++⟨#[32]⟩++z):=by
    show txt nm (zs.take (j+1))=_
    rw [List.take_add_one,hz]
    exact txt_snoc _ _ _
   clear hz
   generalize txt nm (zs.take j)=t at *
   have ht:t.size≤20000000:=by omega
   clear hts htl
   go_wp2
   go_round
   case rel=>exact ⟨j+1,hlt,by go_num,by rw [HS.out]⟩
   case measure=>simp [intOf];omega
  ·have hj':j=zs.length:=by omega
   subst hj'
   go_wp2
   go_ret
   exact ⟨rfl,rfl⟩
end
end Go.Proofs.YtkkkkiejnmpdkaaGreatDoor.Arc
namespace Go.Proofs.YtkkkkiejnmpdkaaGreatDoor.Arc
open Go.RowKit
def chr (n:Nat):ByteArray:=⟨#[UInt8.ofNat (48+n)]⟩
def dig (n:Nat):ByteArray:=if n<10 then chr n else dig (n / 10)++chr (n % 10)
decreasing_by omega
theorem dig_one {n:Nat} (h:n<10):dig n=chr n:=by rw [dig,if_pos h]
theorem dig_more {n:Nat} (h:¬ n<10):dig n=dig (n / 10)++chr (n % 10):=by rw [dig,if_neg h]
theorem chr_size (n:Nat):(chr n).size=1:=rfl
theorem dig_size:∀ n:Nat,(dig n).size≤n+1:=by
 intro n
 induction n using Nat.strongRecOn with
 | ind n ih =>
   by_cases h:n<10
   ·rw [dig_one h,chr_size];omega
   ·rw [dig_more h,size_snoc,chr_size]
    have:=ih (n / 10) (by omega)
    omega
theorem conv_at {W:World} {a:Nat} {v:Nat} (h:W.cell? ⟨a,0,none⟩=some (.int .u8 (48+(v:Int)))):(convert 140 9 (.slice (some ⟨a,0,none⟩) 1 1)).run Tryz.prog W=.ok (.string (chr v)) W:=by
 rw [run_convert_bytes_string _ 140 9 5 _ 1 1 Tryz.underlying140 Tryz.underlying5 Tryz.underlying9,run_bytesToString _ _ 1 1 [48+(v:Int)]]
 ·show _=Result.ok (Value.string ⟨#[UInt8.ofNat (48+v)]⟩) W
  have:(48+(v:Int)).toNat=48+v:=by omega
  simp only [List.foldl_cons,List.foldl_nil,this]
  rfl
 ·simp [loadCells,loadCellsFrom,Addr.add_lit,h]
theorem lit_later {R:Nat} {w Wc w2:World} (hb:Below Wc.heap.size Wc w2) (h:Wc.cell? ⟨w.heap.size,0,none⟩=some (.int .u8 (48+(R:Int)))):w2.cell? ⟨w.heap.size,0,none⟩=some (.int .u8 (48+(R:Int))):=cell_later hb h
set_option maxHeartbeats 1000000 in
theorem rdigits_any:∀ (n:Nat),n≤100000→∀ (w:World),Calls Tryz.prog 94 #[.int .i64 (n:Nat)] w fun e w'=>e=.returned (.string (dig n))∧Below w.heap.size w w':=by
 intro n
 induction n using Nat.strongRecOn with
 | ind n ih =>
   intro hn w
   by_cases h:n<10
   ·have hcv:=fun W:World=>conv_at (W:=W.alloc (.cells #[.int .u8 (48+(n:Int))] 5)) (a:=W.heap.size) (v:=n) (by rw [cell_of_block (heap_alloc_new W _)];rfl)
    rw [dig_one h]
    generalize chr n=ch at *
    clear ih
    go_enter Tryz.func94,Tryz.ntmps94
    go_wp2
    go_ret
    exact ⟨rfl,(Below.refl _ _).alloc (Nat.le_refl _) _⟩
   ·have hcv:=fun W:World=>conv_at (W:=W.alloc (.cells #[.int .u8 (48+((n % 10:Nat):Int))] 5)) (a:=W.heap.size) (v:=n % 10) (by rw [cell_of_block (heap_alloc_new W _)];rfl)
    have hcw:=fun (W:World) (a:Nat) (h:W.cell? ⟨a,0,none⟩=some (.int .u8 (48+((n % 10:Nat):Int))))=>conv_at h
    have hlit:(w.alloc (.cells #[.int .u8 (48+((n % 10:Nat):Int))] 5)).cell? ⟨w.heap.size,0,none⟩=some (.int .u8 (48+((n % 10:Nat):Int))):=by rw [cell_of_block (heap_alloc_new w _)];rfl
    have hrec:=fun W=>ih (n / 10) (by omega) (by omega) W
    have hds:=dig_size (n / 10)
    have hcs:=chr_size (n % 10)
    rw [dig_more h]
    have hq:(n:Int) / 10=((n / 10:Nat):Int):=by omega
    have hr:(n:Int).tmod 10=((n % 10:Nat):Int):=by rw [Int.tmod_eq_emod_of_nonneg (by omega)];omega
    have hr9:n % 10≤9:=by omega
    have hQ9:n / 10≤10000:=by omega
    have hdl:(dig (n / 10)).size≤100001:=by omega
    generalize dig (n / 10)=dg at *
    generalize chr (n % 10)=ch at *
    generalize n / 10=Q at *
    generalize n % 10=R at *
    have hw8:IntKind.u8.wrap (48+(R:Int))=48+(R:Int):=by rw [IntKind.wrap_u8];omega
    have hw64:IntKind.i64.wrap (48+(R:Int))=48+(R:Int):=by rw [IntKind.wrap_i64];omega
    have hwq:IntKind.i64.wrap (Q:Int)=(Q:Int):=by rw [IntKind.wrap_i64];omega
    clear ih hds
    go_enter Tryz.func94,Tryz.ntmps94
    go_wp2_with fail
    go_region_with (first
     | (go_at_call 94;refine (hrec _).mono ?_;rintro e w2 ⟨rfl,hb2⟩;have hl:=lit_later (R:=R) (w:=w) hb2))
    all_goals
     go_wp2_with fail
     go_ret
     refine ⟨rfl,?_⟩
     first
      | exact (((Below.refl _ w).alloc (Nat.le_refl _) _).drew).trans (hb2.mono (by show w.heap.size≤(w.alloc _).heap.size;simp))
      | exact (((Below.refl _ w).drew).trans hb2).alloc (Nat.le_trans (Nat.le_refl w.heap.size) hb2.size) _
end Go.Proofs.YtkkkkiejnmpdkaaGreatDoor.Arc
namespace Go.Proofs.YtkkkkiejnmpdkaaGreatDoor.Arc
open Go.RowKit
theorem bytes_app (a b:ByteArray):(a++b).data.toList=a.data.toList++b.data.toList:=by simp
theorem txt_bytes (nm:ByteArray):∀ (zs:List ByteArray),(txt nm zs).data.toList=nm.data.toList++[58]++rowB zs:=by
 intro zs
 unfold txt
 suffices h:∀ (t:ByteArray),(zs.foldl (fun t z=>t++⟨#[32]⟩++z) t).data.toList=t.data.toList++rowB zs by
  rw [h,bytes_app]
 induction zs with
 | nil=>intro t;simp [rowB]
 | cons z l ih =>
   intro t
   rw [List.foldl_cons,ih,bytes_app,bytes_app]
   simp [rowB]
theorem dig_bytes:∀ n:Nat,(dig n).data.toList=Lib.decDigits n:=by
 intro n
 induction n using Nat.strongRecOn with
 | ind n ih =>
   by_cases h:n<10
   ·rw [dig_one h,Lib.decDigits,dif_pos h]
    rfl
   ·rw [dig_more h,Lib.decDigits,dif_neg h,bytes_app,ih (n / 10) (by omega)]
    rfl
def stT (s:Stt):ByteArray:=txt ⟨#[84,49]⟩ s.t1++⟨#[59]⟩++txt ⟨#[84,50]⟩ s.t2++⟨#[59]⟩++txt ⟨#[66,49]⟩ s.b1++⟨#[59]⟩++txt ⟨#[66,50]⟩ s.b2++⟨#[59,112,58,32]⟩++dig s.p
theorem stT_eq (s:Stt):stT s=⟨(stB (qs s) 4++[112,58,32]++Lib.decDigits s.p).toArray⟩:=by
 have h:(stT s).data.toList=stB (qs s) 4++[112,58,32]++Lib.decDigits s.p:=by
  unfold stT
  simp only [bytes_app,txt_bytes,dig_bytes]
  simp [stB,List.range,List.range.loop,oneB,nameB,qs]
 rw [← h]
section
variable {D D':Nat→Prop} {w w':World} {x:Nat} {s:Stt}
set_option maxRecDepth 20000 in
set_option maxHeartbeats 4000000 in
theorem rstate_any (H:RE x s D w) (hs:Small s) (hz:∀ k,k∈s.t1∨k∈s.t2∨k∈s.b1∨k∈s.b2→k.size≤1000) :
 Calls Tryz.prog 34 #[.pointer (some ⟨x,0,none⟩)] w fun e w'=>e=.returned (.string (stT s))∧Below w.heap.size w w':=by
 obtain ⟨L,a1,c1,a2,c2,a3,c3,a4,c4,H⟩:=H
 obtain ⟨d0,d1,d2,d3,d4,d5⟩:=H.cells
 have l1:=hs.t1
 have l2:=hs.t2
 have l3:=hs.b1
 have l4:=hs.b2
 have hp:=hs.p
 have t1:=fun (_:Unit)=>rtext_any (H.below ((Below.refl _ w)).drew).r1 (by omega) (fun z h=>hz z (.inl h)) ⟨#[84,49]⟩ (by decide)
 have t2:=fun (_:Unit)=>rtext_any (H.below ((Below.refl _ w)).drew).r2 (by omega) (fun z h=>hz z (.inr (.inl h))) ⟨#[84,50]⟩ (by decide)
 have t3:=fun (_:Unit)=>rtext_any (H.below ((Below.refl _ w)).drew).r3 (by omega) (fun z h=>hz z (.inr (.inr (.inl h)))) ⟨#[66,49]⟩ (by decide)
 have t4:=fun (_:Unit)=>rtext_any (H.below ((Below.refl _ w)).drew).r4 (by omega) (fun z h=>hz z (.inr (.inr (.inr h)))) ⟨#[66,50]⟩ (by decide)
 have k5:=rdigits_any s.p (by omega) w.drew
 have z1:=txt_size ⟨#[84,49]⟩ s.t1 (fun z h=>hz z (.inl h))
 have z2:=txt_size ⟨#[84,50]⟩ s.t2 (fun z h=>hz z (.inr (.inl h)))
 have z3:=txt_size ⟨#[66,49]⟩ s.b1 (fun z h=>hz z (.inr (.inr (.inl h))))
 have z4:=txt_size ⟨#[66,50]⟩ s.b2 (fun z h=>hz z (.inr (.inr (.inr h))))
 have z5:=dig_size s.p
 have e1:(⟨#[84,49]⟩:ByteArray).size=2:=rfl
 have e2:(⟨#[84,50]⟩:ByteArray).size=2:=rfl
 have e3:(⟨#[66,49]⟩:ByteArray).size=2:=rfl
 have e4:(⟨#[66,50]⟩:ByteArray).size=2:=rfl
 have HC:Hid (∀ W,Below w.heap.size w W→W.cell? ⟨x,0,none⟩=some (.slice a1 s.t1.length c1)∧W.cell? ⟨x,1,none⟩=some (.slice a2 s.t2.length c2)∧W.cell? ⟨x,2,none⟩=some (.slice a3 s.b1.length c3)∧W.cell? ⟨x,3,none⟩=some (.slice a4 s.b2.length c4)∧W.cell? ⟨x,4,none⟩=some (.int .i64 (s.p:Nat))):=fun W hb=>by
  obtain ⟨p0,p1,p2,p3,p4,p5⟩:=(H.below hb).cells
  exact ⟨p0,p1,p2,p3,p4⟩
 unfold stT
 generalize txt ⟨#[84,49]⟩ s.t1=x1 at *
 generalize txt ⟨#[84,50]⟩ s.t2=x2 at *
 generalize txt ⟨#[66,49]⟩ s.b1=x3 at *
 generalize txt ⟨#[66,50]⟩ s.b2=x4 at *
 generalize dig s.p=x5 at *
 have y1:x1.size≤5000000:=by omega
 have y2:x2.size≤5000000:=by omega
 have y3:x3.size≤5000000:=by omega
 have y4:x4.size≤5000000:=by omega
 have y5:x5.size≤5000000:=by omega
 clear z1 z2 z3 z4 z5 e1 e2 e3 e4 H hs hz
 have sz:(⟨#[59]⟩:ByteArray).size=1:=rfl
 have sp:(⟨#[59,112,58,32]⟩:ByteArray).size=4:=rfl
 have p1:∀ W:World,(Op.stringOp .add x1 (⟨#[59]⟩:ByteArray)).run Tryz.prog W=.ok (.string (x1++(⟨#[59]⟩:ByteArray))) W:=fun W=>run_string_add_sum W _ _ (by omega)
 have s1:(x1++(⟨#[59]⟩:ByteArray)).size≤5000001:=by rw [size_snoc];omega
 generalize hc1:x1++(⟨#[59]⟩:ByteArray)=c1' at *
 have p2:∀ W:World,(Op.stringOp .add c1' x2).run Tryz.prog W=.ok (.string (c1'++x2)) W:=fun W=>run_string_add_sum W _ _ (by omega)
 have s2:(c1'++x2).size≤10000001:=by rw [size_snoc];omega
 generalize hc2:c1'++x2=c2' at *
 have p3:∀ W:World,(Op.stringOp .add c2' (⟨#[59]⟩:ByteArray)).run Tryz.prog W=.ok (.string (c2'++(⟨#[59]⟩:ByteArray))) W:=fun W=>run_string_add_sum W _ _ (by omega)
 have s3:(c2'++(⟨#[59]⟩:ByteArray)).size≤10000002:=by rw [size_snoc];omega
 generalize hc3:c2'++(⟨#[59]⟩:ByteArray)=c3' at *
 have p4:∀ W:World,(Op.stringOp .add c3' x3).run Tryz.prog W=.ok (.string (c3'++x3)) W:=fun W=>run_string_add_sum W _ _ (by omega)
 have s4:(c3'++x3).size≤15000002:=by rw [size_snoc];omega
 generalize hc4:c3'++x3=c4' at *
 have p5:∀ W:World,(Op.stringOp .add c4' (⟨#[59]⟩:ByteArray)).run Tryz.prog W=.ok (.string (c4'++(⟨#[59]⟩:ByteArray))) W:=fun W=>run_string_add_sum W _ _ (by omega)
 have s5:(c4'++(⟨#[59]⟩:ByteArray)).size≤15000003:=by rw [size_snoc];omega
 generalize hc5:c4'++(⟨#[59]⟩:ByteArray)=c5' at *
 have p6:∀ W:World,(Op.stringOp .add c5' x4).run Tryz.prog W=.ok (.string (c5'++x4)) W:=fun W=>run_string_add_sum W _ _ (by omega)
 have s6:(c5'++x4).size≤20000003:=by rw [size_snoc];omega
 generalize hc6:c5'++x4=c6' at *
 have p7:∀ W:World,(Op.stringOp .add c6' (⟨#[59,112,58,32]⟩:ByteArray)).run Tryz.prog W=.ok (.string (c6'++(⟨#[59,112,58,32]⟩:ByteArray))) W:=fun W=>run_string_add_sum W _ _ (by omega)
 have s7:(c6'++(⟨#[59,112,58,32]⟩:ByteArray)).size≤20000007:=by rw [size_snoc];omega
 generalize hc7:c6'++(⟨#[59,112,58,32]⟩:ByteArray)=c7' at *
 have p8:∀ W:World,(Op.stringOp .add c7' x5).run Tryz.prog W=.ok (.string (c7'++x5)) W:=fun W=>run_string_add_sum W _ _ (by omega)
 generalize hc8:c7'++x5=c8' at *
 clear hc1 hc2 hc3 hc4 hc5 hc6 hc7 hc8 s1 s2 s3 s4 s5 s6 s7 sz sp y1 y2 y3 y4 y5
 go_enter Tryz.func34,Tryz.ntmps34
 go_wp2_with fail
 go_region_held3 (fun w'=>w'.cell? ⟨x,0,none⟩=some (.slice a1 s.t1.length c1)∧w'.cell? ⟨x,1,none⟩=some (.slice a2 s.t2.length c2)∧w'.cell? ⟨x,2,none⟩=some (.slice a3 s.b1.length c3)∧w'.cell? ⟨x,3,none⟩=some (.slice a4 s.b2.length c4)∧w'.cell? ⟨x,4,none⟩=some (.int .i64 (s.p:Nat))) (first | exact q9 | exact ⟨d0,d1,d2,d3,d4⟩ | go_keep)
  (first
  | (go_at_call 93;refine (t1 ()).mono ?_;clear t1;rintro e w1 ⟨rfl,rfl⟩)
  | (go_at_call 93;refine (t2 ()).mono ?_;clear t2;rintro e w1 ⟨rfl,rfl⟩)
  | (go_at_call 93;refine (t3 ()).mono ?_;clear t3;rintro e w1 ⟨rfl,rfl⟩)
  | (go_at_call 93;refine (t4 ()).mono ?_;clear t4;rintro e w1 ⟨rfl,rfl⟩)
  | (go_at_call 94;refine k5.mono ?_;clear k5;rintro e w5 ⟨rfl,hb5⟩;have hb6:Below w.heap.size w w5:=((Below.refl _ w).drew).trans hb5;have q9:=HC.out _ hb6;clear hb5))
 all_goals
  go_wp2_with fail
  go_ret
  exact ⟨rfl,hb6⟩
end
end Go.Proofs.YtkkkkiejnmpdkaaGreatDoor.Arc
