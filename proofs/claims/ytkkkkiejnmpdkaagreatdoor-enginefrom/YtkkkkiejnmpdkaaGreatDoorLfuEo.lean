/- Lfu Eo: Eo -/
import Derived.Test.YtkkkkiejnmpdkaaGreatDoorLfuEf
import Derived.Test.YtkkkkiejnmpdkaaGreatDoorSh
namespace Go.Proofs.YtkkkkiejnmpdkaaGreatDoor.Lfu
open Go.RowKit
def rowB (l:List ByteArray):List UInt8:=l.flatMap (fun k=>32::k.data.toList)
def nameB (i:Nat):List UInt8:=if i=0 then [87,58] else if i=1 then [59,65,58] else [59,80,58]
def oneB (Q:Nat→List ByteArray) (i:Nat):List UInt8:=nameB i++rowB (Q i)
def stB (Q:Nat→List ByteArray) (n:Nat):List UInt8:=(List.range n).flatMap (oneB Q)
theorem stB_more (Q:Nat→List ByteArray) (n:Nat):stB Q (n+1)=stB Q n++oneB Q n:=by simp [stB,List.range_succ]
theorem nameB_len (i:Nat):(nameB i).length≤7:=by
 unfold nameB
 split
 ·decide
 ·split <;> decide
theorem rowB_len {l:List ByteArray} {b:Nat} (hb:l.length≤b) (hk:∀ k∈l,k.size≤1000):(rowB l).length≤b*1001:=by
 induction l generalizing b with
 | nil=>simp [rowB]
 | cons k l ih =>
   cases b with
   | zero=>exact absurd hb (Nat.not_succ_le_zero _)
   | succ b =>
     have h1:=ih (b:=b) (Nat.le_of_succ_le_succ hb) (fun x hx=>hk x (by simp [hx]))
     have h2:=hk k (by simp)
     have h3:k.data.toList.length=k.size:=Array.length_toList
     simp only [rowB,List.flatMap_cons,List.length_append,List.length_cons] at h1 ⊢
     rw [h3]
     have e1:(b+1)*1001=b*1001+1001:=by omega
     omega
theorem rowB_take {l:List ByteArray} {j:Nat} {k:ByteArray} (h:l[j]? = some k):rowB (l.take (j+1))=rowB (l.take j)++(32::k.data.toList):=by
 rw [List.take_add_one,h]
 simp [rowB]
section
variable {D:Nat→Prop} {w w':World} {e c b:Nat} {Q:Nat→List ByteArray} {m:ByteArray→Option Ix.Sp} {z:Dk}
theorem stB_len (H:EM D w e c Q m b z) (hb:b≤700000):∀ n,n≤3→(stB Q n).length≤n*800000000:=by
 intro n
 induction n with
 | zero=>intro _;simp [stB]
 | succ n ih =>
   intro hn
   have h1:=ih (by omega)
   have h2:=rowB_len (H.lens (i:=n) (by omega)) (fun k hk=>H.size (i:=n) (by omega) hk)
   have h3:b*1001≤700000*1001:=Nat.mul_le_mul hb (Nat.le_refl _)
   have h4:=nameB_len n
   rw [stB_more,List.length_append]
   simp only [oneB,List.length_append]
   have e1:(n+1)*800000000=n*800000000+800000000:=by omega
   omega
theorem EM.all (H:EM D w e c Q m b z) (hb:b≤900000) {i:Nat} (hi:i<3) :
 ∃ pr,w.cell? ⟨e,1+i,none⟩=some (.pointer (some ⟨pr,0,none⟩))∧∀ W:World,Below w.heap.size w W→W.cell? ⟨e,1+i,none⟩=some (.pointer (some ⟨pr,0,none⟩)) ∧
  Calls Tryz.prog 192 #[.pointer (some ⟨pr,0,none⟩)] W fun ee w'=>∃ ad cap,ee=.returned (.slice ad (Q i).length cap)∧w'.ownsRow W.heap.size 9 1 (.slice ad (Q i).length cap) (Q i).length ((Q i).map Value.string)∧Below W.heap.size W w':=by
 obtain ⟨L,R,x,H,r⟩:=H
 refine ⟨(R i).pr,H.row hi,fun W hW=>⟨(H.below hW).row hi,?_⟩⟩
 have h:=Ls.all_any ((H.below hW).li i hi) (by have:=r.few i hi;omega)
 have hk:=r.keys i hi
 have hl:(R i).row.length=(Q i).length:=by rw [← hk,List.length_map]
 have hm:((R i).row.map fun h=>Value.string ((R i).va h))=(Q i).map Value.string:=by rw [← hk,List.map_map];rfl
 rw [hl,hm] at h
 exact h
theorem row_cell {W W':World} {B:Nat} {ad:Option Addr} {cap:Nat} {zs:List ByteArray} (h:W.ownsRow B 9 1 (.slice ad zs.length cap) zs.length (zs.map Value.string)) (ht:∀ g:Nat,(∃ cur fz,W.heap[g]? = some (Obj.cells cur 9 fz))→W'.heap[g]? = W.heap[g]?) {j:Nat} {k:ByteArray} (hj:zs[j]? = some k) :
 ∃ g,ad=some ⟨g,0,none⟩∧W'.cell? ⟨g,j,none⟩=some (.string k):=by
 obtain ⟨g,cur,rfl,hb,hg,hc⟩:=Ls.ownsRow_block h (by have:=lt_of_at hj;omega)
 refine ⟨g,rfl,?_⟩
 rw [World.cell?_of_block (ht g ⟨_,_,hg⟩)]
 exact hc j _ (by rw [List.getElem?_map,hj];rfl)
theorem name0:∀ W:World,(Instr.index 265 (.agg #[.string ⟨#[87,58]⟩,.string ⟨#[59,65,58]⟩,.string ⟨#[59,80,58]⟩]) (.int .i64 0)).run Tryz.prog W=.ok (.string ⟨#[87,58]⟩) W:=fun _=>by kernel_rfl
theorem name1:∀ W:World,(Instr.index 265 (.agg #[.string ⟨#[87,58]⟩,.string ⟨#[59,65,58]⟩,.string ⟨#[59,80,58]⟩]) (.int .i64 1)).run Tryz.prog W=.ok (.string ⟨#[59,65,58]⟩) W:=fun _=>by kernel_rfl
theorem name2:∀ W:World,(Instr.index 265 (.agg #[.string ⟨#[87,58]⟩,.string ⟨#[59,65,58]⟩,.string ⟨#[59,80,58]⟩]) (.int .i64 2)).run Tryz.prog W=.ok (.string ⟨#[59,80,58]⟩) W:=fun _=>by kernel_rfl
theorem name_at (k:Nat) (hk:k<3):∀ W:World,(Instr.index 265 (.agg #[.string ⟨#[87,58]⟩,.string ⟨#[59,65,58]⟩,.string ⟨#[59,80,58]⟩]) (.int .i64 (k:Nat))).run Tryz.prog W=.ok (.string ⟨(nameB k).toArray⟩) W:=by
 have:k=0∨k=1∨k=2:=by omega
 rcases this with e | e | e <;> subst e
 ·exact name0
 ·exact name1
 ·exact name2
theorem below_base {a x y:World} (h:Below a.heap.size a x) (k:Below a.heap.size x y):Below a.heap.size a y:=by
 have hs:=h.size
 exact ((Keeps.of_below (D:=fun k=>a.heap.size≤k) h).trans ⟨k.os,k.tape,k.output,k.size,fun i hi hn=>k.block i (by omega)⟩).below (Nat.le_refl _) (fun _ e=>e)
theorem below_trans' {a x y:World} (h:Below a.heap.size a x) (k:Below x.heap.size x y):Below a.heap.size a y :=
 ((Keeps.of_below (D:=fun _=>False) h).trans (Keeps.of_below k)).below (Nat.le_refl _) (fun _ e=>e.elim)
theorem buAt_below {B b:Nat} {p:Value} {bs:List Value} {x y:World} (h:BuAt B b p bs x) (k:Below x.heap.size x y):BuAt B b p bs y:=by
 obtain ⟨h1,v,h2,h3,h4⟩:=h
 refine ⟨h1,v,(k.block b (lt_of_block h2)).trans h2,⟨h3.1,?_⟩,h4⟩
 rcases h3.2 with h5 | ⟨g,cap,cur,fz,e1,e2,e3,e4⟩
 ·exact .inl h5
 ·exact .inr ⟨g,cap,cur,fz,e1,e2,(k.block g (lt_of_block e3)).trans e3,e4⟩
theorem isBu_below {B b:Nat} {bs:List Value} {x y:World} (h:IsBu B b bs x) (k:Below x.heap.size x y):IsBu B b bs y:=by
 rcases h with h | h
 ·exact .inl (buAt_below h k)
 ·exact .inr (buAt_below h k)
theorem write_b {B b:Nat} {l:List UInt8} {w:World} (s:ByteArray) (h:IsBu B b (Lib.byteCells l) w) (hlen:l.length+s.size≤100000000000) (hBw:B≤w.heap.size) :
 Calls Tryz.prog 191 #[.pointer (some ⟨b,0,none⟩),.string s] w fun e w'=>e=.returned (.tuple #[.int .i64 s.size,.nilIface])∧IsBu B b (Lib.byteCells (l++s.data.toList)) w'∧Below B w w'∧Txts w w':=by
 have:=write_any B b (Lib.byteCells l) s w h (by rw [Lib.byteCells_length];exact hlen) hBw
 rw [Lib.strCells_eq,← Lib.byteCells_append] at this
 exact this
def TX (x y:World):Prop:=x.heap.size≤y.heap.size∧∀ g:Nat,(∃ cur fz,x.heap[g]? = some (Obj.cells cur 9 fz))→y.heap[g]? = x.heap[g]?
theorem TX.refl (x:World):TX x x:=⟨Nat.le_refl _,fun _ _=>rfl⟩
theorem TX.step {x y z:World} {B:Nat} (h:TX x y) (k:Txts y z) (kb:Below B y z):TX x z:=by
 refine ⟨Nat.le_trans h.1 kb.size,fun g hg=>?_⟩
 obtain ⟨cur,fz,hc⟩:=hg
 have h2:=h.2 g ⟨cur,fz,hc⟩
 have h3:y.heap[g]? = some (Obj.cells cur 9 fz):=h2.trans hc
 rw [k g (lt_of_block h3) ⟨cur,fz,h3⟩,h2]
set_option maxRecDepth 100000 in
set_option maxHeartbeats 1000000 in
theorem state_any (H:EM D w e c Q m b z) (hb:b≤700000) :
 Calls Tryz.prog 311 #[.pointer (some ⟨e,0,none⟩)] w fun ee w'=>ee=.returned (.string ⟨(stB Q 3).toArray⟩)∧Below w.heap.size w w':=by
 have HE:Hid (EM D w e c Q m b z):=H
 obtain ⟨c0,c1,f1,heo,⟨x,c6⟩,-,-⟩:=EM.cells H
 have HLn:Hid (∀ n,n≤3→(stB Q n).length≤n*800000000):=stB_len H hb
 have hbu0:IsBu w.heap.size w.heap.size (Lib.byteCells (stB Q 0)) (w.alloc (.cells #[.pointer none,.slice none 0 0] 222)):=by
  refine .inl ⟨Nat.le_refl _,.slice none 0 0,heap_alloc_new w _,⟨by simp [stB,Lib.byteCells],.inl ⟨rfl,by simp [stB,Lib.byteCells]⟩⟩,by simp [Value.ownBlock]⟩
 have HB0:Hid _:=hbu0
 have HW0:Hid (Below w.heap.size w (w.alloc (.cells #[.pointer none,.slice none 0 0] 222))):=(Below.refl _ w).alloc (Nat.le_refl _) _
 clear H hbu0
 go_enter Tryz.func311,Tryz.ntmps311
 go_wp2_with (go_at_call 312;refine (blank_any HE.out).mono ?_;rintro ee w1 ⟨rfl,rfl⟩)
 go_loopw [11] (fun i wr=>∃ k:Nat,k≤3∧i=.int .i64 k∧IsBu w1.heap.size w1.heap.size (Lib.byteCells (stB Q k)) wr∧Below w1.heap.size w1 wr) (fun i _=>3 - (intOf i).toNat)
 case atStart=>exact ⟨0,by omega,rfl,HB0.out,HW0.out⟩
 case round =>
  obtain ⟨k,hk,rfl,hB,hW⟩:=hrel
  have HB:Hid (IsBu w1.heap.size w1.heap.size (Lib.byteCells (stB Q k)) wr):=hB
  have HWr:Hid (Below w1.heap.size w1 wr):=hW
  clear hB hW
  rcases Nat.lt_or_ge k 3 with hlt | hge
  ·obtain ⟨nm,hn0⟩:∃ nm:ByteArray,nm=⟨(nameB k).toArray⟩:=⟨_,rfl⟩
   have hnm:=name_at k hlt
   have hns:nm.size≤7:=by rw [hn0];show (nameB k).toArray.size≤7;rw [List.size_toArray];exact nameB_len k
   have hcs0:Lib.byteCells (stB Q k)++Lib.strCells nm=Lib.byteCells (stB Q k++nameB k):=by
    rw [Lib.strCells_eq,← Lib.byteCells_append,hn0]
   have hwr:=write_any w1.heap.size w1.heap.size (Lib.byteCells (stB Q k)) nm wr HB.out (by rw [Lib.byteCells_length];have:=HLn.out k hk;omega) HWr.out.size
   rw [hcs0] at hwr
   clear hcs0
   rw [← hn0] at hnm
   have hln:=HLn.out k hk
   have hrl:(rowB (Q k)).length≤800000000:=by
    have h2:=rowB_len (HE.out.lens (i:=k) hlt) (fun x hx=>HE.out.size (i:=k) hlt hx)
    have h3:b*1001≤700000*1001:=Nat.mul_le_mul hb (Nat.le_refl _)
    omega
   obtain ⟨pr,-,hall⟩:=HE.out.all (by omega) hlt
   have HAll:Hid _:=hall
   clear hall hn0
   go_wp2_with (first
    | (go_at_call 191;refine Calls.mono hwr ?_;clear hwr;rintro ee w2 ⟨rfl,hB2,hb2,-⟩;have hw2:=below_base HWr.out hb2;obtain ⟨hc2,hall2⟩:=HAll.out w2 hw2;have HB2:Hid _:=hB2;have HA2:Hid _:=hall2;clear hB2 hall2)
    | (go_at_call 192;refine Calls.mono HA2.out ?_;rintro ee w3 ⟨ad,cap,rfl,hown3,hb3⟩;have HB3:Hid (IsBu w1.heap.size w1.heap.size (Lib.byteCells (stB Q k++nameB k)) w3):=(isBu_below HB2.out hb3);have HW3:Hid (Below w1.heap.size w1 w3):=(below_trans' hw2 hb3);have HO3:Hid _:=hown3;clear hown3 hb3))
   obtain ⟨T,hT⟩:∃ T:List UInt8,T=stB Q k++nameB k:=⟨_,rfl⟩
   have HTl:Hid (T.length≤4000000000):=by
    have h1:=HLn.out k hk
    have h2:=nameB_len k
    show T.length≤4000000000
    rw [hT]
    simp only [List.length_append]
    omega
   have HT1:Hid (T++rowB (Q k)=stB Q (k+1)):=by
    show T++rowB (Q k)=stB Q (k+1)
    rw [stB_more,hT]
    simp [oneB]
   rw [← hT] at HB3
   clear hT
   go_loopw [25] (fun i wx=>∃ j:Nat,j≤(Q k).length∧i=.int .i64 j∧IsBu w1.heap.size w1.heap.size (Lib.byteCells (T++rowB ((Q k).take j))) wx∧Below w1.heap.size w1 wx∧TX w3 wx) (fun i _=>(Q k).length - (intOf i).toNat)
   case atStart=>exact ⟨0,Nat.zero_le _,rfl,by simpa [rowB] using HB3.out,HW3.out,TX.refl _⟩
   case round =>
    obtain ⟨j,hj,rfl,hB4,hW4,hT4⟩:=hrel
    have HW4:Hid (Below w1.heap.size w1 wr):=hW4
    have HT4:Hid (TX w3 wr):=hT4
    have HB4:Hid (IsBu w1.heap.size w1.heap.size (Lib.byteCells (T++rowB ((Q k).take j))) wr):=hB4
    have hlj:(T++rowB ((Q k).take j)).length≤4800000000:=by
     have h1:=rowB_len (l:=(Q k).take j) (b:=b) (Nat.le_trans (by simp;omega) (HE.out.lens (i:=k) hlt)) (fun x hx=>HE.out.size (i:=k) hlt (List.mem_of_mem_take hx))
     have h3:b*1001≤700000*1001:=Nat.mul_le_mul hb (Nat.le_refl _)
     have h4:=HTl.out
     rw [List.length_append]
     omega
    have hlq:=HE.out.lens (i:=k) hlt
    clear hB4 hW4 hT4
    rcases Nat.lt_or_ge j (Q k).length with hltj | hgej
    ·obtain ⟨key,hkey⟩:∃ key,(Q k)[j]? = some key:=⟨_,List.getElem?_eq_getElem hltj⟩
     obtain ⟨g,rfl,hcell⟩:=row_cell HO3.out HT4.out.2 hkey
     have hks:=HE.out.size (i:=k) hlt (List.mem_of_getElem? hkey)
     have hw4:=write_b (⟨#[32]⟩:ByteArray) HB4.out (by show _+1≤_;omega) HW4.out.size
     have HKey:Hid (rowB ((Q k).take (j+1))=rowB ((Q k).take j)++(32::key.data.toList)):=rowB_take hkey
     clear hkey
     go_wp2_with (first
      | (go_at_call 191;refine Calls.mono hw4 ?_;clear hw4;rintro ee w4 ⟨rfl,hB5,hb5,ht5⟩;have HW5:Hid (Below w1.heap.size w1 w4):=(below_base HW4.out hb5);have HT5:Hid (TX w3 w4):=(HT4.out.step ht5 hb5);have hw5:=write_b key hB5 (by rw [List.length_append];show _+1+_≤_;omega) HW5.out.size;clear hB5 ht5)
      | (go_at_call 191;refine Calls.mono hw5 ?_;clear hw5;rintro ee w5 ⟨rfl,hB6,hb6,ht6⟩;have HW6:Hid (Below w1.heap.size w1 w5):=(below_base HW5.out hb6);have HT6:Hid (TX w3 w5):=(HT5.out.step ht6 hb6);have HB6:Hid _:=hB6;clear hB6 ht6))
     go_roundw
     case rel =>
      refine ⟨j+1,hltj,by go_num,?_,HW6.out,HT6.out⟩
      have h:IsBu w1.heap.size w1.heap.size (Lib.byteCells (T++rowB ((Q k).take j)++[32]++key.data.toList)) w5:=HB6.out
      have e9:T++rowB ((Q k).take (j+1))=T++rowB ((Q k).take j)++[32]++key.data.toList:=by rw [HKey.out];simp
      rw [e9]
      exact h
     case measure=>simp [intOf];omega
    ·have hj':j=(Q k).length:=by omega
     subst hj'
     go_wp2_with fail
     go_roundw
     case rel =>
      refine ⟨k+1,hlt,by go_num,?_,HW4.out⟩
      have h:=HB4.out
      rw [List.take_length] at h
      rw [← HT1.out]
      exact h
     case measure=>simp [intOf];omega
  ·have hk':k=3:=by omega
   subst hk'
   have hl4:=HLn.out 3 (Nat.le_refl _)
   have hst:=string_lib _ _ _ wr HB.out HWr.out.size
   go_wp2_with (go_at_call 194;refine Calls.mono hst ?_;clear hst;rintro ee w6 ⟨rfl,-,hb7⟩;have HW7:Hid (Below w1.heap.size w1 w6):=(below_base HWr.out hb7))
   go_ret
   refine ⟨?_,HW7.out⟩
   simp
end
end Go.Proofs.YtkkkkiejnmpdkaaGreatDoor.Lfu
