/- Lirs Eo: Eo -/
import Derived.Test.YtkkkkiejnmpdkaaGreatDoorLirsEf
import Derived.Test.YtkkkkiejnmpdkaaGreatDoorSh
namespace Go.Proofs.YtkkkkiejnmpdkaaGreatDoor.Lirs
open Go.RowKit
def rowB (l:List ByteArray):List UInt8:=l.flatMap (fun k=>32::k.data.toList)
def letB (Q:Nat→List ByteArray) (k:ByteArray):UInt8:=if inb k (Q 2) then 103 else if inb k (Q 1) then 99 else 104
def cellB (Q:Nat→List ByteArray) (k:ByteArray):List UInt8:=32::(k.data.toList++[47,letB Q k])
def sB (Q:Nat→List ByteArray) (l:List ByteArray):List UInt8:=l.flatMap (cellB Q)
def stB (Q:Nat→List ByteArray):List UInt8:=([83,58]++sB Q (Q 0))++([59,81,58]++rowB (Q 1))
theorem rowB_len {l:List ByteArray} {b:Nat} (hb:l.length≤b) (hk:∀ k∈l,k.size≤1000):(rowB l).length≤b*1001:=by
 induction l generalizing b with
 | nil=>simp [rowB]
 | cons k l ih =>
   cases b with
   | zero=>exact absurd hb (Nat.not_succ_le_zero _)
   | succ b =>
     have h1:=ih (b:=b) (Nat.le_of_succ_le_succ hb) (fun x hx=>hk x (by simp [hx]))
     have h2:=hk k (by simp)
     have h3:k.data.toList.length=k.size:=Array.length_toList
     simp only [rowB,List.flatMap_cons,List.length_append,List.length_cons] at h1 ⊢
     rw [h3]
     have e1:(b+1)*1001=b*1001+1001:=by omega
     omega
theorem rowB_take {l:List ByteArray} {j:Nat} {k:ByteArray} (h:l[j]? = some k):rowB (l.take (j+1))=rowB (l.take j)++(32::k.data.toList):=by
 rw [List.take_add_one,h]
 simp [rowB]
theorem sB_len {Q:Nat→List ByteArray} {l:List ByteArray} {b:Nat} (hb:l.length≤b) (hk:∀ k∈l,k.size≤1000):(sB Q l).length≤b*1003:=by
 induction l generalizing b with
 | nil=>simp [sB]
 | cons k l ih =>
   cases b with
   | zero=>exact absurd hb (Nat.not_succ_le_zero _)
   | succ b =>
     have h1:=ih (b:=b) (Nat.le_of_succ_le_succ hb) (fun x hx=>hk x (by simp [hx]))
     have h2:=hk k (by simp)
     have h3:k.data.toList.length=k.size:=Array.length_toList
     simp only [sB,cellB,List.flatMap_cons,List.length_append,List.length_cons,List.length_nil] at h1 ⊢
     rw [h3]
     have e1:(b+1)*1003=b*1003+1003:=by omega
     omega
theorem sB_take {Q:Nat→List ByteArray} {l:List ByteArray} {j:Nat} {k:ByteArray} (h:l[j]? = some k):sB Q (l.take (j+1))=sB Q (l.take j)++cellB Q k:=by
 rw [List.take_add_one,h]
 simp [sB]
section
variable {D:Nat→Prop} {w w':World} {e c b:Nat} {Q:Nat→List ByteArray}
theorem EN.all (H:EN D w e c Q b) (hb:b≤900000) {i:Nat} (hi:i<3) :
 ∃ pr,w.cell? ⟨e,1+i,none⟩=some (.pointer (some ⟨pr,0,none⟩))∧∀ W:World,Below w.heap.size w W→W.cell? ⟨e,1+i,none⟩=some (.pointer (some ⟨pr,0,none⟩)) ∧
  Calls Tryz.prog 192 #[.pointer (some ⟨pr,0,none⟩)] W fun ee w'=>∃ ad cap,ee=.returned (.slice ad (Q i).length cap)∧w'.ownsRow W.heap.size 9 1 (.slice ad (Q i).length cap) (Q i).length ((Q i).map Value.string)∧Below W.heap.size W w':=by
 obtain ⟨L,R,x,m,sp,H,r⟩:=H
 refine ⟨(R i).pr,H.row hi,fun W hW=>⟨(H.below hW).row hi,?_⟩⟩
 have h:=Ls.all_any ((H.below hW).li i hi) (by have:=r.few i hi;omega)
 have hk:=r.keys i hi
 have hl:(R i).row.length=(Q i).length:=by rw [← hk,List.length_map]
 have hm:((R i).row.map fun h=>Value.string ((R i).va h))=(Q i).map Value.string:=by rw [← hk,List.map_map];rfl
 rw [hl,hm] at h
 exact h
theorem row_cell {W W':World} {B:Nat} {ad:Option Addr} {cap:Nat} {zs:List ByteArray} (h:W.ownsRow B 9 1 (.slice ad zs.length cap) zs.length (zs.map Value.string)) (ht:∀ g:Nat,(∃ cur fz,W.heap[g]? = some (Obj.cells cur 9 fz))→W'.heap[g]? = W.heap[g]?) {j:Nat} {k:ByteArray} (hj:zs[j]? = some k) :
 ∃ g,ad=some ⟨g,0,none⟩∧W'.cell? ⟨g,j,none⟩=some (.string k):=by
 obtain ⟨g,cur,rfl,hb,hg,hc⟩:=Ls.ownsRow_block h (by have:=lt_of_at hj;omega)
 refine ⟨g,rfl,?_⟩
 rw [World.cell?_of_block (ht g ⟨_,_,hg⟩)]
 exact hc j _ (by rw [List.getElem?_map,hj];rfl)
theorem below_base {a x y:World} (h:Below a.heap.size a x) (k:Below a.heap.size x y):Below a.heap.size a y:=by
 have hs:=h.size
 exact ((Keeps.of_below (D:=fun k=>a.heap.size≤k) h).trans ⟨k.os,k.tape,k.output,k.size,fun i hi hn=>k.block i (by omega)⟩).below (Nat.le_refl _) (fun _ e=>e)
theorem below_trans' {a x y:World} (h:Below a.heap.size a x) (k:Below x.heap.size x y):Below a.heap.size a y :=
 ((Keeps.of_below (D:=fun _=>False) h).trans (Keeps.of_below k)).below (Nat.le_refl _) (fun _ e=>e.elim)
theorem buAt_below {B b:Nat} {p:Value} {bs:List Value} {x y:World} (h:BuAt B b p bs x) (k:Below x.heap.size x y):BuAt B b p bs y:=by
 obtain ⟨h1,v,h2,h3,h4⟩:=h
 refine ⟨h1,v,(k.block b (lt_of_block h2)).trans h2,⟨h3.1,?_⟩,h4⟩
 rcases h3.2 with h5 | ⟨g,cap,cur,fz,e1,e2,e3,e4⟩
 ·exact .inl h5
 ·exact .inr ⟨g,cap,cur,fz,e1,e2,(k.block g (lt_of_block e3)).trans e3,e4⟩
theorem isBu_below {B b:Nat} {bs:List Value} {x y:World} (h:IsBu B b bs x) (k:Below x.heap.size x y):IsBu B b bs y:=by
 rcases h with h | h
 ·exact .inl (buAt_below h k)
 ·exact .inr (buAt_below h k)
theorem write_b {B b:Nat} {l:List UInt8} {w:World} (s:ByteArray) (h:IsBu B b (Lib.byteCells l) w) (hlen:l.length+s.size≤100000000000) (hBw:B≤w.heap.size) :
 Calls Tryz.prog 191 #[.pointer (some ⟨b,0,none⟩),.string s] w fun e w'=>e=.returned (.tuple #[.int .i64 s.size,.nilIface])∧IsBu B b (Lib.byteCells (l++s.data.toList)) w'∧Below B w w'∧Txts w w':=by
 have:=write_any B b (Lib.byteCells l) s w h (by rw [Lib.byteCells_length];exact hlen) hBw
 rw [Lib.strCells_eq,← Lib.byteCells_append] at this
 exact this
def TX (x y:World):Prop:=x.heap.size≤y.heap.size∧∀ g:Nat,(∃ cur fz,x.heap[g]? = some (Obj.cells cur 9 fz))→y.heap[g]? = x.heap[g]?
theorem TX.refl (x:World):TX x x:=⟨Nat.le_refl _,fun _ _=>rfl⟩
theorem TX.step {x y z:World} {B:Nat} (h:TX x y) (k:Txts y z) (kb:Below B y z):TX x z:=by
 refine ⟨Nat.le_trans h.1 kb.size,fun g hg=>?_⟩
 obtain ⟨cur,fz,hc⟩:=hg
 have h2:=h.2 g ⟨cur,fz,hc⟩
 have h3:y.heap[g]? = some (Obj.cells cur 9 fz):=h2.trans hc
 rw [k g (lt_of_block h3) ⟨cur,fz,h3⟩,h2]
theorem TX.below {x y z:World} (h:TX x y) (k:Below y.heap.size y z):TX x z:=by
 refine ⟨Nat.le_trans h.1 k.size,fun g hg=>?_⟩
 obtain ⟨cur,fz,hc⟩:=hg
 have h2:=h.2 g ⟨cur,fz,hc⟩
 rw [k.block g (lt_of_block (h2.trans hc)),h2]
theorem letter_any (v:Ix.Sp):Calls Tryz.prog 260 #[Ix.V v] w fun ee w'=>ee=.returned (.string (if v.2.2=0 then if v.2.1=0 then ⟨#[104]⟩ else ⟨#[99]⟩ else ⟨#[103]⟩))∧Below w.heap.size w w':=by
 have HS:=spotAt_new w v
 have hb0:Hid (Below w.heap.size w (w.alloc (.cells #[.int .i64 (v.1:Nat),.int .i64 (v.2.1:Nat),.int .i64 (v.2.2:Nat)] 89))):=(Below.refl _ w).alloc (Nat.le_refl _) _
 have HSq:Hid (Ix.SpotAt (w.alloc (.cells #[.int .i64 (v.1:Nat),.int .i64 (v.2.1:Nat),.int .i64 (v.2.2:Nat)] 89)) w.heap.size v):=HS
 obtain ⟨y0,y1,y2,-⟩:=HS.cells
 clear HS
 by_cases h2:v.2.2=0
 ·have hg:=ghostA (v:=v) (t:=false) (by simp [h2])
  rw [if_pos h2]
  by_cases h1:v.2.1=0
  ·have hc:∀ W:World,Calls Tryz.prog 266 #[Ix.V v] W fun ee w'=>ee=.returned (.bool false)∧Below W.heap.size W w':=fun W=>by have:=cold_any (w:=W) v;rwa [show (!decide (v.2.1=0))=false by simp [h1]] at this
   rw [if_pos h1]
   clear h1 h2
   go_enter Tryz.func260,Tryz.ntmps260
   go_wp2_with (first
    | (go_at_call 249;refine Calls.mono (hg _) ?_;rintro ee w1 ⟨rfl,hb1⟩;have HS1:Hid (Ix.SpotAt w1 w.heap.size v):=HSq.out.below hb1;obtain ⟨z0,z1,z2,-⟩:=HS1.out.cells;clear y0 y1 y2)
    | (go_at_call 266;refine Calls.mono (hc _) ?_;rintro ee w2 ⟨rfl,hb2⟩))
   go_ret
   exact ⟨rfl,below_trans hb0.out (below_trans hb1 hb2)⟩
  ·have hc:∀ W:World,Calls Tryz.prog 266 #[Ix.V v] W fun ee w'=>ee=.returned (.bool true)∧Below W.heap.size W w':=fun W=>by have:=cold_any (w:=W) v;rwa [show (!decide (v.2.1=0))=true by simp [h1]] at this
   rw [if_neg h1]
   clear h1 h2
   go_enter Tryz.func260,Tryz.ntmps260
   go_wp2_with (first
    | (go_at_call 249;refine Calls.mono (hg _) ?_;rintro ee w1 ⟨rfl,hb1⟩;have HS1:Hid (Ix.SpotAt w1 w.heap.size v):=HSq.out.below hb1;obtain ⟨z0,z1,z2,-⟩:=HS1.out.cells;clear y0 y1 y2)
    | (go_at_call 266;refine Calls.mono (hc _) ?_;rintro ee w2 ⟨rfl,hb2⟩))
   go_ret
   exact ⟨rfl,below_trans hb0.out (below_trans hb1 hb2)⟩
 ·have hg:=ghostA (v:=v) (t:=true) (by simp [h2])
  rw [if_neg h2]
  clear h2
  go_enter Tryz.func260,Tryz.ntmps260
  go_wp2_with (go_at_call 249;refine Calls.mono (hg _) ?_;rintro ee w1 ⟨rfl,hb1⟩)
  go_ret
  exact ⟨rfl,below_trans hb0.out hb1⟩
theorem letter_is {v:Ix.Sp} {k:ByteArray} (h:(v.1=0↔k∉Q 0)∧(v.2.1=0↔k∉Q 1)∧(v.2.2=0↔k∉Q 2)):(if v.2.2=0 then if v.2.1=0 then (⟨#[104]⟩:ByteArray) else ⟨#[99]⟩ else ⟨#[103]⟩)=⟨#[letB Q k]⟩:=by
 unfold letB
 by_cases h2:v.2.2=0
 ·rw [if_pos h2,inb_no (h.2.2.1 h2)]
  by_cases h1:v.2.1=0
  ·rw [if_pos h1,inb_no (h.2.1.1 h1)];rfl
  ·have:k∈Q 1:=Classical.not_not.1 (fun h3=>h1 (h.2.1.2 h3))
   rw [if_neg h1,inb_yes this];rfl
 ·have:k∈Q 2:=Classical.not_not.1 (fun h3=>h2 (h.2.2.2 h3))
  rw [if_neg h2,inb_yes this];rfl
theorem letterA {v:Ix.Sp} {k:ByteArray} (h:(v.1=0↔k∉Q 0)∧(v.2.1=0↔k∉Q 1)∧(v.2.2=0↔k∉Q 2)):∀ W:World,Calls Tryz.prog 260 #[Ix.V v] W fun ee w'=>ee=.returned (.string ⟨#[letB Q k]⟩)∧Below W.heap.size W w':=fun W=>by
 have:=letter_any (w:=W) v
 rw [letter_is h] at this
 exact this
set_option maxRecDepth 100000 in
set_option maxHeartbeats 2000000 in
theorem state_any (H:EN D w e c Q b) (hb:b≤700000) :
 Calls Tryz.prog 240 #[.pointer (some ⟨e,0,none⟩)] w fun ee w'=>ee=.returned (.string ⟨(stB Q).toArray⟩)∧Below w.heap.size w w':=by
 have HE:Hid (EN D w e c Q b):=H
 obtain ⟨c0,c1,f1,heo,x,c6⟩:=EN.cells H
 have hbu0:IsBu w.heap.size w.heap.size (Lib.byteCells []) (w.alloc (.cells #[.pointer none,.slice none 0 0] 222)):=by
  refine .inl ⟨Nat.le_refl _,.slice none 0 0,heap_alloc_new w _,⟨by simp [Lib.byteCells],.inl ⟨rfl,by simp [Lib.byteCells]⟩⟩,by simp [Value.ownBlock]⟩
 have hw0:Below w.heap.size w (w.alloc (.cells #[.pointer none,.slice none 0 0] 222)):=(Below.refl _ w).alloc (Nat.le_refl _) _
 have hwr0:=write_b (⟨#[83,58]⟩:ByteArray) hbu0 (by show 0+2≤_;omega) hw0.size
 have HW0:Hid (Below w.heap.size w (w.alloc (.cells #[.pointer none,.slice none 0 0] 222))):=hw0
 have hl0:=H.lens (i:=0) (by omega)
 have hl1:=H.lens (i:=1) (by omega)
 obtain ⟨pr0,-,hall0⟩:=H.all (by omega) (i:=0) (by omega)
 obtain ⟨pr1,-,hall1⟩:=H.all (by omega) (i:=1) (by omega)
 have HAll0:Hid _:=hall0
 have HAll1:Hid _:=hall1
 have HQ0:Hid (∀ k∈Q 0,k.size≤1000):=fun k hk=>H.size (i:=0) (by omega) hk
 have HQ1:Hid (∀ k∈Q 1,k.size≤1000):=fun k hk=>H.size (i:=1) (by omega) hk
 clear H hbu0 hw0 hall0 hall1
 go_enter Tryz.func240,Tryz.ntmps240
 go_wp2_with (first
  | (go_at_call 242;refine (blank_any HE.out).mono ?_;rintro ee w1 ⟨rfl,rfl⟩)
  | (go_at_call 191;refine Calls.mono hwr0 ?_;clear hwr0;rintro ee w2 ⟨rfl,hB2,hb2,-⟩;have hw2:=below_base HW0.out hb2;obtain ⟨hc2,hall2⟩:=HAll0.out w2 hw2;have HB2:Hid _:=hB2;have HA2:Hid _:=hall2;clear hB2 hall2)
  | (go_at_call 192;refine Calls.mono HA2.out ?_;rintro ee w3 ⟨ad,cap,rfl,hown3,hb3⟩;have HB3:Hid (IsBu w1.heap.size w1.heap.size (Lib.byteCells [83,58]) w3):=(isBu_below HB2.out hb3);have HW3:Hid (Below w1.heap.size w1 w3):=(below_trans' hw2 hb3);have HO3:Hid _:=hown3;clear hown3 hb3))
 go_loopw [18] (fun i wx=>∃ j:Nat,j≤(Q 0).length∧i=.int .i64 j∧IsBu w1.heap.size w1.heap.size (Lib.byteCells ([83,58]++sB Q ((Q 0).take j))) wx∧Below w1.heap.size w1 wx∧TX w3 wx) (fun i _=>(Q 0).length - (intOf i).toNat)
 case atStart=>exact ⟨0,Nat.zero_le _,rfl,by simpa [sB] using HB3.out,HW3.out,TX.refl _⟩
 case round =>
  obtain ⟨j,hj,rfl,hB4,hW4,hT4⟩:=hrel
  have HW4:Hid (Below w1.heap.size w1 wr):=hW4
  have HT4:Hid (TX w3 wr):=hT4
  have HB4:Hid (IsBu w1.heap.size w1.heap.size (Lib.byteCells ([83,58]++sB Q ((Q 0).take j))) wr):=hB4
  have hlj:([83,58]++sB Q ((Q 0).take j)).length≤4800000000:=by
   have h1:=sB_len (Q:=Q) (l:=(Q 0).take j) (b:=b) (Nat.le_trans (by simp;omega) hl0) (fun x hx=>HQ0.out x (List.mem_of_mem_take hx))
   have h3:b*1003≤700000*1003:=Nat.mul_le_mul hb (Nat.le_refl _)
   rw [List.length_append]
   simp only [List.length_cons,List.length_nil]
   omega
  clear hB4 hW4 hT4
  rcases Nat.lt_or_ge j (Q 0).length with hltj | hgej
  ·obtain ⟨key,hkey⟩:∃ key,(Q 0)[j]? = some key:=⟨_,List.getElem?_eq_getElem hltj⟩
   obtain ⟨g,rfl,hcell⟩:=row_cell HO3.out HT4.out.2 hkey
   have hks:=HQ0.out key (List.mem_of_getElem? hkey)
   have hw4:=write_b (⟨#[32]⟩:ByteArray) HB4.out (by show _+1≤_;omega) HW4.out.size
   have HKey:Hid (sB Q ((Q 0).take (j+1))=sB Q ((Q 0).take j)++cellB Q key):=sB_take hkey
   have HKs:Hid (key.data.toList.length=key.size):=Array.length_toList
   generalize hT:[83,58]++sB Q ((Q 0).take j)=T at *
   have HT:Hid ([83,58]++sB Q ((Q 0).take j)=T):=hT
   clear hkey hT
   go_wp2_with (first
    | (go_at_call 191;refine Calls.mono hw4 ?_;clear hw4;rintro ee w4 ⟨rfl,hB5,hb5,ht5⟩;have HW5:Hid (Below w1.heap.size w1 w4):=(below_base HW4.out hb5);have HT5:Hid (TX w3 w4):=(HT4.out.step ht5 hb5);have hw5:=write_b key hB5 (by rw [List.length_append];show _+1+_≤_;omega) HW5.out.size;clear hB5 ht5)
    | (go_at_call 191;refine Calls.mono hw5 ?_;clear hw5;rintro ee w5 ⟨rfl,hB6,hb6,ht6⟩;have HW6:Hid (Below w1.heap.size w1 w5):=(below_base HW5.out hb6);have HT6:Hid (TX w3 w5):=(HT5.out.step ht6 hb6);have hw6:=write_b (⟨#[47]⟩:ByteArray) hB6 (by rw [List.length_append,List.length_append,HKs.out];show T.length+1+key.size+1≤_;omega) HW6.out.size;clear hB6 ht6)
    | (go_at_call 191;refine Calls.mono hw6 ?_;clear hw6;rintro ee w6 ⟨rfl,hB7,hb7,ht7⟩;have HW7:Hid (Below w1.heap.size w1 w6):=(below_base HW6.out hb7);have HT7:Hid (TX w3 w6):=(HT6.out.step ht7 hb7);have HB7:Hid _:=hB7;obtain ⟨v,hv,hs⟩:=spot_any (HE.out.below HW7.out) (by omega) key hks;have hle:=letterA hv;clear hB7 ht7 hv)
    | (go_at_call 250;refine Calls.mono hs ?_;clear hs;rintro ee w7 ⟨rfl,b7⟩)
    | (go_at_call 260;refine Calls.mono (hle _) ?_;clear hle;rintro ee w8 ⟨rfl,b8⟩;have b78:=below_trans b7 b8;have HW8:Hid (Below w1.heap.size w1 w8):=below_trans' HW7.out b78;have HT8:Hid (TX w3 w8):=HT7.out.below b78;have hw8:=write_b (⟨#[letB Q key]⟩:ByteArray) (isBu_below HB7.out b78) (by rw [List.length_append,List.length_append,List.length_append,HKs.out];show T.length+1+key.size+1+1≤_;omega) HW8.out.size)
    | (go_at_call 191;refine Calls.mono hw8 ?_;clear hw8;rintro ee w9 ⟨rfl,hB9,hb9,ht9⟩;have HW9:Hid (Below w1.heap.size w1 w9):=(below_base HW8.out hb9);have HT9:Hid (TX w3 w9):=(HT8.out.step ht9 hb9);have HB9:Hid _:=hB9;clear hB9 ht9))
   go_roundw
   case rel =>
    refine ⟨j+1,hltj,by go_num,?_,HW9.out,HT9.out⟩
    have h:IsBu w1.heap.size w1.heap.size (Lib.byteCells (T++[32]++key.data.toList++[47]++[letB Q key])) w9:=HB9.out
    have e9:[83,58]++sB Q ((Q 0).take (j+1))=T++[32]++key.data.toList++[47]++[letB Q key]:=by rw [HKey.out,← HT.out];simp [cellB]
    rw [e9]
    exact h
   case measure=>simp [intOf];omega
  ·have hj':j=(Q 0).length:=by omega
   subst hj'
   have HT':Hid ([83,58]++sB Q ((Q 0).take (Q 0).length)=[83,58]++sB Q (Q 0)):=by
    show [83,58]++sB Q ((Q 0).take (Q 0).length)=[83,58]++sB Q (Q 0)
    rw [List.take_length]
   have HB4':Hid (IsBu w1.heap.size w1.heap.size (Lib.byteCells ([83,58]++sB Q (Q 0))) wr):=by
    have:=HB4.out
    rw [HT'.out] at this
    exact this
   rw [HT'.out] at hlj
   clear HB4 HT'
   have hw4:=write_b (⟨#[59,81,58]⟩:ByteArray) HB4'.out (by show _+3≤_;omega) HW4.out.size
   obtain ⟨S,hS⟩:∃ S:List UInt8,S=[83,58]++sB Q (Q 0)++[59,81,58]:=⟨_,rfl⟩
   have HSq:Hid (S=[83,58]++sB Q (Q 0)++[59,81,58]):=hS
   have HSl:Hid (S.length≤4900000000):=by
    show S.length≤4900000000
    rw [hS,List.length_append]
    simp only [List.length_cons,List.length_nil] at hlj ⊢
    omega
   clear hS
   go_wp2_with (first
    | (go_at_call 191;refine Calls.mono hw4 ?_;clear hw4;rintro ee w4 ⟨rfl,hB5,hb5,-⟩;have hW5:=(below_base HW4.out hb5);have HB5:Hid _:=hB5;obtain ⟨hc5,hall5⟩:=HAll1.out w4 hW5;have HA5:Hid _:=hall5;clear hB5 hall5)
    | (go_at_call 192;refine Calls.mono HA5.out ?_;rintro ee w6 ⟨ad6,cap6,rfl,hown6,hb6⟩;have HB6:Hid (IsBu w1.heap.size w1.heap.size (Lib.byteCells S) w6):=(by have:=isBu_below HB5.out hb6;rw [HSq.out];exact this);have HW6:Hid (Below w1.heap.size w1 w6):=(below_trans' hW5 hb6);have HO6:Hid _:=hown6;clear hown6 hb6))
   go_loopw [40] (fun i wx=>∃ j:Nat,j≤(Q 1).length∧i=.int .i64 j∧IsBu w1.heap.size w1.heap.size (Lib.byteCells (S++rowB ((Q 1).take j))) wx∧Below w1.heap.size w1 wx∧TX w6 wx) (fun i _=>(Q 1).length - (intOf i).toNat)
   case atStart=>exact ⟨0,Nat.zero_le _,rfl,by simpa [rowB] using HB6.out,HW6.out,TX.refl _⟩
   case round =>
    obtain ⟨i,hi,rfl,hB7,hW7,hT7⟩:=hrel
    have HW7:Hid (Below w1.heap.size w1 wr):=hW7
    have HT7:Hid (TX w6 wr):=hT7
    have HB7:Hid (IsBu w1.heap.size w1.heap.size (Lib.byteCells (S++rowB ((Q 1).take i))) wr):=hB7
    have hli:(S++rowB ((Q 1).take i)).length≤9800000000:=by
     have h1:=rowB_len (l:=(Q 1).take i) (b:=b) (Nat.le_trans (by simp;omega) hl1) (fun x hx=>HQ1.out x (List.mem_of_mem_take hx))
     have h3:b*1001≤700000*1001:=Nat.mul_le_mul hb (Nat.le_refl _)
     have h4:=HSl.out
     rw [List.length_append]
     omega
    clear hB7 hW7 hT7
    rcases Nat.lt_or_ge i (Q 1).length with hlti | hgei
    ·obtain ⟨key,hkey⟩:∃ key,(Q 1)[i]? = some key:=⟨_,List.getElem?_eq_getElem hlti⟩
     obtain ⟨g,rfl,hcell⟩:=row_cell HO6.out HT7.out.2 hkey
     have hks:=HQ1.out key (List.mem_of_getElem? hkey)
     have hw8:=write_b (⟨#[32]⟩:ByteArray) HB7.out (by show _+1≤_;omega) HW7.out.size
     have HKey:Hid (rowB ((Q 1).take (i+1))=rowB ((Q 1).take i)++(32::key.data.toList)):=rowB_take hkey
     clear hkey
     go_wp2_with (first
      | (go_at_call 191;refine Calls.mono hw8 ?_;clear hw8;rintro ee w8 ⟨rfl,hB8,hb8,ht8⟩;have HW8:Hid (Below w1.heap.size w1 w8):=(below_base HW7.out hb8);have HT8:Hid (TX w6 w8):=(HT7.out.step ht8 hb8);have hw9:=write_b key hB8 (by rw [List.length_append];show _+1+_≤_;omega) HW8.out.size;clear hB8 ht8)
      | (go_at_call 191;refine Calls.mono hw9 ?_;clear hw9;rintro ee w9 ⟨rfl,hB9,hb9,ht9⟩;have HW9:Hid (Below w1.heap.size w1 w9):=(below_base HW8.out hb9);have HT9:Hid (TX w6 w9):=(HT8.out.step ht9 hb9);have HB9:Hid _:=hB9;clear hB9 ht9))
     go_roundw
     case rel =>
      refine ⟨i+1,hlti,by go_num,?_,HW9.out,HT9.out⟩
      have h:IsBu w1.heap.size w1.heap.size (Lib.byteCells (S++rowB ((Q 1).take i)++[32]++key.data.toList)) w9:=HB9.out
      have e9:S++rowB ((Q 1).take (i+1))=S++rowB ((Q 1).take i)++[32]++key.data.toList:=by rw [HKey.out];simp
      rw [e9]
      exact h
     case measure=>simp [intOf];omega
    ·have hi':i=(Q 1).length:=by omega
     subst hi'
     have hst:=string_lib _ _ _ wr HB7.out HW7.out.size
     go_wp2_with (go_at_call 194;refine Calls.mono hst ?_;clear hst;rintro ee w8 ⟨rfl,-,hb8⟩;have HW8:Hid (Below w1.heap.size w1 w8):=(below_base HW7.out hb8))
     go_ret
     refine ⟨?_,HW8.out⟩
     have e9:S++rowB (Q 1)=stB Q:=by rw [HSq.out];simp [stB]
     rw [← e9]
     simp
end
end Go.Proofs.YtkkkkiejnmpdkaaGreatDoor.Lirs
