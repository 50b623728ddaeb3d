/- Sfifo Eo: Bd Eo -/
import Derived.Test.YtkkkkiejnmpdkaaGreatDoorSh
import Derived.Test.YtkkkkiejnmpdkaaGreatDoorTx
import Derived.Test.YtkkkkiejnmpdkaaGreatDoorSfifoEf
namespace Go.Proofs.YtkkkkiejnmpdkaaGreatDoor.Sfifo
open Go.RowKit
theorem binfo:(Tryz.prog.info? 5).map (fun i=>(i.zero,i.size,i.bytes))=some (some (.int .u8 0),1,1):=by kernel_rfl
abbrev BuAt (B b:Nat) (p:Value) (bs:List Value) (w:World):Prop:=Lib.BuilderAtF 222 5 B b p bs w
abbrev IsBu (B b:Nat) (bs:List Value) (w:World):Prop:=Lib.IsBuilderF 222 5 B b bs w
def Txts (w w':World):Prop:=∀ g,g<w.heap.size→(∃ cur fz,w.heap[g]? = some (.cells cur 120 fz))→w'.heap[g]? = w.heap[g]?
set_option maxHeartbeats 1000000 in
set_option maxRecDepth 100000 in
theorem copy_used (b:Nat) (w:World) (h0:w.cell? ⟨b,0,none⟩=some (.pointer (some ⟨b,0,none⟩))) :
 Calls Tryz.prog 203 #[.pointer (some ⟨b,0,none⟩)] w fun e w'=>e=.returned (.tuple #[])∧w'=w:=by
 obtain ⟨j,hj,_⟩:=Option.map_eq_some_iff.1 sh_strx.sizeBuilder
 go_enter Tryz.func203,Tryz.ntmps203
 go_wp2
 rw [Lib.run_neq_ptr_same w _ Tryz.underlying220 hj]
 go_wp2
 go_end0
 exact ⟨rfl,rfl⟩
set_option maxHeartbeats 1000000 in
set_option maxRecDepth 100000 in
theorem copy_fresh (b:Nat) (w:World) (h0:w.cell? ⟨b,0,none⟩=some (.pointer none)) (hsh:w.shape? b=some (222,2)) (hfz:w.frozen? ⟨b,0,none⟩=false) :
 Calls Tryz.prog 203 #[.pointer (some ⟨b,0,none⟩)] w fun e w'=>e=.returned (.tuple #[])∧w'=w.setCell ⟨b,0,none⟩ (.pointer (some ⟨b,0,none⟩)):=by
 obtain ⟨j,hj,hjs⟩:=Option.map_eq_some_iff.1 sh_strx.sizeBuilder
 go_enter Tryz.func203,Tryz.ntmps203
 go_wp2
 rw [Lib.run_to_unsafe w ⟨b,0,none⟩ Tryz.underlying220 Tryz.underlying238 hj (by rw [hjs];decide) hsh (Nat.zero_lt_succ 1)]
 simp only [Result.andThen]
 rw [Oper.upon_value]
 go_wp2
 rw [run_callFunc_extern Tryz.func216 (by kernel_rfl) (by kernel_rfl) (by kernel_rfl) (e:=Extern.AbiNoEscape.same) (by kernel_rfl)]
 rw [Lib.run_noEscape]
 simp only [Result.andThen]
 rw [Oper.upon_value]
 go_wp2
 rw [Lib.run_from_unsafe w ⟨b,0,none⟩ Tryz.underlying238 Tryz.underlying220 hj hsh sh_strx.liesBuilder]
 simp only [Result.andThen]
 rw [Oper.upon_value]
 go_wp2
 go_end0
 exact ⟨rfl,rfl⟩
theorem copy_any (B b:Nat) (bs:List Value) (w:World) (h:IsBu B b bs w) :
 Calls Tryz.prog 203 #[.pointer (some ⟨b,0,none⟩)] w fun e w'=>e=.returned (.tuple #[])∧BuAt B b (.pointer (some ⟨b,0,none⟩)) bs w'∧Below B w w'∧∀ g,g≠b→w'.heap[g]? = w.heap[g]?:=by
 rcases h with h | h
 ·refine (copy_fresh b w h.cell0 h.shape h.frozen0).mono ?_
  rintro e w' ⟨rfl,rfl⟩
  exact ⟨rfl,h.used _,(Below.refl B w).setCell (p:=⟨b,0,none⟩) h.1 _,fun g hg=>Below.heap_setCell _ _ _ _ hg⟩
 ·refine (copy_used b w h.cell0).mono ?_
  rintro e w' ⟨rfl,rfl⟩
  exact ⟨rfl,h,Below.refl B _,fun _ _=>rfl⟩
set_option maxHeartbeats 2000000 in
set_option maxRecDepth 100000 in
theorem write_any (B b:Nat) (bs:List Value) (s:ByteArray) (w:World) (h:IsBu B b bs w) (hlen:bs.length+s.size≤100000000000) (hBw:B≤w.heap.size) :
 Calls Tryz.prog 191 #[.pointer (some ⟨b,0,none⟩),.string s] w fun e w'=>e=.returned (.tuple #[.int .i64 s.size,.nilIface])∧IsBu B b (bs++Lib.strCells s) w'∧Below B w w'∧Txts w w':=by
 obtain ⟨i0,hi,hz0,hz1,hz2⟩:=info_parts binfo
 go_enter Tryz.func191,Tryz.ntmps191
 go_wp2_with (go_at_call 203;refine (copy_any B b bs _ h).mono ?_)
 rintro e w1 ⟨rfl,h1,hb1,hg1⟩
 obtain ⟨hB,v,hbk,hown,hne⟩:=h1
 have c0:w1.cell? ⟨b,0,none⟩=some (.pointer (some ⟨b,0,none⟩)):=by rw [cell_of_block hbk];rfl
 have c1:w1.cell? ⟨b,1,none⟩=some v:=by rw [cell_of_block hbk];rfl
 have hs1:=hb1.size
 go_wp2_with (at_builtin;refine Lib.wpList_append_own_stringF _ rfl _ _ 140 9 rfl B 5 i0 Tryz.underlying140 Tryz.underlying9 hi hz0 hz1 hz2 _ _ _ rfl hown s rfl ?c3 ?c4 ?c5 ?_)
 case c3=>unfold maxLen;omega
 case c4=>omega
 case c5=>omega
 intro v' w2 hown' hgrow _
 have hlt:=lt_of_block hbk
 have hb2:w2.heap[b]? = some (.cells #[.pointer (some ⟨b,0,none⟩),v] 222 (0,0)):=(hgrow.block b hlt (fun e=>hne e.symm)).trans hbk
 have d0:w2.cell? ⟨b,0,none⟩=some (.pointer (some ⟨b,0,none⟩)):=by rw [cell_of_block hb2];rfl
 have d1:w2.cell? ⟨b,1,none⟩=some v:=by rw [cell_of_block hb2];rfl
 have f1:w2.frozen? ⟨b,1,none⟩=false:=frozen_of_block hb2
 obtain ⟨ao,n',cap,rfl⟩:∃ ao n' cap,v'=.slice ao n' cap:=by
  rcases hown'.2 with ⟨hv,_⟩ | ⟨g,cap,cur,fz,hv,_⟩
  ·exact ⟨_,_,_,hv⟩
  ·exact ⟨_,_,_,hv⟩
 go_wp2
 go_ret2
 refine ⟨rfl,.inr ?_,?_,?_⟩
 ·exact Lib.BuilderAtF.put (T:=222) (e:=5) hB hb2 (bs':=bs++Lib.strCells s) (by simpa [Lib.strCells_length] using hown') (by decide)
 ·exact (hb1.grown hgrow (by omega) (fun k hk=>(hown.lt k hk).1)).setCell (p:=⟨b,1,none⟩) hB _
 ·rintro g hg ⟨cur,fz,hc⟩
  have hgb:g≠b:=by
   rintro rfl
   rcases h with h | h <;> obtain ⟨_,v0,hv0,_⟩:=h <;> (rw [hv0] at hc;cases hc)
  have hc1:w1.heap[g]? = some (.cells cur 120 fz):=(hg1 g hgb).trans hc
  have hgv:some g≠v.ownBlock:=by
   intro e1
   rcases hown.2 with ⟨hv,_⟩ | ⟨g0,cap0,cur0,fz0,hv,_,h0,_⟩
   ·rw [hv] at e1;cases e1
   ·rw [hv] at e1
    simp [Value.ownBlock] at e1
    subst e1
    rw [h0] at hc1
    cases hc1
  rw [Below.heap_setCell _ _ _ _ (by exact hgb),hgrow.block g (lt_of_block hc1) hgv,hg1 g hgb]
end Go.Proofs.YtkkkkiejnmpdkaaGreatDoor.Sfifo
namespace Go.Proofs.YtkkkkiejnmpdkaaGreatDoor.Sfifo
open Go.RowKit
theorem dec_len:∀ u:Nat,(Lib.decDigits u).length≤u+1:=by
 intro u
 induction u using Nat.strongRecOn with
 | ind u ih =>
   by_cases h:u<10
   ·rw [Lib.decDigits,dif_pos h];simp
   ·rw [Lib.decDigits,dif_neg h,List.length_append,List.length_singleton]
    have:=ih (u / 10) (by omega)
    omega
def itB (r:Nat) (x:Ls.It):List UInt8:=32::(x.key.data.toList++(if r=2 then [] else 47::Lib.decDigits x.n))
def rowI (r:Nat) (l:List Ls.It):List UInt8:=l.flatMap (itB r)
def nameB (i:Nat):List UInt8:=if i=0 then [83,58] else if i=1 then [59,77,58] else [59,71,58]
def oneB (Q:Nat→List Ls.It) (i:Nat):List UInt8:=nameB i++rowI i (Q i)
def stB (Q:Nat→List Ls.It) (n:Nat):List UInt8:=(List.range n).flatMap (oneB Q)
theorem stB_more (Q:Nat→List Ls.It) (n:Nat):stB Q (n+1)=stB Q n++oneB Q n:=by simp [stB,List.range_succ]
theorem nameB_len (i:Nat):(nameB i).length≤3:=by
 unfold nameB
 split
 ·decide
 ·split <;> decide
theorem itB_len (r:Nat) {x:Ls.It} (h1:x.key.size≤1000) (h2:x.n≤3):(itB r x).length≤1006:=by
 have h3:x.key.data.toList.length=x.key.size:=Array.length_toList
 have h4:=dec_len x.n
 unfold itB
 rw [List.length_cons,List.length_append,h3]
 split
 ·simp;omega
 ·rw [List.length_cons];omega
theorem rowI_len {r:Nat} {l:List Ls.It} {b:Nat} (hb:l.length≤b) (hk:∀ x∈l,x.key.size≤1000∧x.n≤3):(rowI r l).length≤b*1006:=by
 induction l generalizing b with
 | nil=>simp [rowI]
 | cons x l ih =>
   cases b with
   | zero=>exact absurd hb (Nat.not_succ_le_zero _)
   | succ b =>
     have h1:=ih (b:=b) (Nat.le_of_succ_le_succ hb) (fun x hx=>hk x (by simp [hx]))
     have h2:=itB_len r (hk x (by simp)).1 (hk x (by simp)).2
     simp only [rowI,List.flatMap_cons,List.length_append] at h1 ⊢
     have e1:(b+1)*1006=b*1006+1006:=by omega
     omega
theorem rowI_take {r:Nat} {l:List Ls.It} {j:Nat} {x:Ls.It} (h:l[j]? = some x):rowI r (l.take (j+1))=rowI r (l.take j)++itB r x:=by
 rw [List.take_add_one,h]
 simp [rowI]
section
variable {D:Nat→Prop} {w w':World} {e c b:Nat} {Q:Nat→List Ls.It}
theorem stB_len (H:EN D w e c Q b) (hb:b≤700000):∀ n,n≤3→(stB Q n).length≤n*800000000:=by
 intro n
 induction n with
 | zero=>intro _;simp [stB]
 | succ n ih =>
   intro hn
   have h1:=ih (by omega)
   have h2:=rowI_len (r:=n) (H.lens (i:=n) (by omega)) (fun k hk=>H.size (i:=n) (by omega) hk)
   have h3:b*1006≤700000*1006:=Nat.mul_le_mul hb (Nat.le_refl _)
   have h4:=nameB_len n
   rw [stB_more,List.length_append]
   simp only [oneB,List.length_append]
   have e1:(n+1)*800000000=n*800000000+800000000:=by omega
   omega
theorem EN.all (H:EN D w e c Q b) (hb:b≤900000) {i:Nat} (hi:i<3) :
 ∃ pr,w.cell? ⟨e,1+i,none⟩=some (.pointer (some ⟨pr,0,none⟩))∧∀ W:World,Below w.heap.size w W→W.cell? ⟨e,1+i,none⟩=some (.pointer (some ⟨pr,0,none⟩)) ∧
  Calls Tryz.prog 373 #[.pointer (some ⟨pr,0,none⟩)] W fun ee w'=>∃ ad cap,ee=.returned (.slice ad (Q i).length cap)∧w'.ownsRow W.heap.size 120 2 (.slice ad (Q i).length cap) (Q i).length (Ls.its (Q i))∧Below W.heap.size W w':=by
 obtain ⟨L,R,x,m,H,r⟩:=H
 refine ⟨(R i).pr,H.row hi,fun W hW=>⟨(H.below hW).row hi,?_⟩⟩
 have h:=Ls.all_any ((H.below hW).li i hi) (by have:=r.few i hi;omega)
 have hk:=r.keys i hi
 have hl:(R i).row.length=(Q i).length:=by rw [← hk,List.length_map]
 rw [hl,hk] at h
 exact h
theorem row_item {W W':World} {B:Nat} {ad:Option Addr} {cap:Nat} {zs:List Ls.It} (h:W.ownsRow B 120 2 (.slice ad zs.length cap) zs.length (Ls.its zs)) (ht:∀ g:Nat,(∃ cur fz,W.heap[g]? = some (Obj.cells cur 120 fz))→W'.heap[g]? = W.heap[g]?) {j:Nat} {x:Ls.It} (hj:zs[j]? = some x) :
 ∃ g,ad=some ⟨g,0,none⟩∧W'.cell? ⟨g,j*2,none⟩=some (.string x.key)∧W'.cell? ⟨g,j*2+1,none⟩=some (.int .i64 (x.n:Nat)):=by
 obtain ⟨g,cur,rfl,hb,hg,hc⟩:=Ls.ownsRow_block h (by have:=lt_of_at hj;omega)
 obtain ⟨h1,h2⟩:=Ls.its_at hj
 refine ⟨g,rfl,?_,?_⟩
 ·rw [World.cell?_of_block (ht g ⟨_,_,hg⟩)]
  exact hc _ _ h1
 ·rw [World.cell?_of_block (ht g ⟨_,_,hg⟩)]
  exact hc _ _ h2
theorem name0:∀ W:World,(Instr.index 265 (.agg #[.string ⟨#[83,58]⟩,.string ⟨#[59,77,58]⟩,.string ⟨#[59,71,58]⟩]) (.int .i64 0)).run Tryz.prog W=.ok (.string ⟨#[83,58]⟩) W:=fun _=>by kernel_rfl
theorem name1:∀ W:World,(Instr.index 265 (.agg #[.string ⟨#[83,58]⟩,.string ⟨#[59,77,58]⟩,.string ⟨#[59,71,58]⟩]) (.int .i64 1)).run Tryz.prog W=.ok (.string ⟨#[59,77,58]⟩) W:=fun _=>by kernel_rfl
theorem name2:∀ W:World,(Instr.index 265 (.agg #[.string ⟨#[83,58]⟩,.string ⟨#[59,77,58]⟩,.string ⟨#[59,71,58]⟩]) (.int .i64 2)).run Tryz.prog W=.ok (.string ⟨#[59,71,58]⟩) W:=fun _=>by kernel_rfl
theorem name_at (k:Nat) (hk:k<3):∀ W:World,(Instr.index 265 (.agg #[.string ⟨#[83,58]⟩,.string ⟨#[59,77,58]⟩,.string ⟨#[59,71,58]⟩]) (.int .i64 (k:Nat))).run Tryz.prog W=.ok (.string ⟨(nameB k).toArray⟩) W:=by
 have:k=0∨k=1∨k=2:=by omega
 rcases this with e | e | e <;> subst e
 ·exact name0
 ·exact name1
 ·exact name2
theorem below_base {a x y:World} (h:Below a.heap.size a x) (k:Below a.heap.size x y):Below a.heap.size a y:=by
 have hs:=h.size
 exact ((Keeps.of_below (D:=fun k=>a.heap.size≤k) h).trans ⟨k.os,k.tape,k.output,k.size,fun i hi hn=>k.block i (by omega)⟩).below (Nat.le_refl _) (fun _ e=>e)
theorem below_trans' {a x y:World} (h:Below a.heap.size a x) (k:Below x.heap.size x y):Below a.heap.size a y :=
 ((Keeps.of_below (D:=fun _=>False) h).trans (Keeps.of_below k)).below (Nat.le_refl _) (fun _ e=>e.elim)
theorem buAt_below {B b:Nat} {p:Value} {bs:List Value} {x y:World} (h:BuAt B b p bs x) (k:Below x.heap.size x y):BuAt B b p bs y:=by
 obtain ⟨h1,v,h2,h3,h4⟩:=h
 refine ⟨h1,v,(k.block b (lt_of_block h2)).trans h2,⟨h3.1,?_⟩,h4⟩
 rcases h3.2 with h5 | ⟨g,cap,cur,fz,e1,e2,e3,e4⟩
 ·exact .inl h5
 ·exact .inr ⟨g,cap,cur,fz,e1,e2,(k.block g (lt_of_block e3)).trans e3,e4⟩
theorem isBu_below {B b:Nat} {bs:List Value} {x y:World} (h:IsBu B b bs x) (k:Below x.heap.size x y):IsBu B b bs y:=by
 rcases h with h | h
 ·exact .inl (buAt_below h k)
 ·exact .inr (buAt_below h k)
theorem write_b {B b:Nat} {l:List UInt8} {w:World} (s:ByteArray) (h:IsBu B b (Lib.byteCells l) w) (hlen:l.length+s.size≤100000000000) (hBw:B≤w.heap.size) :
 Calls Tryz.prog 191 #[.pointer (some ⟨b,0,none⟩),.string s] w fun e w'=>e=.returned (.tuple #[.int .i64 s.size,.nilIface])∧IsBu B b (Lib.byteCells (l++s.data.toList)) w'∧Below B w w'∧Txts w w':=by
 have:=write_any B b (Lib.byteCells l) s w h (by rw [Lib.byteCells_length];exact hlen) hBw
 rw [Lib.strCells_eq,← Lib.byteCells_append] at this
 exact this
def TX (x y:World):Prop:=x.heap.size≤y.heap.size∧∀ g:Nat,(∃ cur fz,x.heap[g]? = some (Obj.cells cur 120 fz))→y.heap[g]? = x.heap[g]?
theorem TX.refl (x:World):TX x x:=⟨Nat.le_refl _,fun _ _=>rfl⟩
theorem TX.step {x y z:World} {B:Nat} (h:TX x y) (k:Txts y z) (kb:Below B y z):TX x z:=by
 refine ⟨Nat.le_trans h.1 kb.size,fun g hg=>?_⟩
 obtain ⟨cur,fz,hc⟩:=hg
 have h2:=h.2 g ⟨cur,fz,hc⟩
 have h3:y.heap[g]? = some (Obj.cells cur 120 fz):=h2.trans hc
 rw [k g (lt_of_block h3) ⟨cur,fz,h3⟩,h2]
theorem TX.under {x y z:World} (h:TX x y) (kb:Below y.heap.size y z):TX x z:=by
 refine ⟨Nat.le_trans h.1 kb.size,fun g hg=>?_⟩
 obtain ⟨cur,fz,hc⟩:=hg
 have h2:=h.2 g ⟨cur,fz,hc⟩
 rw [kb.block g (lt_of_block (h2.trans hc)),h2]
set_option maxRecDepth 100000 in
set_option maxHeartbeats 1000000 in
theorem state_any (H:EN D w e c Q b) (hb:b≤700000) :
 Calls Tryz.prog 360 #[.pointer (some ⟨e,0,none⟩)] w fun ee w'=>ee=.returned (.string ⟨(stB Q 3).toArray⟩)∧Below w.heap.size w w':=by
 have HE:Hid (EN D w e c Q b):=H
 obtain ⟨c0,c1,f1,heo,x,c6⟩:=EN.cells H
 have HLn:Hid (∀ n,n≤3→(stB Q n).length≤n*800000000):=stB_len H hb
 have hbu0:IsBu w.heap.size w.heap.size (Lib.byteCells (stB Q 0)) (w.alloc (.cells #[.pointer none,.slice none 0 0] 222)):=by
  refine .inl ⟨Nat.le_refl _,.slice none 0 0,heap_alloc_new w _,⟨by simp [stB,Lib.byteCells],.inl ⟨rfl,by simp [stB,Lib.byteCells]⟩⟩,by simp [Value.ownBlock]⟩
 have HB0:Hid _:=hbu0
 have HW0:Hid (Below w.heap.size w (w.alloc (.cells #[.pointer none,.slice none 0 0] 222))):=(Below.refl _ w).alloc (Nat.le_refl _) _
 clear H hbu0
 go_enter Tryz.func360,Tryz.ntmps360
 go_wp2_with (go_at_call 362;refine (blank_any HE.out).mono ?_;rintro ee w1 ⟨rfl,rfl⟩)
 go_loopw [11] (fun i wr=>∃ k:Nat,k≤3∧i=.int .i64 k∧IsBu w1.heap.size w1.heap.size (Lib.byteCells (stB Q k)) wr∧Below w1.heap.size w1 wr) (fun i _=>3 - (intOf i).toNat)
 case atStart=>exact ⟨0,by omega,rfl,HB0.out,HW0.out⟩
 case round =>
  obtain ⟨k,hk,rfl,hB,hW⟩:=hrel
  have HB:Hid (IsBu w1.heap.size w1.heap.size (Lib.byteCells (stB Q k)) wr):=hB
  have HWr:Hid (Below w1.heap.size w1 wr):=hW
  clear hB hW
  rcases Nat.lt_or_ge k 3 with hlt | hge
  ·obtain ⟨nm,hn0⟩:∃ nm:ByteArray,nm=⟨(nameB k).toArray⟩:=⟨_,rfl⟩
   have hnm:=name_at k hlt
   have hns:nm.size≤3:=by rw [hn0];show (nameB k).toArray.size≤3;rw [List.size_toArray];exact nameB_len k
   have hcs0:Lib.byteCells (stB Q k)++Lib.strCells nm=Lib.byteCells (stB Q k++nameB k):=by
    rw [Lib.strCells_eq,← Lib.byteCells_append,hn0]
   have hwr:=write_any w1.heap.size w1.heap.size (Lib.byteCells (stB Q k)) nm wr HB.out (by rw [Lib.byteCells_length];have:=HLn.out k hk;omega) HWr.out.size
   rw [hcs0] at hwr
   clear hcs0
   rw [← hn0] at hnm
   have hln:=HLn.out k hk
   have hrl:(rowI k (Q k)).length≤800000000:=by
    have h2:=rowI_len (r:=k) (HE.out.lens (i:=k) hlt) (fun x hx=>HE.out.size (i:=k) hlt hx)
    have h3:b*1006≤700000*1006:=Nat.mul_le_mul hb (Nat.le_refl _)
    omega
   obtain ⟨pr,-,hall⟩:=HE.out.all (by omega) hlt
   have HAll:Hid _:=hall
   clear hall hn0
   go_wp2_with (first
    | (go_at_call 191;refine Calls.mono hwr ?_;clear hwr;rintro ee w2 ⟨rfl,hB2,hb2,-⟩;have hw2:=below_base HWr.out hb2;obtain ⟨hc2,hall2⟩:=HAll.out w2 hw2;have HB2:Hid _:=hB2;have HA2:Hid _:=hall2;clear hB2 hall2)
    | (go_at_call 373;refine Calls.mono HA2.out ?_;rintro ee w3 ⟨ad,cap,rfl,hown3,hb3⟩;have HB3:Hid (IsBu w1.heap.size w1.heap.size (Lib.byteCells (stB Q k++nameB k)) w3):=(isBu_below HB2.out hb3);have HW3:Hid (Below w1.heap.size w1 w3):=(below_trans' hw2 hb3);have HO3:Hid _:=hown3;clear hown3 hb3))
   obtain ⟨T,hT⟩:∃ T:List UInt8,T=stB Q k++nameB k:=⟨_,rfl⟩
   have HTl:Hid (T.length≤4000000000):=by
    have h1:=HLn.out k hk
    have h2:=nameB_len k
    show T.length≤4000000000
    rw [hT]
    simp only [List.length_append]
    omega
   have HT1:Hid (T++rowI k (Q k)=stB Q (k+1)):=by
    show T++rowI k (Q k)=stB Q (k+1)
    rw [stB_more,hT]
    simp [oneB]
   rw [← hT] at HB3
   clear hT
   go_loopw [25] (fun i wx=>∃ j:Nat,j≤(Q k).length∧i=.int .i64 j∧IsBu w1.heap.size w1.heap.size (Lib.byteCells (T++rowI k ((Q k).take j))) wx∧Below w1.heap.size w1 wx∧TX w3 wx) (fun i _=>(Q k).length - (intOf i).toNat)
   case atStart=>exact ⟨0,Nat.zero_le _,rfl,by simpa [rowI] using HB3.out,HW3.out,TX.refl _⟩
   case round =>
    obtain ⟨j,hj,rfl,hB4,hW4,hT4⟩:=hrel
    have HW4:Hid (Below w1.heap.size w1 wr):=hW4
    have HT4:Hid (TX w3 wr):=hT4
    have HB4:Hid (IsBu w1.heap.size w1.heap.size (Lib.byteCells (T++rowI k ((Q k).take j))) wr):=hB4
    have hlj:(T++rowI k ((Q k).take j)).length≤4800000000:=by
     have h1:=rowI_len (r:=k) (l:=(Q k).take j) (b:=b) (Nat.le_trans (by simp;omega) (HE.out.lens (i:=k) hlt)) (fun x hx=>HE.out.size (i:=k) hlt (List.mem_of_mem_take hx))
     have h3:b*1006≤700000*1006:=Nat.mul_le_mul hb (Nat.le_refl _)
     have h4:=HTl.out
     rw [List.length_append]
     omega
    have hlq:=HE.out.lens (i:=k) hlt
    clear hB4 hW4 hT4
    rcases Nat.lt_or_ge j (Q k).length with hltj | hgej
    ·obtain ⟨x,hx⟩:∃ x,(Q k)[j]? = some x:=⟨_,List.getElem?_eq_getElem hltj⟩
     obtain ⟨g,rfl,hcell,hcell1⟩:=row_item HO3.out HT4.out.2 hx
     obtain ⟨hks,hkn⟩:=HE.out.size (i:=k) hlt (List.mem_of_getElem? hx)
     have HKey:Hid (rowI k ((Q k).take (j+1))=rowI k ((Q k).take j)++itB k x):=rowI_take hx
     obtain ⟨W1,hW1⟩:∃ W1,W1=wr.alloc (.cells #[.string x.key,.int .i64 (x.n:Nat)] 120):=⟨_,rfl⟩
     have hblk:W1.heap[wr.heap.size]? = some (Obj.cells #[.string x.key,.int .i64 (x.n:Nat)] 120 (0,0)):=by rw [hW1];exact heap_alloc_new wr _
     have hbw:Below wr.heap.size wr W1:=by rw [hW1];exact (Below.refl _ wr).alloc (Nat.le_refl _) _
     have HBk:Hid (W1.heap[wr.heap.size]? = some (Obj.cells #[.string x.key,.int .i64 (x.n:Nat)] 120 (0,0))):=hblk
     have HWx:Hid (Below w1.heap.size w1 W1):=below_trans' HW4.out hbw
     have HTx:Hid (TX w3 W1):=HT4.out.under hbw
     have hw4:=write_b (⟨#[32]⟩:ByteArray) (isBu_below HB4.out hbw) (by show _+1≤_;omega) HWx.out.size
     obtain ⟨dg,hdg⟩:∃ dg:ByteArray,dg=⟨(Lib.decDigits x.n).toArray⟩:=⟨_,rfl⟩
     have hds:dg.size≤10:=by
      rw [hdg]
      show (Lib.decDigits x.n).toArray.size≤10
      rw [List.size_toArray]
      have:=dec_len x.n
      omega
     have HIt:Hid (∀ W:World,Calls Tryz.prog 193 #[.int .i64 (x.n:Nat)] W fun e w'=>e=.returned (.string dg)∧w'=W):=fun W=>by
      rw [hdg]
      exact itoa_small x.n (by omega) W
     have HDg:Hid (dg.data.toList=Lib.decDigits x.n):=by show dg.data.toList=_;rw [hdg]
     clear hx hblk hbw hdg
     go_upto_region 11 with fail
     rw [← hW1]
     clear hW1
     by_cases hk2:k=2
     ·have hne:((k:Int) != 2)=false:=by simp [hk2]
      have HI2:Hid (itB k x=32::x.key.data.toList):=by show itB k x=_;unfold itB;rw [if_pos hk2];simp
      clear hk2
      go_wp2_with (first
       | (go_at_call 191;refine Calls.mono hw4 ?_;clear hw4;rintro ee w4 ⟨rfl,hB5,hb5,ht5⟩;have HW5:Hid (Below w1.heap.size w1 w4):=(below_base HWx.out hb5);have HT5:Hid (TX w3 w4):=(HTx.out.step ht5 hb5);have HBk4:Hid (w4.heap[wr.heap.size]? = some (Obj.cells #[.string x.key,.int .i64 (x.n:Nat)] 120 (0,0))):=(ht5 _ (lt_of_block HBk.out) ⟨_,_,HBk.out⟩).trans HBk.out;have v0:=cell_of_block (j:=0) HBk4.out;have hlt4:=lt_of_block HBk4.out;simp at v0;have hw5:=write_b x.key hB5 (by rw [List.length_append];show _+1+_≤_;omega) HW5.out.size;clear hB5 ht5)
       | (go_at_call 191;refine Calls.mono hw5 ?_;clear hw5;rintro ee w5 ⟨rfl,hB6,hb6,ht6⟩;have HW6:Hid (Below w1.heap.size w1 w5):=(below_base HW5.out hb6);have HT6:Hid (TX w3 w5):=(HT5.out.step ht6 hb6);have HB6:Hid _:=hB6;clear hB6 ht6))
      go_roundw
      case rel =>
       refine ⟨j+1,hltj,by go_num,?_,HW6.out,HT6.out⟩
       have h:IsBu w1.heap.size w1.heap.size (Lib.byteCells (T++rowI k ((Q k).take j)++[32]++x.key.data.toList)) w5:=HB6.out
       have e9:T++rowI k ((Q k).take (j+1))=T++rowI k ((Q k).take j)++[32]++x.key.data.toList:=by rw [HKey.out,HI2.out];simp
       rw [e9]
       exact h
      case measure=>simp [intOf];omega
     ·have hne:((k:Int) != 2)=true:=by simp;omega
      have HI2:Hid (itB k x=32::(x.key.data.toList++47::Lib.decDigits x.n)):=by show itB k x=_;unfold itB;rw [if_neg hk2]
      go_wp2_with (first
       | (go_at_call 191;refine Calls.mono hw4 ?_;clear hw4;rintro ee w4 ⟨rfl,hB5,hb5,ht5⟩;have HW5:Hid (Below w1.heap.size w1 w4):=(below_base HWx.out hb5);have HT5:Hid (TX w3 w4):=(HTx.out.step ht5 hb5);have HBk4:Hid (w4.heap[wr.heap.size]? = some (Obj.cells #[.string x.key,.int .i64 (x.n:Nat)] 120 (0,0))):=(ht5 _ (lt_of_block HBk.out) ⟨_,_,HBk.out⟩).trans HBk.out;have v0:=cell_of_block (j:=0) HBk4.out;have hlt4:=lt_of_block HBk4.out;simp at v0;have hw5:=write_b x.key hB5 (by rw [List.length_append];show _+1+_≤_;omega) HW5.out.size;clear hB5 ht5)
       | (go_at_call 191;refine Calls.mono hw5 ?_;clear hw5;rintro ee w5 ⟨rfl,hB6,hb6,ht6⟩;have HW6:Hid (Below w1.heap.size w1 w5):=(below_base HW5.out hb6);have HT6:Hid (TX w3 w5):=(HT5.out.step ht6 hb6);have HBk5:Hid (w5.heap[wr.heap.size]? = some (Obj.cells #[.string x.key,.int .i64 (x.n:Nat)] 120 (0,0))):=(ht6 _ (lt_of_block HBk4.out) ⟨_,_,HBk4.out⟩).trans HBk4.out;have hw6:=write_b (⟨#[47]⟩:ByteArray) hB6 (by rw [List.length_append,List.length_append];show _+1+x.key.data.toList.length+1≤_;have:x.key.data.toList.length=x.key.size:=Array.length_toList;omega) HW6.out.size;clear hB6 ht6)
       | (go_at_call 191;refine Calls.mono hw6 ?_;clear hw6;rintro ee w6 ⟨rfl,hB7,hb7,ht7⟩;have HW7:Hid (Below w1.heap.size w1 w6):=(below_base HW6.out hb7);have HT7:Hid (TX w3 w6):=(HT6.out.step ht7 hb7);have HBk6:Hid (w6.heap[wr.heap.size]? = some (Obj.cells #[.string x.key,.int .i64 (x.n:Nat)] 120 (0,0))):=(ht7 _ (lt_of_block HBk5.out) ⟨_,_,HBk5.out⟩).trans HBk5.out;have v6:=cell_of_block (j:=1) HBk6.out;have hlt6:=lt_of_block HBk6.out;simp at v6;have hw7:=write_b dg hB7 (by rw [List.length_append,List.length_append,List.length_append];show _+1+x.key.data.toList.length+1+_≤_;have:x.key.data.toList.length=x.key.size:=Array.length_toList;omega) HW7.out.size;clear hB7 ht7)
       | (go_at_call 193;refine (HIt.out _).mono ?_;rintro ee w7 ⟨rfl,rfl⟩)
       | (go_at_call 191;refine Calls.mono hw7 ?_;clear hw7;rintro ee w8 ⟨rfl,hB8,hb8,ht8⟩;have HW8:Hid (Below w1.heap.size w1 w8):=(below_base HW7.out hb8);have HT8:Hid (TX w3 w8):=(HT7.out.step ht8 hb8);have HB8:Hid _:=hB8;clear hB8 ht8))
      go_roundw
      case rel =>
       refine ⟨j+1,hltj,by go_num,?_,HW8.out,HT8.out⟩
       have h:IsBu w1.heap.size w1.heap.size (Lib.byteCells (T++rowI k ((Q k).take j)++[32]++x.key.data.toList++[47]++dg.data.toList)) w8:=HB8.out
       have e9:T++rowI k ((Q k).take (j+1))=T++rowI k ((Q k).take j)++[32]++x.key.data.toList++[47]++dg.data.toList:=by rw [HKey.out,HI2.out,HDg.out];simp
       rw [e9]
       exact h
      case measure=>simp [intOf];omega
    ·have hj':j=(Q k).length:=by omega
     subst hj'
     go_wp2_with fail
     go_roundw
     case rel =>
      refine ⟨k+1,hlt,by go_num,?_,HW4.out⟩
      have h:=HB4.out
      rw [List.take_length] at h
      rw [← HT1.out]
      exact h
     case measure=>simp [intOf];omega
  ·have hk':k=3:=by omega
   subst hk'
   have hl4:=HLn.out 3 (Nat.le_refl _)
   have hst:=string_lib _ _ _ wr HB.out HWr.out.size
   go_wp2_with (go_at_call 194;refine Calls.mono hst ?_;clear hst;rintro ee w6 ⟨rfl,-,hb7⟩;have HW7:Hid (Below w1.heap.size w1 w6):=(below_base HWr.out hb7))
   go_ret
   refine ⟨?_,HW7.out⟩
   simp
end
end Go.Proofs.YtkkkkiejnmpdkaaGreatDoor.Sfifo
