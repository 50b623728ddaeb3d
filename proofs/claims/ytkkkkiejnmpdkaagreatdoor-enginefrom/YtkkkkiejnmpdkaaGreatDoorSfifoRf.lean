/- Sfifo Rf: Tc Rfb Rfc Rfd Rfg Rfh Rfk Rfl -/
import Derived.Test.YtkkkkiejnmpdkaaGreatDoorSfifoLs
import Derived.Test.YtkkkkiejnmpdkaaGreatDoorSfifoPu
import Derived.Test.YtkkkkiejnmpdkaaGreatDoorSfifoEn
import Derived.Test.YtkkkkiejnmpdkaaGreatDoorSfifoEf
import Derived.Test.YtkkkkiejnmpdkaaGreatDoorSfifoEu
import Derived.Test.YtkkkkiejnmpdkaaGreatDoorSfifoEo
import Derived.Deep.LoopGhost
import Derived.Laws.CopyOwn
import Derived.StillTailTactics
import Derived.Laws.Concat
import Derived.Laws.IdiomStrings
namespace Go.Proofs.YtkkkkiejnmpdkaaGreatDoor.Sfifo.C
open Go.RowKit Go.Proofs.YtkkkkiejnmpdkaaGreatDoor.Sfifo.Ls
theorem its_len (l:List It):(its l).length=l.length*2:=by
 induction l with
 | nil=>rfl
 | cons x l ih =>
   simp only [its,List.flatMap_cons,List.length_append,List.length_cons,List.length_nil] at ih ⊢
   omega
theorem its_app (l m:List It):its (l++m)=its l++its m:=by simp [its]
theorem its_one (l:List It):∀ u∈its l,u.oneCell'=true:=by
 intro u hu
 simp only [its,List.mem_flatMap] at hu
 obtain ⟨x,_,h⟩:=hu
 simp at h
 rcases h with rfl | rfl <;> rfl
theorem its_cell {l:List It} {f:Nat→Option Value} (h:∀ i z,l[i]? = some z→f (i*2)=some (.string z.key)∧f (i*2+1)=some (.int .i64 (z.n:Nat))) {j:Nat} {u:Value} (hu:(its l)[j]? = some u):f j=some u:=by
 have hj:j<l.length*2:=by have:=lt_of_at hu;rwa [its_len] at this
 obtain ⟨z,hz⟩:∃ z,l[j / 2]? = some z:=⟨_,List.getElem?_eq_getElem (by omega)⟩
 obtain ⟨a1,a2⟩:=its_at hz
 obtain ⟨b1,b2⟩:=h _ _ hz
 have hj2:j=j / 2*2∨j=j / 2*2+1:=by omega
 rcases hj2 with e | e
 ·rw [← e] at a1 b1
  rw [b1,← a1,hu]
 ·rw [← e] at a2 b2
  rw [b2,← a2,hu]
def Row (D:Nat→Prop) (w:World) (ad:Option Addr) (cap:Nat) (zs:List It):Prop :=
 zs.length≤cap∧cap≤maxLen∧(0<cap→∃ g off cur,ad=some ⟨g,off,none⟩∧D g∧w.heap[g]? = some (.cells cur 143 (0,0))∧off+cap*2≤cur.size∧∀ i z,zs[i]? = some z→cur[off+i*2]? = some (.string z.key)∧cur[off+i*2+1]? = some (.int .i64 (z.n:Nat)))
section
variable {D D':Nat→Prop} {w w':World} {ad:Option Addr} {cap:Nat} {zs ks:List It}
theorem Row.kept (h:Row D w ad cap zs) (hk:Keeps D' w w') (hd:∀ k,D k→¬ D' k):Row D w' ad cap zs:=by
 refine ⟨h.1,h.2.1,fun hc=>?_⟩
 obtain ⟨g,off,cur,e,hD,hg,hs,hz⟩:=h.2.2 hc
 exact ⟨g,off,cur,e,hD,(hk.block g (lt_of_block hg) (hd g hD)).trans hg,hs,hz⟩
theorem Row.below (h:Row D w ad cap zs) (hb:Below w.heap.size w w'):Row D w' ad cap zs:=h.kept (D':=fun _=>False) (.of_below hb) (fun _ _ e=>e)
theorem Row.wide (h:Row D w ad cap zs) (hD:∀ k,k<w.heap.size→D k→D' k):Row D' w ad cap zs:=by
 refine ⟨h.1,h.2.1,fun hc=>?_⟩
 obtain ⟨g,off,cur,e,hg0,hg,r⟩:=h.2.2 hc
 exact ⟨g,off,cur,e,hD _ (lt_of_block hg) hg0,hg,r⟩
theorem Row.narrow (h:Row D w ad cap zs):Row (fun k=>D k∧k<w.heap.size) w ad cap zs:=h.wide (fun _ a b=>⟨b,a⟩)
theorem Row.kept2 (h:Row D w ad cap zs) (hk:Keeps D' w w') (hd:∀ k,k<w.heap.size→D k→¬ D' k):Row D w' ad cap zs :=
 (h.narrow.kept hk (fun k e=>hd k e.2 e.1)).wide (fun _ _ e=>e.1)
theorem Row.nil:Row D w none 0 []:=⟨Nat.le_refl _,Nat.zero_le _,fun h=>absurd h (Nat.lt_irrefl _)⟩
theorem Row.bare (ad:Option Addr):Row D w ad 0 []:=⟨Nat.le_refl _,Nat.zero_le _,fun h=>absurd h (Nat.lt_irrefl _)⟩
theorem Row.at (h:Row D w ad cap zs) {i:Nat} {z:It} (hz:zs[i]? = some z):∃ g off,ad=some ⟨g,off,none⟩∧D g∧g<w.heap.size∧w.cell? ⟨g,off+i*2,none⟩=some (.string z.key)∧w.cell? ⟨g,off+i*2+1,none⟩=some (.int .i64 (z.n:Nat))∧w.frozen? ⟨g,off+i*2+1,none⟩=false:=by
 obtain ⟨g,off,cur,e,hD,hg,hs,hc⟩:=h.2.2 (by have:=lt_of_at hz;have:=h.1;omega)
 exact ⟨g,off,e,hD,lt_of_block hg,by rw [cell_of_block hg];exact (hc i z hz).1,by rw [cell_of_block hg];exact (hc i z hz).2,frozen_of_block hg⟩
end
theorem info_cell:∃ i,Tryz.prog.info? 143=some i∧i.zero=some (.agg #[.string ByteArray.empty,.int .i64 0])∧i.size=2∧i.bytes=24:=by
 have h:(Tryz.prog.info? 143).map (fun i=>(i.zero,i.size,i.bytes))=some (some (.agg #[.string ByteArray.empty,.int .i64 0]),2,24):=by kernel_rfl
 cases hi:Tryz.prog.info? 143 with
 | none=>rw [hi] at h;cases h
 | some i=>rw [hi] at h;simp at h;exact ⟨i,rfl,h.1,h.2.1,h.2.2⟩
section
variable {D:Nat→Prop} {w:World} {ad:Option Addr} {cap:Nat} {zs ks:List It}
theorem run_append_row (ty:TypeId) (h:Row D w ad cap zs) {x:Value} (hx:Src Tryz.prog 2 134 x ks.length (its ks) w) (hn:zs.length+ks.length≤1000000) :
 ∃ ad' cap' w',(Builtin.append_ #[134,134] ty #[.slice ad zs.length cap,x]).run Tryz.prog w=.ok (.slice ad' (zs.length+ks.length) cap') w' ∧
  Row (fun g=>D g∨w.heap.size≤g) w' ad' cap' (zs++ks)∧Keeps D w w':=by
 obtain ⟨i,hi,hz,hsz,hby⟩:=info_cell
 have hx':Src Tryz.prog i.size 134 x ks.length (its ks) w:=by rw [hsz];exact hx
 have hm:(1000000:Nat)≤maxLen:=by unfold maxLen;omega
 rcases Nat.lt_or_ge cap (zs.length+ks.length) with hg | hr
 ·have hold:(Builtin.firstCells i.size zs.length (.slice ad zs.length cap)).run Tryz.prog w.drew=.ok (its zs).toArray w.drew:=by
   rcases Nat.eq_zero_or_pos cap with h0 | h0
   ·have hz0:zs=[]:=List.eq_nil_of_length_eq_zero (by have:=h.1;omega)
    subst hz0
    cases ad with
    | none=>exact run_firstCells_none w.drew _ _ _ _
    | some a=>exact run_firstCells_some w.drew _ _ a _ _ [] (by simp) (by simp)
   ·obtain ⟨g,off,cur,rfl,hD,hgb,hs,hc⟩:=h.2.2 h0
    refine run_firstCells_some w.drew _ _ _ _ _ _ (by rw [its_len,hsz]) (fun j u hu=>?_)
    rw [Addr.add_lit]
    have:w.drew.heap[g]? = some (.cells cur 143 (0,0)):=hgb
    rw [cell_of_block this]
    exact its_cell (f:=fun j=>cur[off+j]?) (fun i z hi=>⟨(hc i z hi).1,by rw [← Nat.add_assoc];exact (hc i z hi).2⟩) hu
  have hrun:=run_append_grow_src (P:=Tryz.prog) w 134 134 ty 143 i (.agg #[.string ByteArray.empty,.int .i64 0]) Tryz.underlying134 hi hz ad zs.length cap (its zs) hold x ks.length (its ks) hx' hg (by omega) (growslice_fits hg (by rw [hby];omega))
  have hge:=grownCap_ge w (zs.length+ks.length) cap 143
  have hcm:=grownCap_le_maxLen w (zs.length+ks.length) cap 143 (by omega)
  refine ⟨_,_,_,hrun,⟨by rw [List.length_append];exact hge,hcm,fun _=>⟨_,0,_,rfl,.inr (Nat.le_refl _),heap_alloc_new w.drew _,?_,fun j z hj=>?_⟩⟩,((Keeps.refl D w).drew).alloc _⟩
  ·rw [Array.size_append,List.size_toArray,size_zeroCells,List.length_append,its_len,its_len]
   simp [Value.cells]
   omega
  ·have hl:=lt_of_at hj
   obtain ⟨a1,a2⟩:=its_at hj
   have hle:j*2+1<(its zs++its ks).length:=by rw [← its_app,its_len];omega
   rw [Nat.zero_add,Array.getElem?_append_left (by rw [List.size_toArray];omega),Array.getElem?_append_left (by rw [List.size_toArray];omega),List.getElem?_toArray,List.getElem?_toArray,← its_app]
   exact ⟨a1,a2⟩
 ·rcases Nat.eq_zero_or_pos cap with h0 | h0
  ·subst h0
   have hz0:zs=[]:=List.eq_nil_of_length_eq_zero (by omega)
   have hk0:ks=[]:=List.eq_nil_of_length_eq_zero (by omega)
   subst hz0 hk0
   exact ⟨ad,0,w,run_append_nothing (P:=Tryz.prog) w 134 134 ty 143 i Tryz.underlying134 hi ad 0 0 (Nat.le_refl _) x hx',Row.bare ad,Keeps.refl D w⟩
  ·obtain ⟨g,off,cur,rfl,hD,hgb,hs,hc⟩:=h.2.2 h0
   have hrun:=run_append_room_src (P:=Tryz.prog) w 134 134 ty 143 i Tryz.underlying134 hi g off zs.length cap x ks.length (its ks) hx' hr
    (fun j hj=>by rw [hsz,cell_of_block hgb];rw [its_len] at hj;rw [Array.getElem?_eq_getElem (by omega)];rfl) (fun j _=>frozen_of_block hgb)
   rw [hsz] at hrun
   obtain ⟨cur',b1,b2,b3,b4⟩:=setCells_block (its ks) (off+zs.length*2) w cur hgb (by rw [its_len];omega)
   refine ⟨_,_,_,hrun,⟨by rw [List.length_append];exact hr,h.2.1,fun _=>⟨g,off,cur',rfl,.inl hD,b1,by rw [b2];exact hs,fun j z hj=>?_⟩⟩,setCells_keeps hD _ _ w⟩
   by_cases hjz:j<zs.length
   ·rw [b3 _ (by omega),b3 _ (by omega)]
    rw [List.getElem?_append_left hjz] at hj
    exact hc j z hj
   ·rw [List.getElem?_append_right (by omega)] at hj
    have hl:=lt_of_at hj
    obtain ⟨a1,a2⟩:=its_at hj
    have h4:=b4 ((j - zs.length)*2) (by rw [its_len];omega)
    have h5:=b4 ((j - zs.length)*2+1) (by rw [its_len];omega)
    rw [show off+zs.length*2+(j - zs.length)*2=off+j*2 by omega] at h4
    rw [show off+zs.length*2+((j - zs.length)*2+1)=off+j*2+1 by omega] at h5
    rw [h4,h5]
    exact ⟨a1,a2⟩
theorem wpList_append_row {ops:Array Oper} {rest:List Oper} {o:Oper} {a:Act} {Q:Exit→Act→World→Prop} (hgd:o.guard=none) (s x:Operand)
 (ho:o.op=.call { callee:=.builtin .append,args:=#[s,x],argTypes:=#[134,134] })
 (hs:a.eval s=.slice ad zs.length cap) (hrow:Row D w ad cap zs) {vx:Value} (hx:a.eval x=vx) (hsrc:Src Tryz.prog 2 134 vx ks.length (its ks) w) (hn:zs.length+ks.length≤1000000)
 (h:∀ ad' cap' w',Row (fun g=>D g∨w.heap.size≤g) w' ad' cap' (zs++ks)→Keeps D w w'→wpList Tryz.prog ops Q rest (a.put o.dst (.slice ad' (zs.length+ks.length) cap')) w'):wpList Tryz.prog ops Q (o::rest) a w:=by
 refine wpList_plain hgd fun K hK=>?_
 obtain ⟨ad',cap',w',hrun,h2,h3⟩:=run_append_row o.type hrow hsrc hn
 unfold Oper.wp
 simp [execOp,ho,resolve,invoke,builtin,hs,hx,hrun,Result.andThen]
 exact hK _ _ (h ad' cap' w' h2 h3)
theorem src_one (w:World) (k:ByteArray) (n:Nat):Src Tryz.prog 2 134 (.slice (some ⟨w.heap.size,0,none⟩) 1 1) 1 (its [⟨k,n⟩]) (w.alloc (.cells #[.string k,.int .i64 (n:Nat)] 143)):=by
 refine Src.ofSlice _ Tryz.underlying134 _ 1 1 _ rfl (fun j u hu=>?_) (its_one _)
 rw [Addr.add_lit,cell_of_block (heap_alloc_new w _)]
 simpa [its] using hu
end
end Go.Proofs.YtkkkkiejnmpdkaaGreatDoor.Sfifo.C
namespace Go.Proofs.YtkkkkiejnmpdkaaGreatDoor.Sfifo
open Go.RowKit
def eng (s:Stt) (a1:Option Addr) (c1:Nat) (a2:Option Addr) (c2:Nat) (a3:Option Addr) (c3:Nat):Array Value :=
 #[.slice a1 s.t1.length c1,.slice a2 s.t2.length c2,.slice a3 (A.ks s.b1).length c3,.int .i64 (s.c:Nat)]
structure ReIn (D:Nat→Prop) (L:Nat→Nat) (w:World) (x:Nat) (s:Stt) (a1:Option Addr) (c1:Nat) (a2:Option Addr) (c2:Nat) (a3:Option Addr) (c3:Nat):Prop where
 dx:D x
 lx:L x=0
 top:w.heap[x]? = some (.cells (eng s a1 c1 a2 c2 a3 c3) 136 (0,0))
 r1:C.Row (fun g=>D g∧L g=1) w a1 c1 s.t1
 r2:C.Row (fun g=>D g∧L g=2) w a2 c2 s.t2
 r3:Row (fun g=>D g∧L g=3) w a3 c3 (A.ks s.b1)
def lab (L:Nat→Nat) (n i:Nat):Nat→Nat:=fun g=>if g<n then L g else i
theorem lab_old {L:Nat→Nat} {n i g:Nat} (h:g<n):lab L n i g=L g:=by simp [lab,h]
theorem lab_new {L:Nat→Nat} {n i g:Nat} (h:n≤g):lab L n i g=i:=by simp [lab,show ¬ g<n by omega]
section
variable {D D':Nat→Prop} {L:Nat→Nat} {w w':World} {x:Nat} {s:Stt} {a1 a2 a3 a:Option Addr} {c1 c2 c3 c:Nat} {zs:List Ls.It}
theorem ReIn.cells (H:ReIn D L w x s a1 c1 a2 c2 a3 c3) :
 w.cell? ⟨x,0,none⟩=some (.slice a1 s.t1.length c1)∧w.cell? ⟨x,1,none⟩=some (.slice a2 s.t2.length c2)∧w.cell? ⟨x,2,none⟩=some (.slice a3 (A.ks s.b1).length c3)∧w.cell? ⟨x,3,none⟩=some (.int .i64 (s.c:Nat)):=by
 have h:=H.top
 refine ⟨?_,?_,?_,?_⟩ <;> (rw [cell_of_block h];rfl)
theorem ReIn.thaw (H:ReIn D L w x s a1 c1 a2 c2 a3 c3) :
 w.frozen? ⟨x,0,none⟩=false∧w.frozen? ⟨x,1,none⟩=false∧w.frozen? ⟨x,2,none⟩=false∧w.frozen? ⟨x,3,none⟩=false :=
 ⟨frozen_of_block H.top,frozen_of_block H.top,frozen_of_block H.top,frozen_of_block H.top⟩
theorem ReIn.kept (H:ReIn D L w x s a1 c1 a2 c2 a3 c3) (hk:Keeps D' w w') (hd:∀ k,D k→¬ D' k):ReIn D L w' x s a1 c1 a2 c2 a3 c3 :=
 ⟨H.dx,H.lx,(hk.block x (lt_of_block H.top) (hd _ H.dx)).trans H.top,H.r1.kept hk (fun k h=>hd k h.1),H.r2.kept hk (fun k h=>hd k h.1),H.r3.kept hk (fun k h=>hd k h.1)⟩
theorem ReIn.below (H:ReIn D L w x s a1 c1 a2 c2 a3 c3) (hb:Below w.heap.size w w'):ReIn D L w' x s a1 c1 a2 c2 a3 c3:=H.kept (D':=fun _=>False) (.of_below hb) (fun _ _ e=>e)
theorem ReIn.wide (H:ReIn D L w x s a1 c1 a2 c2 a3 c3) (hD:∀ k,k<w.heap.size→D k→D' k):ReIn D' L w x s a1 c1 a2 c2 a3 c3 :=
 ⟨hD _ (lt_of_block H.top) H.dx,H.lx,H.top,H.r1.wide (fun k a h=>⟨hD k a h.1,h.2⟩),H.r2.wide (fun k a h=>⟨hD k a h.1,h.2⟩),H.r3.wide (fun k a h=>⟨hD k a h.1,h.2⟩)⟩
theorem ReIn.put2 (H:ReIn D L w x s a1 c1 a2 c2 a3 c3) (hD:∀ k,w.heap.size≤k→D k) (hk:Keeps (fun g=>D g∧L g=2) w w') (hr:C.Row (fun g=>(D g∧L g=2)∨w.heap.size≤g) w' a c zs) :
 ReIn D (lab L w.heap.size 2) (w'.setCell ⟨x,1,none⟩ (.slice a zs.length c)) x { s with t2:=zs } a1 c1 a c a3 c3:=by
 have hxl:=lt_of_block H.top
 have lx:lab L w.heap.size 2 x=0:=by rw [lab_old hxl];exact H.lx
 have hx:Keeps (fun k=>k=x) w' (w'.setCell ⟨x,1,none⟩ (.slice a zs.length c)):=Keeps.setCell (D:=fun k=>k=x) (Keeps.refl _ w') (p:=⟨x,1,none⟩) rfl _
 have ne:∀ i':Nat,i'≠0→∀ k,(D k∧lab L w.heap.size 2 k=i')→¬ k=x:=fun i' hi k h e=>by subst e;omega
 have top:=(hk.block x hxl (fun h=>by have:=H.lx;omega)).trans H.top
 have hr2:C.Row (fun g=>D g∧lab L w.heap.size 2 g=2) (w'.setCell ⟨x,1,none⟩ (.slice a zs.length c)) a c zs:=(hr.wide (D':=fun g=>D g∧lab L w.heap.size 2 g=2) (fun g _ h=>by
  rcases Nat.lt_or_ge g w.heap.size with hg | hg
  ·rw [lab_old hg]
   rcases h with h | h
   ·exact h
   ·omega
  ·rw [lab_new hg]
   exact ⟨hD g hg,rfl⟩)).kept hx (ne 2 (by omega))
 exact ⟨H.dx,lx,by rw [block_setCell top];rfl,(((H.r1.wide (D':=fun g=>D g∧lab L w.heap.size 2 g=1) (fun g hg h=>⟨h.1,by rw [lab_old hg];exact h.2⟩)).kept2 hk (fun g hg h e=>by have:=e.2;rw [lab_old hg] at h;omega)).kept hx (ne 1 (by omega))),hr2,(((H.r3.wide (D':=fun g=>D g∧lab L w.heap.size 2 g=3) (fun g hg h=>⟨h.1,by rw [lab_old hg];exact h.2⟩)).kept2 hk (fun g hg h e=>by have:=e.2;rw [lab_old hg] at h;omega)).kept hx (ne 3 (by omega)))⟩
theorem ReIn.put3 (H:ReIn D L w x s a1 c1 a2 c2 a3 c3) (hD:∀ k,w.heap.size≤k→D k) (hk:Keeps (fun g=>D g∧L g=3) w w') (hr:Row (fun g=>(D g∧L g=3)∨w.heap.size≤g) w' a c (A.ks zs)) :
 ReIn D (lab L w.heap.size 3) (w'.setCell ⟨x,2,none⟩ (.slice a (A.ks zs).length c)) x { s with b1:=zs } a1 c1 a2 c2 a c:=by
 have hxl:=lt_of_block H.top
 have lx:lab L w.heap.size 3 x=0:=by rw [lab_old hxl];exact H.lx
 have hx:Keeps (fun k=>k=x) w' (w'.setCell ⟨x,2,none⟩ (.slice a (A.ks zs).length c)):=Keeps.setCell (D:=fun k=>k=x) (Keeps.refl _ w') (p:=⟨x,2,none⟩) rfl _
 have ne:∀ i':Nat,i'≠0→∀ k,(D k∧lab L w.heap.size 3 k=i')→¬ k=x:=fun i' hi k h e=>by subst e;omega
 have top:=(hk.block x hxl (fun h=>by have:=H.lx;omega)).trans H.top
 have hr2:Row (fun g=>D g∧lab L w.heap.size 3 g=3) (w'.setCell ⟨x,2,none⟩ (.slice a (A.ks zs).length c)) a c (A.ks zs):=(hr.wide (D':=fun g=>D g∧lab L w.heap.size 3 g=3) (fun g _ h=>by
  rcases Nat.lt_or_ge g w.heap.size with hg | hg
  ·rw [lab_old hg]
   rcases h with h | h
   ·exact h
   ·omega
  ·rw [lab_new hg]
   exact ⟨hD g hg,rfl⟩)).kept hx (ne 3 (by omega))
 exact ⟨H.dx,lx,by rw [block_setCell top];rfl,(((H.r1.wide (D':=fun g=>D g∧lab L w.heap.size 3 g=1) (fun g hg h=>⟨h.1,by rw [lab_old hg];exact h.2⟩)).kept2 hk (fun g hg h e=>by have:=e.2;rw [lab_old hg] at h;omega)).kept hx (ne 1 (by omega))),(((H.r2.wide (D':=fun g=>D g∧lab L w.heap.size 3 g=2) (fun g hg h=>⟨h.1,by rw [lab_old hg];exact h.2⟩)).kept2 hk (fun g hg h e=>by have:=e.2;rw [lab_old hg] at h;omega)).kept hx (ne 2 (by omega))),hr2⟩
theorem ReIn.still (H:ReIn D L w x s a1 c1 a2 c2 a3 c3) {i:Nat} (hi:i≠0) (hk:Keeps (fun g=>D g∧L g=i) w w') :
 (w'.cell? ⟨x,0,none⟩=some (.slice a1 s.t1.length c1)∧w'.cell? ⟨x,1,none⟩=some (.slice a2 s.t2.length c2)∧w'.cell? ⟨x,2,none⟩=some (.slice a3 (A.ks s.b1).length c3)∧w'.cell? ⟨x,3,none⟩=some (.int .i64 (s.c:Nat))) ∧
 w'.frozen? ⟨x,0,none⟩=false∧w'.frozen? ⟨x,1,none⟩=false∧w'.frozen? ⟨x,2,none⟩=false∧w'.frozen? ⟨x,3,none⟩=false:=by
 have h:=(hk.block x (lt_of_block H.top) (fun e=>by have:=H.lx;omega)).trans H.top
 refine ⟨⟨?_,?_,?_,?_⟩,frozen_of_block h,frozen_of_block h,frozen_of_block h,frozen_of_block h⟩ <;> (rw [cell_of_block h];rfl)
end
def RE (x:Nat) (s:Stt) (D:Nat→Prop) (w:World):Prop:=∃ L a1 c1 a2 c2 a3 c3,ReIn D L w x s a1 c1 a2 c2 a3 c3
structure Small (s:Stt):Prop where
 l1:s.t1.length≤2100
 l2:s.t2.length≤2100
 l3:(A.ks s.b1).length≤4100
 hc:s.c≤1024
theorem Small.of {s:Stt} (h:A.Ok s):Small s:=by
 have h1:=h.res;have h2:=h.out;have h3:=h.hi
 unfold A.gmax at h2
 exact ⟨by omega,by omega,by rw [A.ks_len];omega,by omega⟩
section
variable {D D':Nat→Prop} {w w':World} {x:Nat} {s:Stt}
theorem RE.below (H:RE x s D w) (hb:Below w.heap.size w w'):RE x s D w':=by
 obtain ⟨L,a1,c1,a2,c2,a3,c3,h⟩:=H;exact ⟨L,a1,c1,a2,c2,a3,c3,h.below hb⟩
theorem RE.kept (H:RE x s D w) (hk:Keeps D' w w') (hd:∀ k,D k→¬ D' k):RE x s D w':=by
 obtain ⟨L,a1,c1,a2,c2,a3,c3,h⟩:=H;exact ⟨L,a1,c1,a2,c2,a3,c3,h.kept hk hd⟩
theorem RE.wide (H:RE x s D w) (hD:∀ k,k<w.heap.size→D k→D' k):RE x s D' w:=by
 obtain ⟨L,a1,c1,a2,c2,a3,c3,h⟩:=H;exact ⟨L,a1,c1,a2,c2,a3,c3,h.wide hD⟩
end
end Go.Proofs.YtkkkkiejnmpdkaaGreatDoor.Sfifo
namespace Go.Proofs.YtkkkkiejnmpdkaaGreatDoor.Sfifo
open Go.RowKit
theorem bytes_beq (x y:ByteArray):(x.toList==y.toList)=decide (x=y):=by
 by_cases h:x=y
 ·subst h;simp
 ·have:¬ x.toList=y.toList:=by
   intro e
   rw [ByteArray.toList_eq,ByteArray.toList_eq] at e
   apply h
   cases x
   cases y
   congr
   exact Array.toList_inj.1 e
  simp [h,this]
def idx (zs:List ByteArray) (k:ByteArray):Int:=match zs.findIdx? (fun z=>decide (z=k)) with
 | some i=>(i:Nat)
 | none=>-1
theorem idx_yes {zs:List ByteArray} {k:ByteArray} {i:Nat} (h:zs[i]? = some k) (hn:∀ j,j<i→zs[j]?≠some k):idx zs k=(i:Nat):=by
 have hi:=lt_of_at h
 have:zs.findIdx? (fun z=>decide (z=k))=some i:=by
  rw [List.findIdx?_eq_some_iff_getElem]
  refine ⟨hi,?_,?_⟩
  ·rw [List.getElem?_eq_getElem hi] at h
   simpa using h
  ·intro j hj
   have:=hn j hj
   rw [List.getElem?_eq_getElem (by omega)] at this
   simpa using this
 unfold idx
 rw [this]
theorem idx_no {zs:List ByteArray} {k:ByteArray} (h:k∉zs):idx zs k = -1:=by
 have:zs.findIdx? (fun z=>decide (z=k))=none:=by
  rw [List.findIdx?_eq_none_iff]
  intro z hz
  simp
  rintro rfl
  exact h hz
 unfold idx
 rw [this]
theorem idx_at {zs:List ByteArray} {k:ByteArray} (h:k∈zs):∃ i:Nat,idx zs k=(i:Nat)∧zs[i]? = some k∧∀ j,j<i→zs[j]?≠some k:=by
 have:(zs.findIdx? (fun z=>decide (z=k))).isSome=true:=by
  rw [List.findIdx?_isSome]
  simpa using h
 obtain ⟨i,hi⟩:=Option.isSome_iff_exists.1 this
 rw [List.findIdx?_eq_some_iff_getElem] at hi
 obtain ⟨h1,h2,h3⟩:=hi
 have e:zs[i]? = some k:=by rw [List.getElem?_eq_getElem h1];simpa using h2
 have hn:∀ j,j<i→zs[j]?≠some k:=fun j hj=>by
  rw [List.getElem?_eq_getElem (by omega)]
  simpa using h3 j hj
 exact ⟨i,idx_yes e hn,e,hn⟩
theorem idx_mem {zs:List ByteArray} {k:ByteArray} (h:k∈zs):0≤idx zs k:=by
 obtain ⟨i,h,-⟩:=idx_at h
 omega
def inn (k:ByteArray) (zs:List ByteArray):Bool:=decide (0≤idx zs k)
theorem inn_yes {zs:List ByteArray} {k:ByteArray} (h:k∈zs):inn k zs=true:=decide_eq_true (idx_mem h)
theorem inn_no {zs:List ByteArray} {k:ByteArray} (h:k∉zs):inn k zs=false:=by unfold inn;rw [idx_no h];decide
namespace C
end C
section
variable {D:Nat→Prop} {w:World} {ad:Option Addr} {cap:Nat} {zs:List Ls.It}
set_option maxHeartbeats 1000000 in
theorem rat_any (H:C.Row D w ad cap zs) (hn:zs.length≤1000000) (k:ByteArray) :
 Calls Tryz.prog 123 #[.slice ad zs.length cap,.string k] w fun e w'=>e=.returned (.int .i64 (idx (A.ks zs) k))∧w'=w:=by
 have HH:Hid (C.Row D w ad cap zs):=H
 clear H
 go_enter Tryz.func123,Tryz.ntmps123
 go_wp2
 go_loop [5] (fun i=>∃ j:Nat,j≤zs.length∧i=.int .i64 j∧Hid (∀ m,m<j→(A.ks zs)[m]?≠some k)) (fun i=>zs.length - (intOf i).toNat)
 case atStart=>exact ⟨0,Nat.zero_le _,rfl,fun m hm=>by omega⟩
 case round =>
  obtain ⟨j,hj,rfl,hno⟩:=hrel
  rcases Nat.lt_or_ge j zs.length with hlt | hge
  ·obtain ⟨z,hz⟩:∃ z,zs[j]? = some z:=⟨_,List.getElem?_eq_getElem hlt⟩
   obtain ⟨g,off,rfl,-,-,c0,c1,-⟩:=HH.out.at hz
   have HZ:Hid ((A.ks zs)[j]? = some z.key):=by
    show (A.ks zs)[j]? = some z.key
    simp [A.ks,hz]
   clear hz
   by_cases he:z.key=k
   ·have hE:(z.key.toList==k.toList)=true:=by rw [bytes_beq,decide_eq_true he]
    have HE:Hid (z.key=k):=he
    clear he
    go_wp2
    go_ret
    exact ⟨ret_int (idx_yes (by rw [← HE.out];exact HZ.out) hno.out).symm,rfl⟩
   ·have hE:(z.key.toList==k.toList)=false:=by rw [bytes_beq,decide_eq_false he]
    have HE:Hid (¬ z.key=k):=he
    clear he
    go_wp2
    go_round
    case rel =>
     refine ⟨j+1,hlt,by go_num,fun m hm=>?_⟩
     rcases Nat.lt_or_ge m j with h | h
     ·exact hno.out m h
     ·rw [show m=j by omega,HZ.out]
      exact fun e=>HE.out (by cases e;rfl)
    case measure=>simp [intOf];omega
  ·have hj':j=zs.length:=by omega
   subst hj'
   go_wp2
   go_ret
   refine ⟨ret_int (idx_no (fun hm=>?_)).symm,rfl⟩
   obtain ⟨m,hm1,hm2⟩:=List.getElem_of_mem hm
   exact hno.out m (by rw [A.ks_len] at hm1;exact hm1) (by rw [List.getElem?_eq_getElem hm1,hm2])
end
end Go.Proofs.YtkkkkiejnmpdkaaGreatDoor.Sfifo
namespace Go.Proofs.YtkkkkiejnmpdkaaGreatDoor.Sfifo
open Go.RowKit
section
variable {D D':Nat→Prop} {w w':World} {x:Nat} {s:Stt}
theorem rlen_any (H:RE x s D w) (hs:Small s):Calls Tryz.prog 124 #[.pointer (some ⟨x,0,none⟩)] w fun e w'=>e=.returned (.int .i64 ((A.keys s).length:Nat))∧∃ q,w'=w.drewN q:=by
 obtain ⟨L,a1,c1,a2,c2,a3,c3,H⟩:=H
 obtain ⟨d0,d1,d2,d3⟩:=H.cells
 have h1:=hs.l1
 have h2:=hs.l2
 rw [A.keys_length]
 generalize s.t1.length=n at *
 generalize s.t2.length=m at *
 clear H hs
 go_enter Tryz.func124,Tryz.ntmps124
 go_wp2_with fail
 go_quiet (fail)
 go_wp2_with fail
 go_ret
 exact ⟨ret_int (by omega),_,rfl⟩
theorem inn_keys (s:Stt) (k:ByteArray):inn k (A.keys s)=(inn k (A.ks s.t1) || inn k (A.ks s.t2)):=by
 by_cases h1:k∈A.ks s.t1
 ·rw [inn_yes h1,inn_yes (by simp [A.keys,h1])];rfl
 ·by_cases h2:k∈A.ks s.t2
  ·rw [inn_yes h2,inn_yes (by simp [A.keys,h2])];simp
  ·rw [inn_no h1,inn_no h2,inn_no (by simp [A.keys,h1,h2])];rfl
theorem rhas_key (H:RE x s D w) (hs:Small s) (k:ByteArray):Calls Tryz.prog 92 #[.pointer (some ⟨x,0,none⟩),.string k] w fun e w'=>e=.returned (.bool (inn k (A.keys s)))∧w'=w:=by
 obtain ⟨L,a1,c1,a2,c2,a3,c3,H⟩:=H
 obtain ⟨d0,d1,d2,d3⟩:=H.cells
 have e1:=rat_any H.r1 (by have:=hs.l1;omega) k
 have e2:=rat_any H.r2 (by have:=hs.l2;omega) k
 rw [inn_keys]
 by_cases h1:k∈A.ks s.t1
 ·have hi:=idx_mem h1
  rw [inn_yes h1]
  generalize idx (A.ks s.t1) k=j1 at *
  clear H hs
  go_enter Tryz.func92,Tryz.ntmps92
  go_wp2_with (go_at_call 123;refine e1.mono ?_;rintro e w1 ⟨rfl,rfl⟩;clear e1)
  go_ret
  exact ⟨by simp,rfl⟩
 ·rw [inn_no h1]
  rw [idx_no h1] at e1
  unfold inn
  generalize idx (A.ks s.t2) k=j2 at *
  clear H hs
  go_enter Tryz.func92,Tryz.ntmps92
  go_wp2_with (first | (go_at_call 123;refine e1.mono ?_;rintro e w1 ⟨rfl,rfl⟩;clear e1) | (go_at_call 123;refine e2.mono ?_;rintro e w2 ⟨rfl,rfl⟩;clear e2))
  go_ret
  exact ⟨by simp,rfl⟩
end
end Go.Proofs.YtkkkkiejnmpdkaaGreatDoor.Sfifo
namespace Go.Proofs.YtkkkkiejnmpdkaaGreatDoor.Sfifo
open Go.RowKit
theorem rcut_no {zs:List ByteArray} {k:ByteArray} {j:Nat} (h:zs[j]? = some k):A.cut (zs.take (j+1)) k=A.cut (zs.take j) k:=by
 rw [List.take_add_one,h]
 simp [A.cut]
theorem rcut_yes {zs:List ByteArray} {k z:ByteArray} {j:Nat} (h:zs[j]? = some z) (hz:z≠k):A.cut (zs.take (j+1)) k=A.cut (zs.take j) k++[z]:=by
 rw [List.take_add_one,h]
 simp [A.cut,hz]
theorem rcut_len (zs:List ByteArray) (k:ByteArray) (j:Nat):(A.cut (zs.take j) k).length≤zs.length:=by
 have h1:=A.length_cut_le (zs.take j) k
 have h2:(zs.take j).length≤zs.length:=by simp;omega
 omega
theorem rrow_old {B:Nat} {w w':World} {ad:Option Addr} {cap:Nat} {zs:List ByteArray} (h:Row (fun g=>B≤g∨w.heap.size≤g) w' ad cap zs) (hB:B≤w.heap.size):Row (B≤·) w' ad cap zs:=h.wide (fun g _ h=>by
 show B≤g
 rcases h with h | h
 ·exact h
 ·omega)
theorem cut_shorter (zs:List ByteArray) (k:ByteArray):decide ((A.cut zs k).length<zs.length)=inn k zs:=by
 by_cases h:k∈zs
 ·rw [inn_yes h,decide_eq_true_eq]
  unfold A.cut
  rw [List.length_filter_lt_length_iff_exists]
  exact ⟨k,h,by simp⟩
 ·rw [inn_no h,A.cut_same h]
  simp
section
variable {D D':Nat→Prop} {w w':World} {x:Nat} {s:Stt}
set_option maxRecDepth 20000 in
set_option maxHeartbeats 4000000 in
theorem rknown_any (H:RE x s D w) (hs:Small s) (hD:∀ k,w.heap.size≤k→D k) (key:ByteArray) :
 Calls Tryz.prog 125 #[.pointer (some ⟨x,0,none⟩),.string key] w fun e w'=>e=.returned (.bool (inn key (A.ghosts s)))∧RE x (A.noGhost s key) D w'∧Keeps D w w':=by
 have l3:=hs.l3
 obtain ⟨L,a1,c1,a2,c2,a3,c3,H⟩:=H
 have HH:Hid (ReIn D L w x s a1 c1 a2 c2 a3 c3):=H
 have HD:Hid (∀ k,w.heap.size≤k→D k):=hD
 have HI:Hid (inn key (A.ghosts s)=decide ((A.cut (A.ks s.b1) key).length<(A.ks s.b1).length)):=(cut_shorter _ _).symm
 have HP:Hid (∀ (W:World) (a4:Option Addr) (c4:Nat),Below w.heap.size w W→Row (w.heap.size≤·) W a4 c4 (A.cut (A.ks s.b1) key)→RE x (A.noGhost s key) D (W.setCell ⟨x,2,none⟩ (.slice a4 (A.cut (A.ks s.b1) key).length c4))∧Keeps D w (W.setCell ⟨x,2,none⟩ (.slice a4 (A.cut (A.ks s.b1) key).length c4))):=fun W a4 c4 hb hr=>by
  have h:=H.put3 hD (zs:=A.less s.b1 key) (Keeps.of_below hb) (a:=a4) (c:=c4) (by rw [A.ks_less];exact hr.wide (fun _ _ h=>.inr h))
  rw [A.ks_less] at h
  exact ⟨⟨_,_,_,_,_,_,_,h⟩,(Keeps.of_below hb).setCell (p:=⟨x,2,none⟩) H.dx _⟩
 have HC:Hid (∀ W:World,Below w.heap.size w W→W.cell? ⟨x,2,none⟩=some (.slice a3 (A.ks s.b1).length c3)∧W.frozen? ⟨x,2,none⟩=false):=fun W hW=>⟨(H.below hW).cells.2.2.1,(H.below hW).thaw.2.2.1⟩
 have HR3:Hid (Row (fun g=>D g∧L g=3) w a3 c3 (A.ks s.b1)):=H.r3
 clear H hs hD HH
 generalize A.ks s.b1=zs at *
 go_enter Tryz.func125,Tryz.ntmps125
 go_wp2
 go_loopw [5,6] (fun v i wr=>∃ (j:Nat) (a2:Option Addr) (c2:Nat),j≤zs.length∧i=.int .i64 j∧v=.slice a2 (A.cut (zs.take j) key).length c2∧Row (w.heap.size≤·) wr a2 c2 (A.cut (zs.take j) key)∧Below w.heap.size w wr) (fun _ i _=>zs.length - (intOf i).toNat)
 case atStart=>exact ⟨0,none,0,Nat.zero_le _,rfl,rfl,Row.nil,Below.refl _ _⟩
 case round =>
  obtain ⟨j,a2,c2,hj,rfl,rfl,hrow,hb⟩:=hrel
  have hs:=hb.size
  have hcl:=rcut_len zs key j
  obtain ⟨d2,t2⟩:=HC.out wr hb
  rcases Nat.lt_or_ge j zs.length with hlt | hge
  ·obtain ⟨z,hz⟩:∃ z,zs[j]? = some z:=⟨_,List.getElem?_eq_getElem hlt⟩
   obtain ⟨g,off,rfl,-,c0,-⟩:=(HR3.out.below hb).at hz
   have HY:Hid (z≠key→A.cut (zs.take (j+1)) key=A.cut (zs.take j) key++[z]):=rcut_yes hz
   have HX:Hid (z=key→A.cut (zs.take (j+1)) key=A.cut (zs.take j) key):=fun e=>rcut_no (e ▸ hz)
   clear hz
   generalize A.cut (zs.take j) key=m at *
   by_cases he:z=key
   ·have hE:(z.toList==key.toList)=true:=by rw [bytes_beq,decide_eq_true he]
    have HE:=HX.out he
    have HF:Hid (A.cut (zs.take (j+1)) key=m):=HE
    clear HX HY he HE
    go_wp2_with fail
    go_roundw
    case rel=>exact ⟨j+1,a2,c2,hlt,by go_num,by rw [HF.out],by rw [HF.out];exact hrow,hb⟩
    case measure=>simp [intOf];omega
   ·have hE:(z.toList==key.toList)=false:=by rw [bytes_beq,decide_eq_false he]
    have HE:=HY.out he
    have HF:Hid (A.cut (zs.take (j+1)) key=m++[z]):=HE
    clear HX HY he HE
    go_wp2_with (at_builtin;go_must (refine wpList_append_row (ks:=[z]) rfl _ _ rfl rfl (hrow.below ((Below.refl _ wr).alloc (Nat.le_refl _) _)) rfl (src_one _ z) (by simp;omega) ?_);intro a3 c3 w3 hrow3 hk3;have hb3:Below w.heap.size w w3:=(hb.alloc hs _).trans (hk3.below (by simp;omega) (fun _ h=>h));have hrow3':Row (w.heap.size≤·) w3 a3 c3 (m++[z]):=rrow_old hrow3 (by simp;omega);clear hrow3 hk3)
    go_roundw
    case rel=>exact ⟨j+1,a3,c3,hlt,by go_num,by rw [HF.out];simp,by rw [HF.out];exact hrow3',hb3⟩
    case measure=>simp [intOf];omega
  ·have hj':j=zs.length:=by omega
   subst hj'
   rw [List.take_length] at *
   have HPP:=HP.out wr a2 c2 hb hrow
   have HPo:Hid _:=HPP
   have hcl2:=A.length_cut_le zs key
   clear HPP hrow
   have HII:Hid _:=HI.out
   generalize (A.cut zs key).length=m at *
   go_wp2_with fail
   go_ret
   rw [HII.out]
   exact ⟨by simp,HPo.out.1,HPo.out.2⟩
set_option maxHeartbeats 1000000 in
theorem rload_no (H:RE x s D w) (hs:Small s) (key:ByteArray) (hk:key∈A.keys s∨s.c≤(A.keys s).length) :
 Calls Tryz.prog 77 #[.pointer (some ⟨x,0,none⟩),.string key] w fun e w'=>e=.returned (.bool false)∧∃ q,w'=w.drewN q:=by
 have hh:=fun q=>rhas_key (H.below (below_drewN (Below.refl _ w) q)) hs key
 have hlen:=fun q=>rlen_any (H.below (below_drewN (Below.refl _ w) q)) hs
 obtain ⟨L,a1,c1,a2,c2,a3,c3,H⟩:=H
 obtain ⟨d0,d1,d2,d3⟩:=H.cells
 have hhi:=hs.hc
 by_cases h1:key∈A.keys s
 ·rw [inn_yes h1] at hh
  clear H hs
  go_enter Tryz.func77,Tryz.ntmps77
  go_wp2_with fail
  go_quiet (first | (go_at_call 92;refine Calls.quiet_of_same (hh _)) | (go_at_call 124;refine Calls.quiet_of (hlen _)))
  go_wp2_with fail
  go_ret
  exact ⟨rfl,_,rfl⟩
 ·rw [inn_no h1] at hh
  have h2:s.c≤(A.keys s).length:=by rcases hk with h | h;exact absurd h h1;exact h
  generalize (A.keys s).length=n at *
  generalize s.c=c at *
  have hd:decide ((c:Int)≤(n:Int))=true:=decide_eq_true (by omega)
  clear H hs
  go_enter Tryz.func77,Tryz.ntmps77
  go_wp2_with fail
  go_quiet (first | (go_at_call 92;refine Calls.quiet_of_same (hh _)) | (go_at_call 124;refine Calls.quiet_of (hlen _)))
  go_wp2_with fail
  go_ret
  exact ⟨rfl,_,rfl⟩
set_option maxRecDepth 20000 in
set_option maxHeartbeats 4000000 in
theorem rload_yes (H:RE x s D w) (hok:A.Ok s) (hD:∀ k,w.heap.size≤k→D k) (key:ByteArray) (hk:key∉A.keys s) (hl:(A.keys s).length<s.c) :
 Calls Tryz.prog 77 #[.pointer (some ⟨x,0,none⟩),.string key] w fun e w'=>e=.returned (.bool true)∧RE x (A.again (A.noGhost s key) key) D w'∧Keeps D w w':=by
 have hs:=Small.of hok
 have hh:=fun q=>rhas_key (H.below (below_drewN (Below.refl _ w) q)) hs key
 have hlen:=fun q=>rlen_any (H.below (below_drewN (Below.refl _ w) q)) hs
 rw [inn_no hk] at hh
 have HKn:Hid (∀ W:World,Below w.heap.size w W→Calls Tryz.prog 125 #[.pointer (some ⟨x,0,none⟩),.string key] W fun e w'=>e=.returned (.bool (inn key (A.ghosts s)))∧RE x (A.noGhost s key) D w'∧Keeps D W w'):=fun W hW=>rknown_any (H.below hW) hs (fun k h=>hD k (Nat.le_trans hW.size h)) key
 have HD:Hid (∀ k,w.heap.size≤k→D k):=hD
 have l2:=hs.l2
 obtain ⟨L,a1,c1,a2,c2,a3,c3,H⟩:=H
 obtain ⟨d0,d1,d2,d3⟩:=H.cells
 have hhi:=hs.hc
 have hd:decide ((s.c:Int)≤((A.keys s).length:Int))=false:=decide_eq_false (by omega)
 have hd2:decide (s.c≤(A.keys s).length)=false:=decide_eq_false (by omega)
 generalize (A.keys s).length=n at *
 clear H hs hD hok
 go_enter Tryz.func77,Tryz.ntmps77
 go_wp2_with fail
 go_quiet (first | (go_at_call 92;refine Calls.quiet_of_same (hh _)) | (go_at_call 124;refine Calls.quiet_of (hlen _)))
 clear hh hlen d0 d1 d2 d3
 go_wp2_with (first
  | (go_at_call 125;refine Calls.mono (HKn.out _ (below_drewN (Below.refl _ w) _)) ?_;rintro e w5 ⟨rfl,⟨M,b1,n1,b2,n2,b3,n3,hM⟩,hk5⟩;obtain ⟨u0,u1,u2,u3⟩:=hM.cells;have HM:Hid (ReIn D M w5 x (A.noGhost s key) b1 n1 b2 n2 b3 n3):=hM;have HK5:Hid (Keeps D w w5):=((Keeps.of_below (below_drewN (Below.refl _ w) _)).trans hk5);clear hM hk5;replace u1:w5.cell? ⟨x,1,none⟩=some (.slice b2 s.t2.length n2):=u1)
  | (at_builtin;go_must (refine C.wpList_append_row (zs:=s.t2) (ks:=[⟨key,0⟩]) rfl _ _ rfl rfl (HM.out.r2.below ((Below.refl _ _).alloc (Nat.le_refl _) _)) rfl (C.src_one _ key 0) (by simp;omega) ?_);intro a7 n7 w7 hr7 hk7;obtain ⟨⟨x0,x1,x2,x3⟩,y0,y1,y2,y3⟩:=(HM.out.below ((Below.refl _ _).alloc (Nat.le_refl _) _)).still (by omega) hk7;have H7:Hid (RE x (A.again (A.noGhost s key) key) D (w7.setCell ⟨x,1,none⟩ (.slice a7 (s.t2.length+1) n7))):=(by have h7:=((HM.out.below ((Below.refl _ _).alloc (Nat.le_refl _) _)).put2 (fun k h=>HD.out k (Nat.le_trans HK5.out.size (Nat.le_trans (by simp) h))) hk7 hr7);rw [List.length_append,List.length_cons,List.length_nil] at h7;exact ⟨_,_,_,_,_,_,_,h7⟩);have HK7:Hid (Keeps D w (w7.setCell ⟨x,1,none⟩ (.slice a7 (s.t2.length+1) n7))):=(((HK5.out.alloc _).trans (hk7.mono (fun _ _ h=>h.1))).setCell (p:=⟨x,1,none⟩) HM.out.dx _);clear hr7 hk7))
 go_ret
 exact ⟨rfl,H7.out,HK7.out⟩
theorem rload_any (H:RE x s D w) (hok:A.Ok s) (hD:∀ k,w.heap.size≤k→D k) (key:ByteArray) :
 Calls Tryz.prog 77 #[.pointer (some ⟨x,0,none⟩),.string key] w fun e w'=>e=.returned (.bool (A.load s key).1)∧RE x (A.load s key).2 D w'∧Keeps D w w':=by
 by_cases h:key∈A.keys s∨s.c≤(A.keys s).length
 ·unfold A.load
  rw [if_pos h]
  refine (rload_no H (Small.of hok) key h).mono ?_
  rintro e w' ⟨rfl,q,rfl⟩
  exact ⟨rfl,H.below (below_drewN (Below.refl _ w) q),.of_below (below_drewN (Below.refl _ w) q)⟩
 ·unfold A.load
  rw [if_neg h]
  exact rload_yes H hok hD key (fun h1=>h (.inl h1)) (by rcases Nat.lt_or_ge (A.keys s).length s.c with h1 | h1;exact h1;exact absurd (.inr h1) h)
end
end Go.Proofs.YtkkkkiejnmpdkaaGreatDoor.Sfifo
namespace Go.Proofs.YtkkkkiejnmpdkaaGreatDoor.Sfifo
open Go.RowKit
section
variable {D D':Nat→Prop} {w w':World} {x:Nat} {s:Stt}
theorem eng_start (c:Nat) (v:Int) (h:v=c):some (Obj.cells #[.slice none 0 0,.slice none 0 0,.slice none 0 0,.int .i64 v] 136 (0,0))=some (Obj.cells (eng (A.start c) none 0 none 0 none 0) 136 (0,0)):=by
 subst h
 rfl
theorem rnew_any (r:Int) (hD:∀ k,w.heap.size≤k→D k) :
 Calls Tryz.prog 28 #[.int .i64 r] w fun e w'=>∃ x,e=.returned (.pointer (some ⟨x,0,none⟩))∧RE x (A.start (heldC r)) D w'∧Keeps D w w':=by
 have hc:((heldC r:Nat):Int)=min (max r 1) 1024:=by unfold heldC;omega
 go_enter Tryz.func28,Tryz.ntmps28
 go_wp2_with fail
 all_goals
  go_ret
  refine ⟨_,rfl,⟨fun g=>if g=w.heap.size then 0 else 1,none,0,none,0,none,0,hD _ (Nat.le_refl _),by simp,?_,C.Row.nil,C.Row.nil,Row.nil⟩,(Keeps.refl D w).alloc _⟩
  rw [heap_alloc_new]
  exact eng_start _ _ (by first | exact hc.symm | omega)
end
end Go.Proofs.YtkkkkiejnmpdkaaGreatDoor.Sfifo
namespace Go.Proofs.YtkkkkiejnmpdkaaGreatDoor.Sfifo
open Go.RowKit
section
variable {D D':Nat→Prop} {w w':World} {x:Nat} {s:Stt}
theorem take_snoc {zs:List ByteArray} {j:Nat} {z:ByteArray} (h:zs[j]? = some z):zs.take (j+1)=zs.take j++[z]:=by rw [List.take_add_one,h];simp
theorem ks_at {zs:List Ls.It} {j:Nat} {z:Ls.It} (h:zs[j]? = some z):(A.ks zs)[j]? = some z.key:=by simp [A.ks,h]
set_option maxHeartbeats 4000000 in
theorem rkeys_any (H:RE x s D w) (hs:Small s) :
 Calls Tryz.prog 43 #[.pointer (some ⟨x,0,none⟩)] w fun e w'=>∃ ad cap,e=.returned (.slice ad (A.keys s).length cap)∧Row (w.heap.size≤·) w' ad cap (A.keys s)∧Below w.heap.size w w':=by
 obtain ⟨L,a1,c1,a2,c2,a3,c3,H⟩:=H
 have l1:=hs.l1
 have l2:=hs.l2
 have HC:Hid (∀ W,Below w.heap.size w W→W.cell? ⟨x,0,none⟩=some (.slice a1 s.t1.length c1)∧W.cell? ⟨x,1,none⟩=some (.slice a2 s.t2.length c2)):=fun W hb=>by
  obtain ⟨p0,p1,p2,p3⟩:=(H.below hb).cells
  exact ⟨p0,p1⟩
 have HR1:Hid (C.Row (fun g=>D g∧L g=1) w a1 c1 s.t1):=H.r1
 have HR2:Hid (C.Row (fun g=>D g∧L g=2) w a2 c2 s.t2):=H.r2
 have HKs:Hid (A.keys s=A.ks s.t1++A.ks s.t2):=rfl
 rw [HKs.out]
 clear H hs HKs
 generalize s.t1=z1 at *
 generalize s.t2=z2 at *
 go_enter Tryz.func43,Tryz.ntmps43
 go_wp2
 go_loopw [3,4] (fun v i wr=>∃ (j:Nat) (b:Option Addr) (n:Nat),j≤z1.length∧i=.int .i64 j∧v=.slice b ((A.ks z1).take j).length n∧Row (w.heap.size≤·) wr b n ((A.ks z1).take j)∧Below w.heap.size w wr) (fun _ i _=>z1.length - (intOf i).toNat)
 case atStart=>exact ⟨0,none,0,Nat.zero_le _,rfl,by simp,by simpa using Row.nil,Below.refl _ _⟩
 case round =>
  obtain ⟨j,b,n,hj,rfl,rfl,hrow,hb⟩:=hrel
  have hs:=hb.size
  obtain ⟨d0,d1⟩:=HC.out wr hb
  have hln:((A.ks z1).take j).length=j:=by simp [A.ks_len];omega
  rcases Nat.lt_or_ge j z1.length with hlt | hge
  ·obtain ⟨z,hz⟩:∃ z,z1[j]? = some z:=⟨_,List.getElem?_eq_getElem hlt⟩
   obtain ⟨g,off,rfl,-,-,k0,-,-⟩:=(HR1.out.below hb).at hz
   have HT:Hid ((A.ks z1).take (j+1)=(A.ks z1).take j++[z.key]):=take_snoc (ks_at hz)
   clear hz
   generalize (A.ks z1).take j=m at *
   go_wp2_with (at_builtin;go_must (refine wpList_append_row (zs:=m) (ks:=[z.key]) rfl _ _ rfl rfl (hrow.below ((Below.refl _ wr).alloc (Nat.le_refl _) _)) rfl (src_one _ z.key) (by simp;omega) ?_);intro a3 c3 w3 hrow3 hk3;have hb3:Below w.heap.size w w3:=(hb.alloc hs _).trans (hk3.below (by simp;omega) (fun _ h=>h));have hrow3':Row (w.heap.size≤·) w3 a3 c3 (m++[z.key]):=rrow_old hrow3 (by simp;omega);clear hrow3 hk3)
   go_roundw
   case rel=>exact ⟨j+1,a3,c3,hlt,by go_num,by rw [HT.out,List.length_append,List.length_cons,List.length_nil,hln],by rw [HT.out];exact hrow3',hb3⟩
   case measure=>simp [intOf];omega
  ·have hj':j=z1.length:=by omega
   have e:(A.ks z1).take j=A.ks z1:=List.take_of_length_le (by rw [A.ks_len];omega)
   rw [e] at hrow ⊢
   clear hln e
   have hla:=A.ks_len z1
   generalize hy:A.ks z1=y1 at *
   have HY:Hid (A.ks z1=y1):=hy
   clear hy
   subst hj'
   clear hj hge
   go_wp2_with fail
   go_loopw [3,5] (fun v i wr=>∃ (j:Nat) (b:Option Addr) (n:Nat),j≤z2.length∧i=.int .i64 j∧v=.slice b (y1++(A.ks z2).take j).length n∧Row (w.heap.size≤·) wr b n (y1++(A.ks z2).take j)∧Below w.heap.size w wr) (fun _ i _=>z2.length - (intOf i).toNat)
   case atStart=>exact ⟨0,b,n,Nat.zero_le _,rfl,by simp,by simpa using hrow,hb⟩
   case round =>
    clear hrow hb hs d0 d1
    obtain ⟨j,b,n,hj,rfl,rfl,hrow,hb⟩:=hrel
    have hs:=hb.size
    obtain ⟨d0,d1⟩:=HC.out wr hb
    have hln:(y1++(A.ks z2).take j).length=z1.length+j:=by simp [A.ks_len];omega
    rcases Nat.lt_or_ge j z2.length with hlt | hge
    ·obtain ⟨z,hz⟩:∃ z,z2[j]? = some z:=⟨_,List.getElem?_eq_getElem hlt⟩
     obtain ⟨g,off,rfl,-,-,k0,-,-⟩:=(HR2.out.below hb).at hz
     have HT:Hid (y1++(A.ks z2).take (j+1)=(y1++(A.ks z2).take j)++[z.key]):=by
      show y1++(A.ks z2).take (j+1)=_
      rw [take_snoc (ks_at hz)]
      simp
     clear hz
     generalize y1++(A.ks z2).take j=m at *
     go_wp2_with (at_builtin;go_must (refine wpList_append_row (zs:=m) (ks:=[z.key]) rfl _ _ rfl rfl (hrow.below ((Below.refl _ wr).alloc (Nat.le_refl _) _)) rfl (src_one _ z.key) (by simp;omega) ?_);intro a3 c3 w3 hrow3 hk3;have hb3:Below w.heap.size w w3:=(hb.alloc hs _).trans (hk3.below (by simp;omega) (fun _ h=>h));have hrow3':Row (w.heap.size≤·) w3 a3 c3 (m++[z.key]):=rrow_old hrow3 (by simp;omega);clear hrow3 hk3)
     go_roundw
     case rel=>exact ⟨j+1,a3,c3,hlt,by go_num,by rw [HT.out,List.length_append,List.length_cons,List.length_nil,hln],by rw [HT.out];exact hrow3',hb3⟩
     case measure=>simp [intOf];omega
    ·have hj':j=z2.length:=by omega
     have e:(A.ks z2).take j=A.ks z2:=List.take_of_length_le (by rw [A.ks_len];omega)
     rw [e] at hrow ⊢
     subst hj'
     go_wp2_with fail
     go_ret
     rw [HY.out]
     exact ⟨_,_,rfl,hrow,hb⟩
end
end Go.Proofs.YtkkkkiejnmpdkaaGreatDoor.Sfifo
namespace Go.Proofs.YtkkkkiejnmpdkaaGreatDoor.Sfifo
open Go.RowKit
def dig (n:Nat):ByteArray:=⟨#[UInt8.ofNat (48+n)]⟩
def txt (nm:ByteArray) (zs:List Ls.It):ByteArray:=zs.foldl (fun t z=>t++⟨#[32]⟩++z.key++⟨#[47]⟩++dig z.n) (nm++⟨#[58]⟩)
theorem txt_snoc (nm:ByteArray) (zs:List Ls.It) (z:Ls.It):txt nm (zs++[z])=txt nm zs++⟨#[32]⟩++z.key++⟨#[47]⟩++dig z.n:=by simp [txt]
theorem size_snoc (a b:ByteArray):(a++b).size=a.size+b.size:=by simp
theorem txt_size (nm:ByteArray):∀ (zs:List Ls.It),(∀ z∈zs,z.key.size≤1000)→(txt nm zs).size≤nm.size+1+1003*zs.length:=by
 intro zs
 suffices h:∀ (t:ByteArray),(∀ z∈zs,z.key.size≤1000)→(zs.foldl (fun t z=>t++⟨#[32]⟩++z.key++⟨#[47]⟩++dig z.n) t).size≤t.size+1003*zs.length by
  intro hz
  have h2:=h (nm++⟨#[58]⟩) hz
  rw [size_snoc] at h2
  exact h2
 induction zs with
 | nil=>intro t _;simp
 | cons a l ih =>
   intro t hz
   rw [List.foldl_cons]
   have h1:=ih (t++⟨#[32]⟩++a.key++⟨#[47]⟩++dig a.n) (fun z h=>hz z (List.mem_cons_of_mem _ h))
   have h2:=hz a List.mem_cons_self
   rw [size_snoc,size_snoc,size_snoc,size_snoc] at h1
   have h3:(⟨#[32]⟩:ByteArray).size=1:=rfl
   have h4:(⟨#[47]⟩:ByteArray).size=1:=rfl
   have h5:(dig a.n).size=1:=rfl
   rw [List.length_cons]
   omega
section
variable {D D':Nat→Prop} {w w':World} {ad:Option Addr} {cap:Nat} {zs:List Ls.It}
set_option maxRecDepth 20000 in
set_option maxHeartbeats 2000000 in
theorem rtext_any (H:C.Row D w ad cap zs) (hn:zs.length≤10000) (hz:∀ z∈zs,z.key.size≤1000∧z.n≤3) (nm:ByteArray) (hnm:nm.size≤100) :
 Calls Tryz.prog 97 #[.string nm,.slice ad zs.length cap] w fun e w'=>e=.returned (.string (txt nm zs))∧Below w.heap.size w w':=by
 have HH:Hid (C.Row D w ad cap zs):=H
 have HZ:Hid (∀ z∈zs,z.key.size≤1000∧z.n≤3):=hz
 clear H hz
 go_enter Tryz.func97,Tryz.ntmps97
 go_wp2_with fail
 go_loopw [5,6] (fun t i wr=>∃ j:Nat,j≤zs.length∧i=.int .i64 j∧t=.string (txt nm (zs.take j))∧Below w.heap.size w wr) (fun _ i _=>zs.length - (intOf i).toNat)
 case atStart=>exact ⟨0,Nat.zero_le _,rfl,rfl,Below.refl _ _⟩
 case round =>
  obtain ⟨j,hj,rfl,rfl,hb⟩:=hrel
  have HB:Hid (Below w.heap.size w wr):=hb
  rcases Nat.lt_or_ge j zs.length with hlt | hge
  ·obtain ⟨z,hz⟩:∃ z,zs[j]? = some z:=⟨_,List.getElem?_eq_getElem hlt⟩
   obtain ⟨g,off,rfl,-,hgl,c0,c1,-⟩:=(HH.out.below hb).at hz
   obtain ⟨hzs,hz3⟩:=HZ.out z (List.mem_of_getElem? hz)
   have hts:=txt_size nm (zs.take j) (fun y hy=>(HZ.out y (List.mem_of_mem_take hy)).1)
   have htl:(zs.take j).length≤10000:=by simp;omega
   have HS:Hid (txt nm (zs.take (j+1))=txt nm (zs.take j)++⟨#[32]⟩++z.key++⟨#[47]⟩++dig z.n):=by
    show txt nm (zs.take (j+1))=_
    rw [List.take_add_one,hz]
    exact txt_snoc _ _ _
   clear hz hb
   generalize txt nm (zs.take j)=t at *
   have ht:t.size≤20000000:=by omega
   clear hts htl
   have s1:(⟨#[32]⟩:ByteArray).size=1:=rfl
   have s2:(⟨#[47]⟩:ByteArray).size=1:=rfl
   have p1:∀ W:World,(Op.stringOp .add t (⟨#[32]⟩:ByteArray)).run Tryz.prog W=.ok (.string (t++(⟨#[32]⟩:ByteArray))) W:=fun W=>run_string_add_sum W _ _ (by omega)
   have q1:(t++(⟨#[32]⟩:ByteArray)).size≤20000001:=by rw [size_snoc];omega
   generalize t++(⟨#[32]⟩:ByteArray)=t1 at *
   have p2:∀ W:World,(Op.stringOp .add t1 z.key).run Tryz.prog W=.ok (.string (t1++z.key)) W:=fun W=>run_string_add_sum W _ _ (by omega)
   have q2:(t1++z.key).size≤20001001:=by rw [size_snoc];omega
   generalize t1++z.key=t2 at *
   have p3:∀ W:World,(Op.stringOp .add t2 (⟨#[47]⟩:ByteArray)).run Tryz.prog W=.ok (.string (t2++(⟨#[47]⟩:ByteArray))) W:=fun W=>run_string_add_sum W _ _ (by omega)
   have q3:(t2++(⟨#[47]⟩:ByteArray)).size≤20001002:=by rw [size_snoc];omega
   generalize t2++(⟨#[47]⟩:ByteArray)=t3 at *
   have p4:∀ W:World,(Op.stringOp .add t3 (dig z.n)).run Tryz.prog W=.ok (.string (t3++dig z.n)) W:=fun W=>run_string_add_sum W _ _ (by have:(dig z.n).size=1:=rfl;omega)
   have hw48:IntKind.i64.wrap (48+(z.n:Int))=48+(z.n:Int):=by rw [IntKind.wrap_i64];omega
   have hw8:IntKind.u8.wrap (48+(z.n:Int))=48+(z.n:Int):=by
    have:z.n=0∨z.n=1∨z.n=2∨z.n=3:=by omega
    rcases this with h | h | h | h <;> rw [h] <;> rfl
   have hu8:(UInt8.ofNat (48+z.n)).toNat=48+z.n:=by simp;omega
   have pc:(convert 140 9 (.slice (some ⟨wr.heap.size,0,none⟩) 1 1)).run Tryz.prog (wr.alloc (.cells #[.int .u8 (48+(z.n:Int))] 5)).drew=.ok (.string (dig z.n)) (wr.alloc (.cells #[.int .u8 (48+(z.n:Int))] 5)).drew:=by
    refine run_convert_bytes_back (P:=Tryz.prog) _ _ _ _ _ _ [UInt8.ofNat (48+z.n)] Tryz.underlying140 Tryz.underlying5 Tryz.underlying9 (fun i hi=>?_)
    have h0:i=0:=by simpa using hi
    subst h0
    have hblk:(wr.alloc (.cells #[.int .u8 (48+(z.n:Int))] 5)).drew.heap[wr.heap.size]? = some (.cells #[.int .u8 (48+(z.n:Int))] 5 (0,0)):=heap_alloc_new wr _
    rw [Addr.add_lit,cell_of_block hblk]
    simp only [List.getElem_cons_zero,hu8]
    simp
   clear hu8
   have c0':=cell_later ((Below.refl _ wr).alloc (Nat.le_refl _) (.cells #[.int .u8 (48+(z.n:Int))] 5)) c0
   have c1':=cell_later ((Below.refl _ wr).alloc (Nat.le_refl _) (.cells #[.int .u8 (48+(z.n:Int))] 5)) c1
   go_wp2_with fail
   go_region_with (fail)
   all_goals
    have HB2:Hid (Below w.heap.size w (wr.alloc (.cells #[.int .u8 (48+(z.n:Int))] 5)).drew):=(HB.out.alloc HB.out.size _).drew
    go_wp2_with fail
    go_roundw
    case rel=>exact ⟨j+1,hlt,by go_num,by rw [HS.out],HB2.out⟩
    case measure=>simp [intOf];omega
  ·have hj':j=zs.length:=by omega
   subst hj'
   rw [List.take_length]
   go_wp2_with fail
   go_ret
   exact ⟨rfl,HB.out⟩
end
theorem bytes_app (a b:ByteArray):(a++b).data.toList=a.data.toList++b.data.toList:=by simp
theorem dig_bytes {n:Nat} (h:n≤3):(dig n).data.toList=Lib.decDigits n:=by
 have:n=0∨n=1∨n=2∨n=3:=by omega
 rcases this with h | h | h | h <;> subst h <;> (rw [Lib.decDigits,dif_pos (by omega)];rfl)
theorem txt_bytes (nm:ByteArray) {r:Nat} (hr:r≠2):∀ (zs:List Ls.It),(∀ z∈zs,z.n≤3)→(txt nm zs).data.toList=nm.data.toList++[58]++rowI r zs:=by
 intro zs
 unfold txt
 suffices h:∀ (t:ByteArray),(∀ z∈zs,z.n≤3)→(zs.foldl (fun t z=>t++⟨#[32]⟩++z.key++⟨#[47]⟩++dig z.n) t).data.toList=t.data.toList++rowI r zs by
  intro hz
  rw [h _ hz,bytes_app]
 induction zs with
 | nil=>intro t _;simp [rowI]
 | cons z l ih =>
   intro t hz
   rw [List.foldl_cons,ih _ (fun y hy=>hz y (List.mem_cons_of_mem _ hy)),bytes_app,bytes_app,bytes_app,bytes_app,dig_bytes (hz z List.mem_cons_self)]
   simp [rowI,itB,hr]
def gT (t:ByteArray) (zs:List ByteArray):ByteArray:=zs.foldl (fun t z=>t++⟨#[32]⟩++z) t
theorem gT_snoc (t:ByteArray) (zs:List ByteArray) (z:ByteArray):gT t (zs++[z])=gT t zs++⟨#[32]⟩++z:=by simp [gT]
theorem gT_size:∀ (zs:List ByteArray) (t:ByteArray),(∀ z∈zs,z.size≤1000)→(gT t zs).size≤t.size+1001*zs.length:=by
 intro zs
 induction zs with
 | nil=>intro t _;simp [gT]
 | cons a l ih =>
   intro t hz
   have h1:=ih (t++⟨#[32]⟩++a) (fun z h=>hz z (List.mem_cons_of_mem _ h))
   have h2:=hz a List.mem_cons_self
   rw [size_snoc,size_snoc] at h1
   have h3:(⟨#[32]⟩:ByteArray).size=1:=rfl
   rw [List.length_cons]
   show (gT (t++⟨#[32]⟩++a) l).size≤_
   omega
theorem gT_bytes:∀ (zs:List Ls.It) (t:ByteArray),(gT t (A.ks zs)).data.toList=t.data.toList++rowI 2 zs:=by
 intro zs
 induction zs with
 | nil=>intro t;simp [gT,rowI,A.ks]
 | cons z l ih =>
   intro t
   show (gT (t++⟨#[32]⟩++z.key) (A.ks l)).data.toList=_
   rw [ih,bytes_app,bytes_app]
   simp [rowI,itB]
theorem text_both {w:World} {nm1 nm2 r1 r2:ByteArray} {v1 v2:Value} (h1:∀ W,Below w.heap.size w W→Calls Tryz.prog 97 #[.string nm1,v1] W fun e w'=>e=.returned (.string r1)∧Below W.heap.size W w')
 (h2:∀ W,Below w.heap.size w W→Calls Tryz.prog 97 #[.string nm2,v2] W fun e w'=>e=.returned (.string r2)∧Below W.heap.size W w') (W:World) (hb:Below w.heap.size w W) (n:ByteArray) (v:Value) (r:ByteArray) (h:(n=nm1∧v=v1∧r=r1)∨(n=nm2∧v=v2∧r=r2)) :
 Calls Tryz.prog 97 #[.string n,v] W fun e w'=>e=.returned (.string r)∧Below W.heap.size W w':=by
 rcases h with ⟨rfl,rfl,rfl⟩ | ⟨rfl,rfl,rfl⟩
 ·exact h1 W hb
 ·exact h2 W hb
def stT (s:Stt):ByteArray:=gT (txt ⟨#[83]⟩ s.t1++⟨#[59]⟩++txt ⟨#[77]⟩ s.t2++⟨#[59,71,58]⟩) (A.ks s.b1)
theorem stT_eq {s:Stt} (hf:∀ z∈s.t1++s.t2,z.n≤3):stT s=⟨(stB (qs s) 3).toArray⟩:=by
 have h:(stT s).data.toList=stB (qs s) 3:=by
  unfold stT
  rw [gT_bytes,bytes_app,bytes_app,bytes_app,txt_bytes _ (r:=0) (by omega) _ (fun z hz=>hf z (by simp [hz])),txt_bytes _ (r:=1) (by omega) _ (fun z hz=>hf z (by simp [hz]))]
  simp [stB,List.range,List.range.loop,oneB,nameB,qs]
 rw [← h]
section
variable {D D':Nat→Prop} {w w':World} {x:Nat} {s:Stt}
set_option maxRecDepth 20000 in
set_option maxHeartbeats 4000000 in
theorem rstate_any (H:RE x s D w) (hs:Small s) (hf:∀ z∈s.t1++s.t2,z.n≤3) (hz:∀ k,k∈A.ks s.t1∨k∈A.ks s.t2∨k∈A.ks s.b1→k.size≤1000) :
 Calls Tryz.prog 38 #[.pointer (some ⟨x,0,none⟩)] w fun e w'=>e=.returned (.string (stT s))∧Below w.heap.size w w':=by
 obtain ⟨L,a1,c1,a2,c2,a3,c3,H⟩:=H
 have l1:=hs.l1
 have l2:=hs.l2
 have l3:=hs.l3
 have f1:∀ z∈s.t1,z.key.size≤1000∧z.n≤3:=fun z h=>⟨hz _ (.inl (A.ks_mem.2 ⟨z,h,rfl⟩)),hf z (by simp [h])⟩
 have f2:∀ z∈s.t2,z.key.size≤1000∧z.n≤3:=fun z h=>⟨hz _ (.inr (.inl (A.ks_mem.2 ⟨z,h,rfl⟩))),hf z (by simp [h])⟩
 have HZ3:Hid (∀ z∈A.ks s.b1,z.size≤1000):=fun z h=>hz z (.inr (.inr h))
 have HC:Hid (∀ W,Below w.heap.size w W→W.cell? ⟨x,0,none⟩=some (.slice a1 s.t1.length c1)∧W.cell? ⟨x,1,none⟩=some (.slice a2 s.t2.length c2)∧W.cell? ⟨x,2,none⟩=some (.slice a3 (A.ks s.b1).length c3)):=fun W hb=>by
  obtain ⟨p0,p1,p2,p3⟩:=(H.below hb).cells
  exact ⟨p0,p1,p2⟩
 have T1:Hid (∀ W,Below w.heap.size w W→Calls Tryz.prog 97 #[.string ⟨#[83]⟩,.slice a1 s.t1.length c1] W fun e w'=>e=.returned (.string (txt ⟨#[83]⟩ s.t1))∧Below W.heap.size W w'):=fun W hb=>rtext_any (H.below hb).r1 (by omega) f1 ⟨#[83]⟩ (by decide)
 have T2:Hid (∀ W,Below w.heap.size w W→Calls Tryz.prog 97 #[.string ⟨#[77]⟩,.slice a2 s.t2.length c2] W fun e w'=>e=.returned (.string (txt ⟨#[77]⟩ s.t2))∧Below W.heap.size W w'):=fun W hb=>rtext_any (H.below hb).r2 (by omega) f2 ⟨#[77]⟩ (by decide)
 have HR3:Hid (Row (fun g=>D g∧L g=3) w a3 c3 (A.ks s.b1)):=H.r3
 have z1:=txt_size ⟨#[83]⟩ s.t1 (fun z h=>(f1 z h).1)
 have z2:=txt_size ⟨#[77]⟩ s.t2 (fun z h=>(f2 z h).1)
 have e1:(⟨#[83]⟩:ByteArray).size=1:=rfl
 have e2:(⟨#[77]⟩:ByteArray).size=1:=rfl
 unfold stT
 have y1:(txt ⟨#[83]⟩ s.t1).size≤5000000:=by omega
 have y2:(txt ⟨#[77]⟩ s.t2).size≤5000000:=by omega
 clear z1 z2 e1 e2 H hs hz f1 f2 hf
 generalize txt ⟨#[83]⟩ s.t1=x1 at *
 generalize txt ⟨#[77]⟩ s.t2=x2 at *
 generalize A.ks s.b1=zs at *
 generalize s.t1.length=n1 at *
 generalize s.t2.length=n2 at *
 have sz:(⟨#[59]⟩:ByteArray).size=1:=rfl
 have sz3:(⟨#[59,71,58]⟩:ByteArray).size=3:=rfl
 have p1:∀ W:World,(Op.stringOp .add x1 (⟨#[59]⟩:ByteArray)).run Tryz.prog W=.ok (.string (x1++(⟨#[59]⟩:ByteArray))) W:=fun W=>run_string_add_sum W _ _ (by omega)
 have s1:(x1++(⟨#[59]⟩:ByteArray)).size≤5000001:=by rw [size_snoc];omega
 generalize x1++(⟨#[59]⟩:ByteArray)=c1' at *
 have p2:∀ W:World,(Op.stringOp .add c1' x2).run Tryz.prog W=.ok (.string (c1'++x2)) W:=fun W=>run_string_add_sum W _ _ (by omega)
 have s2:(c1'++x2).size≤10000001:=by rw [size_snoc];omega
 generalize c1'++x2=c2' at *
 have p3:∀ W:World,(Op.stringOp .add c2' (⟨#[59,71,58]⟩:ByteArray)).run Tryz.prog W=.ok (.string (c2'++(⟨#[59,71,58]⟩:ByteArray))) W:=fun W=>run_string_add_sum W _ _ (by omega)
 have s3:(c2'++(⟨#[59,71,58]⟩:ByteArray)).size≤10000004:=by rw [size_snoc];omega
 generalize c2'++(⟨#[59,71,58]⟩:ByteArray)=c3' at *
 clear s1 s2 sz sz3 y1 y2 l1 l2
 have TB:Hid _:=text_both T1.out T2.out
 clear T1 T2
 obtain ⟨d0,d1,d2⟩:=HC.out w (Below.refl _ _)
 go_enter Tryz.func38,Tryz.ntmps38
 go_wp2_with fail
 go_region_held3 (fun w'=>w'.cell? ⟨x,0,none⟩=some (.slice a1 n1 c1)∧w'.cell? ⟨x,1,none⟩=some (.slice a2 n2 c2)) (first | exact ⟨d0,d1⟩ | exact ⟨u0,u1⟩ | exact ⟨v0,v1⟩ | go_keep)
  (first
  | (go_at_call 97;refine (TB.out _ HB1.out _ _ _ (by first | exact .inr ⟨rfl,rfl,rfl⟩)).mono ?_;rintro e w2 ⟨rfl,hb2⟩;have HB2:Hid (Below w.heap.size w w2):=(below_trans' HB1.out hb2);obtain ⟨v0,v1,v2⟩:=HC.out w2 HB2.out;clear hb2)
  | (go_at_call 97;refine (TB.out _ (Below.refl _ _).drew _ _ _ (by first | exact .inl ⟨rfl,rfl,rfl⟩)).mono ?_;rintro e w1 ⟨rfl,hb1⟩;have HB1:Hid (Below w.heap.size w w1):=(below_trans' (Below.refl _ _).drew hb1);obtain ⟨u0,u1,u2⟩:=HC.out w1 HB1.out;clear hb1))
 all_goals
  go_wp2_with fail
  go_loopw [3,4] (fun t i wr=>∃ j:Nat,j≤zs.length∧i=.int .i64 j∧t=.string (gT c3' (zs.take j))∧Below w.heap.size w wr) (fun _ i _=>zs.length - (intOf i).toNat)
  case atStart=>exact ⟨0,Nat.zero_le _,rfl,rfl,HB2.out⟩
  case round =>
   clear d0 d1 d2 u0 u1 u2 v0 v1 v2
   obtain ⟨j,hj,rfl,rfl,hb⟩:=hrel
   have HB:Hid (Below w.heap.size w wr):=hb
   obtain ⟨d0,d1,d2⟩:=HC.out wr hb
   rcases Nat.lt_or_ge j zs.length with hlt | hge
   ·obtain ⟨z,hz⟩:∃ z,zs[j]? = some z:=⟨_,List.getElem?_eq_getElem hlt⟩
    obtain ⟨g,off,rfl,-,c0,-⟩:=(HR3.out.below hb).at hz
    have hzs:=HZ3.out z (List.mem_of_getElem? hz)
    have hts:=gT_size (zs.take j) c3' (fun y hy=>HZ3.out y (List.mem_of_mem_take hy))
    have htl:(zs.take j).length≤4100:=by simp;omega
    have HS:Hid (gT c3' (zs.take (j+1))=gT c3' (zs.take j)++⟨#[32]⟩++z):=by
     show gT c3' (zs.take (j+1))=_
     rw [List.take_add_one,hz]
     exact gT_snoc _ _ _
    clear hz hb
    generalize gT c3' (zs.take j)=t at *
    have ht:t.size≤20000000:=by omega
    clear hts htl s3
    go_wp2_with fail
    go_roundw
    case rel=>exact ⟨j+1,hlt,by go_num,by rw [HS.out],HB.out⟩
    case measure=>simp [intOf];omega
   ·have hj':j=zs.length:=by omega
    subst hj'
    rw [List.take_length]
    go_wp2_with fail
    go_ret
    exact ⟨rfl,HB.out⟩
end
end Go.Proofs.YtkkkkiejnmpdkaaGreatDoor.Sfifo
