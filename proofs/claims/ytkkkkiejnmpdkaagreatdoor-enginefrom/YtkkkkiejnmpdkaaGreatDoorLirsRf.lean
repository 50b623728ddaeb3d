/- Lirs Rf: Tc Rfb Rfc Rfd Rfe Rfg Rfh Rfj Rfk Rfl -/
import Derived.Test.YtkkkkiejnmpdkaaGreatDoorLirsPu
import Derived.Test.YtkkkkiejnmpdkaaGreatDoorTx
import Derived.Test.YtkkkkiejnmpdkaaGreatDoorLirsEf
import Derived.Test.YtkkkkiejnmpdkaaGreatDoorLirsEo
import Derived.Deep.LoopGhost
import Derived.Laws.CopyOwn
import Derived.Laws.Concat
import Derived.Laws.BytesString
import Derived.Laws.IdiomStrings
import Derived.StillTailTactics
namespace Go.Proofs.YtkkkkiejnmpdkaaGreatDoor.Lirs.C
open Go.RowKit
structure It where
 key:ByteArray
 n:Nat
def its (l:List It):List Value:=l.flatMap fun x=>[Value.string x.key,Value.int IntKind.u8 (x.n:Nat)]
def ks (l:List It):List ByteArray:=l.map It.key
theorem its_at {l:List It} {j:Nat} {x:It} (h:l[j]? = some x):(its l)[j*2]? = some (Value.string x.key)∧(its l)[j*2+1]? = some (Value.int IntKind.u8 (x.n:Nat)):=by
 induction l generalizing j with
 | nil=>simp at h
 | cons y l ih =>
   cases j with
   | zero=>simp at h;subst h;simp [its]
   | succ j =>
     have:=ih (j:=j) (by simpa using h)
     simp only [its,List.flatMap_cons] at this ⊢
     rw [show (j+1)*2=j*2+2 by omega,show j*2+2+1=(j*2+1)+2 by omega]
     simpa using this
theorem its_len (l:List It):(its l).length=l.length*2:=by
 induction l with
 | nil=>rfl
 | cons x l ih =>
   simp only [its,List.flatMap_cons,List.length_append,List.length_cons,List.length_nil] at ih ⊢
   omega
theorem its_app (l m:List It):its (l++m)=its l++its m:=by simp [its]
theorem its_one (l:List It):∀ u∈its l,u.oneCell'=true:=by
 intro u hu
 simp only [its,List.mem_flatMap] at hu
 obtain ⟨x,_,h⟩:=hu
 simp at h
 rcases h with rfl | rfl <;> rfl
theorem its_cell {l:List It} {f:Nat→Option Value} (h:∀ i z,l[i]? = some z→f (i*2)=some (.string z.key)∧f (i*2+1)=some (.int .u8 (z.n:Nat))) {j:Nat} {u:Value} (hu:(its l)[j]? = some u):f j=some u:=by
 have hj:j<l.length*2:=by have:=lt_of_at hu;rwa [its_len] at this
 obtain ⟨z,hz⟩:∃ z,l[j / 2]? = some z:=⟨_,List.getElem?_eq_getElem (by omega)⟩
 obtain ⟨a1,a2⟩:=its_at hz
 obtain ⟨b1,b2⟩:=h _ _ hz
 have hj2:j=j / 2*2∨j=j / 2*2+1:=by omega
 rcases hj2 with e | e
 ·rw [← e] at a1 b1
  rw [b1,← a1,hu]
 ·rw [← e] at a2 b2
  rw [b2,← a2,hu]
def Row (D:Nat→Prop) (w:World) (ad:Option Addr) (cap:Nat) (zs:List It):Prop :=
 zs.length≤cap∧cap≤maxLen∧(0<cap→∃ g off cur,ad=some ⟨g,off,none⟩∧D g∧w.heap[g]? = some (.cells cur 139 (0,0))∧off+cap*2≤cur.size∧∀ i z,zs[i]? = some z→cur[off+i*2]? = some (.string z.key)∧cur[off+i*2+1]? = some (.int .u8 (z.n:Nat)))
section
variable {D D':Nat→Prop} {w w':World} {ad:Option Addr} {cap:Nat} {zs ks:List It}
theorem Row.kept (h:Row D w ad cap zs) (hk:Keeps D' w w') (hd:∀ k,D k→¬ D' k):Row D w' ad cap zs:=by
 refine ⟨h.1,h.2.1,fun hc=>?_⟩
 obtain ⟨g,off,cur,e,hD,hg,hs,hz⟩:=h.2.2 hc
 exact ⟨g,off,cur,e,hD,(hk.block g (lt_of_block hg) (hd g hD)).trans hg,hs,hz⟩
theorem Row.below (h:Row D w ad cap zs) (hb:Below w.heap.size w w'):Row D w' ad cap zs:=h.kept (D':=fun _=>False) (.of_below hb) (fun _ _ e=>e)
theorem Row.wide (h:Row D w ad cap zs) (hD:∀ k,k<w.heap.size→D k→D' k):Row D' w ad cap zs:=by
 refine ⟨h.1,h.2.1,fun hc=>?_⟩
 obtain ⟨g,off,cur,e,hg0,hg,r⟩:=h.2.2 hc
 exact ⟨g,off,cur,e,hD _ (lt_of_block hg) hg0,hg,r⟩
theorem Row.narrow (h:Row D w ad cap zs):Row (fun k=>D k∧k<w.heap.size) w ad cap zs:=h.wide (fun _ a b=>⟨b,a⟩)
theorem Row.kept2 (h:Row D w ad cap zs) (hk:Keeps D' w w') (hd:∀ k,k<w.heap.size→D k→¬ D' k):Row D w' ad cap zs :=
 (h.narrow.kept hk (fun k e=>hd k e.2 e.1)).wide (fun _ _ e=>e.1)
theorem Row.nil:Row D w none 0 []:=⟨Nat.le_refl _,Nat.zero_le _,fun h=>absurd h (Nat.lt_irrefl _)⟩
theorem Row.bare (ad:Option Addr):Row D w ad 0 []:=⟨Nat.le_refl _,Nat.zero_le _,fun h=>absurd h (Nat.lt_irrefl _)⟩
theorem Row.at (h:Row D w ad cap zs) {i:Nat} {z:It} (hz:zs[i]? = some z):∃ g off,ad=some ⟨g,off,none⟩∧D g∧g<w.heap.size∧w.cell? ⟨g,off+i*2,none⟩=some (.string z.key)∧w.cell? ⟨g,off+i*2+1,none⟩=some (.int .u8 (z.n:Nat))∧w.frozen? ⟨g,off+i*2+1,none⟩=false:=by
 obtain ⟨g,off,cur,e,hD,hg,hs,hc⟩:=h.2.2 (by have:=lt_of_at hz;have:=h.1;omega)
 exact ⟨g,off,e,hD,lt_of_block hg,by rw [cell_of_block hg];exact (hc i z hz).1,by rw [cell_of_block hg];exact (hc i z hz).2,frozen_of_block hg⟩
theorem Row.drop {g off:Nat} (h:Row D w (some ⟨g,off,none⟩) cap zs) (j:Nat):Row D w (some ⟨g,off+j*2,none⟩) (cap - j) (zs.drop j):=by
 refine ⟨by have:=h.1;simp;omega,by have:=h.2.1;omega,fun hc=>?_⟩
 obtain ⟨g',off',cur,e,hD,hg,hs,hz⟩:=h.2.2 (by omega)
 cases e
 refine ⟨g,off+j*2,cur,rfl,hD,hg,by omega,fun i z hi=>?_⟩
 rw [List.getElem?_drop] at hi
 have:=hz (j+i) z hi
 rw [show off+j*2+i*2=off+(j+i)*2 by omega]
 exact this
theorem Row.src (h:Row D w ad cap zs):Src Tryz.prog 2 123 (.slice ad zs.length cap) zs.length (its zs) w:=by
 rcases Nat.eq_zero_or_pos zs.length with h0 | h0
 ·obtain rfl:zs=[]:=List.eq_nil_of_length_eq_zero h0
  cases ad with
  | none=>exact Src.ofNil w Tryz.underlying123 cap
  | some x=>exact Src.ofSlice w Tryz.underlying123 x 0 cap [] (by simp) (by simp) (by simp)
 ·obtain ⟨g,off,cur,rfl,hD,hg,hs,hc⟩:=h.2.2 (by have:=h.1;omega)
  refine Src.ofSlice w Tryz.underlying123 _ _ _ _ (by rw [its_len]) (fun j u hu=>?_) (its_one zs)
  rw [Addr.add_lit,cell_of_block hg]
  exact its_cell (f:=fun j=>cur[off+j]?) (fun i z hi=>⟨(hc i z hi).1,by rw [← Nat.add_assoc];exact (hc i z hi).2⟩) hu
end
theorem info_cell:∃ i,Tryz.prog.info? 139=some i∧i.zero=some (.agg #[.string ByteArray.empty,.int .u8 0])∧i.size=2∧i.bytes=24:=by
 have h:(Tryz.prog.info? 139).map (fun i=>(i.zero,i.size,i.bytes))=some (some (.agg #[.string ByteArray.empty,.int .u8 0]),2,24):=by kernel_rfl
 cases hi:Tryz.prog.info? 139 with
 | none=>rw [hi] at h;cases h
 | some i=>rw [hi] at h;simp at h;exact ⟨i,rfl,h.1,h.2.1,h.2.2⟩
section
variable {D:Nat→Prop} {w:World} {ad:Option Addr} {cap:Nat} {zs ks:List It}
theorem run_append_row (ty:TypeId) (h:Row D w ad cap zs) {x:Value} (hx:Src Tryz.prog 2 123 x ks.length (its ks) w) (hn:zs.length+ks.length≤1000000) :
 ∃ ad' cap' w',(Builtin.append_ #[123,123] ty #[.slice ad zs.length cap,x]).run Tryz.prog w=.ok (.slice ad' (zs.length+ks.length) cap') w' ∧
  Row (fun g=>D g∨w.heap.size≤g) w' ad' cap' (zs++ks)∧Keeps D w w':=by
 obtain ⟨i,hi,hz,hsz,hby⟩:=info_cell
 have hx':Src Tryz.prog i.size 123 x ks.length (its ks) w:=by rw [hsz];exact hx
 have hm:(1000000:Nat)≤maxLen:=by unfold maxLen;omega
 rcases Nat.lt_or_ge cap (zs.length+ks.length) with hg | hr
 ·have hold:(Builtin.firstCells i.size zs.length (.slice ad zs.length cap)).run Tryz.prog w.drew=.ok (its zs).toArray w.drew:=by
   rcases Nat.eq_zero_or_pos cap with h0 | h0
   ·have hz0:zs=[]:=List.eq_nil_of_length_eq_zero (by have:=h.1;omega)
    subst hz0
    cases ad with
    | none=>exact run_firstCells_none w.drew _ _ _ _
    | some a=>exact run_firstCells_some w.drew _ _ a _ _ [] (by simp) (by simp)
   ·obtain ⟨g,off,cur,rfl,hD,hgb,hs,hc⟩:=h.2.2 h0
    refine run_firstCells_some w.drew _ _ _ _ _ _ (by rw [its_len,hsz]) (fun j u hu=>?_)
    rw [Addr.add_lit]
    have:w.drew.heap[g]? = some (.cells cur 139 (0,0)):=hgb
    rw [cell_of_block this]
    exact its_cell (f:=fun j=>cur[off+j]?) (fun i z hi=>⟨(hc i z hi).1,by rw [← Nat.add_assoc];exact (hc i z hi).2⟩) hu
  have hrun:=run_append_grow_src (P:=Tryz.prog) w 123 123 ty 139 i (.agg #[.string ByteArray.empty,.int .u8 0]) Tryz.underlying123 hi hz ad zs.length cap (its zs) hold x ks.length (its ks) hx' hg (by omega) (growslice_fits hg (by rw [hby];omega))
  have hge:=grownCap_ge w (zs.length+ks.length) cap 139
  have hcm:=grownCap_le_maxLen w (zs.length+ks.length) cap 139 (by omega)
  refine ⟨_,_,_,hrun,⟨by rw [List.length_append];exact hge,hcm,fun _=>⟨_,0,_,rfl,.inr (Nat.le_refl _),heap_alloc_new w.drew _,?_,fun j z hj=>?_⟩⟩,((Keeps.refl D w).drew).alloc _⟩
  ·rw [Array.size_append,List.size_toArray,size_zeroCells,List.length_append,its_len,its_len]
   simp [Value.cells]
   omega
  ·have hl:=lt_of_at hj
   obtain ⟨a1,a2⟩:=its_at hj
   have hle:j*2+1<(its zs++its ks).length:=by rw [← its_app,its_len];omega
   rw [Nat.zero_add,Array.getElem?_append_left (by rw [List.size_toArray];omega),Array.getElem?_append_left (by rw [List.size_toArray];omega),List.getElem?_toArray,List.getElem?_toArray,← its_app]
   exact ⟨a1,a2⟩
 ·rcases Nat.eq_zero_or_pos cap with h0 | h0
  ·subst h0
   have hz0:zs=[]:=List.eq_nil_of_length_eq_zero (by omega)
   have hk0:ks=[]:=List.eq_nil_of_length_eq_zero (by omega)
   subst hz0 hk0
   exact ⟨ad,0,w,run_append_nothing (P:=Tryz.prog) w 123 123 ty 139 i Tryz.underlying123 hi ad 0 0 (Nat.le_refl _) x hx',Row.bare ad,Keeps.refl D w⟩
  ·obtain ⟨g,off,cur,rfl,hD,hgb,hs,hc⟩:=h.2.2 h0
   have hrun:=run_append_room_src (P:=Tryz.prog) w 123 123 ty 139 i Tryz.underlying123 hi g off zs.length cap x ks.length (its ks) hx' hr
    (fun j hj=>by rw [hsz,cell_of_block hgb];rw [its_len] at hj;rw [Array.getElem?_eq_getElem (by omega)];rfl) (fun j _=>frozen_of_block hgb)
   rw [hsz] at hrun
   obtain ⟨cur',b1,b2,b3,b4⟩:=setCells_block (its ks) (off+zs.length*2) w cur hgb (by rw [its_len];omega)
   refine ⟨_,_,_,hrun,⟨by rw [List.length_append];exact hr,h.2.1,fun _=>⟨g,off,cur',rfl,.inl hD,b1,by rw [b2];exact hs,fun j z hj=>?_⟩⟩,setCells_keeps hD _ _ w⟩
   by_cases hjz:j<zs.length
   ·rw [b3 _ (by omega),b3 _ (by omega)]
    rw [List.getElem?_append_left hjz] at hj
    exact hc j z hj
   ·rw [List.getElem?_append_right (by omega)] at hj
    have hl:=lt_of_at hj
    obtain ⟨a1,a2⟩:=its_at hj
    have h4:=b4 ((j - zs.length)*2) (by rw [its_len];omega)
    have h5:=b4 ((j - zs.length)*2+1) (by rw [its_len];omega)
    rw [show off+zs.length*2+(j - zs.length)*2=off+j*2 by omega] at h4
    rw [show off+zs.length*2+((j - zs.length)*2+1)=off+j*2+1 by omega] at h5
    rw [h4,h5]
    exact ⟨a1,a2⟩
theorem wpList_append_row {ops:Array Oper} {rest:List Oper} {o:Oper} {a:Act} {Q:Exit→Act→World→Prop} (hgd:o.guard=none) (s x:Operand)
 (ho:o.op=.call { callee:=.builtin .append,args:=#[s,x],argTypes:=#[123,123] })
 (hs:a.eval s=.slice ad zs.length cap) (hrow:Row D w ad cap zs) {vx:Value} (hx:a.eval x=vx) (hsrc:Src Tryz.prog 2 123 vx ks.length (its ks) w) (hn:zs.length+ks.length≤1000000)
 (h:∀ ad' cap' w',Row (fun g=>D g∨w.heap.size≤g) w' ad' cap' (zs++ks)→Keeps D w w'→wpList Tryz.prog ops Q rest (a.put o.dst (.slice ad' (zs.length+ks.length) cap')) w'):wpList Tryz.prog ops Q (o::rest) a w:=by
 refine wpList_plain hgd fun K hK=>?_
 obtain ⟨ad',cap',w',hrun,h2,h3⟩:=run_append_row o.type hrow hsrc hn
 unfold Oper.wp
 simp [execOp,ho,resolve,invoke,builtin,hs,hx,hrun,Result.andThen]
 exact hK _ _ (h ad' cap' w' h2 h3)
theorem src_one (w:World) (k:ByteArray) (n:Nat):Src Tryz.prog 2 123 (.slice (some ⟨w.heap.size,0,none⟩) 1 1) 1 (its [⟨k,n⟩]) (w.alloc (.cells #[.string k,.int .u8 (n:Nat)] 139)):=by
 refine Src.ofSlice _ Tryz.underlying123 _ 1 1 _ rfl (fun j u hu=>?_) (its_one _)
 rw [Addr.add_lit,cell_of_block (heap_alloc_new w _)]
 simpa [its] using hu
end
end Go.Proofs.YtkkkkiejnmpdkaaGreatDoor.Lirs.C
namespace Go.Proofs.YtkkkkiejnmpdkaaGreatDoor.Lirs
open Go.RowKit
structure Rs where
 s:List C.It
 q:List ByteArray
 c:Nat
def eng (s:Rs) (a1:Option Addr) (c1:Nat) (a2:Option Addr) (c2:Nat):Array Value :=
 #[.slice a1 s.s.length c1,.slice a2 s.q.length c2,.int .i64 (s.c:Nat)]
structure ReIn (D:Nat→Prop) (L:Nat→Nat) (w:World) (x:Nat) (s:Rs) (a1:Option Addr) (c1:Nat) (a2:Option Addr) (c2:Nat):Prop where
 dx:D x
 lx:L x=0
 top:w.heap[x]? = some (.cells (eng s a1 c1 a2 c2) 125 (0,0))
 r1:C.Row (fun g=>D g∧L g=1) w a1 c1 s.s
 r2:Row (fun g=>D g∧L g=2) w a2 c2 s.q
def lab (L:Nat→Nat) (n i:Nat):Nat→Nat:=fun g=>if g<n then L g else i
theorem lab_old {L:Nat→Nat} {n i g:Nat} (h:g<n):lab L n i g=L g:=by simp [lab,h]
theorem lab_new {L:Nat→Nat} {n i g:Nat} (h:n≤g):lab L n i g=i:=by simp [lab,show ¬ g<n by omega]
section
variable {D D':Nat→Prop} {L:Nat→Nat} {w w':World} {x:Nat} {s:Rs} {a1 a2 a:Option Addr} {c1 c2 c:Nat} {zs:List C.It} {qs:List ByteArray}
theorem ReIn.cells (H:ReIn D L w x s a1 c1 a2 c2) :
 w.cell? ⟨x,0,none⟩=some (.slice a1 s.s.length c1)∧w.cell? ⟨x,1,none⟩=some (.slice a2 s.q.length c2)∧w.cell? ⟨x,2,none⟩=some (.int .i64 (s.c:Nat)):=by
 have h:=H.top
 refine ⟨?_,?_,?_⟩ <;> (rw [cell_of_block h];rfl)
theorem ReIn.thaw (H:ReIn D L w x s a1 c1 a2 c2) :
 w.frozen? ⟨x,0,none⟩=false∧w.frozen? ⟨x,1,none⟩=false∧w.frozen? ⟨x,2,none⟩=false :=
 ⟨frozen_of_block H.top,frozen_of_block H.top,frozen_of_block H.top⟩
theorem ReIn.kept (H:ReIn D L w x s a1 c1 a2 c2) (hk:Keeps D' w w') (hd:∀ k,D k→¬ D' k):ReIn D L w' x s a1 c1 a2 c2 :=
 ⟨H.dx,H.lx,(hk.block x (lt_of_block H.top) (hd _ H.dx)).trans H.top,H.r1.kept hk (fun k h=>hd k h.1),H.r2.kept hk (fun k h=>hd k h.1)⟩
theorem ReIn.below (H:ReIn D L w x s a1 c1 a2 c2) (hb:Below w.heap.size w w'):ReIn D L w' x s a1 c1 a2 c2:=H.kept (D':=fun _=>False) (.of_below hb) (fun _ _ e=>e)
theorem ReIn.wide (H:ReIn D L w x s a1 c1 a2 c2) (hD:∀ k,k<w.heap.size→D k→D' k):ReIn D' L w x s a1 c1 a2 c2 :=
 ⟨hD _ (lt_of_block H.top) H.dx,H.lx,H.top,H.r1.wide (fun k a h=>⟨hD k a h.1,h.2⟩),H.r2.wide (fun k a h=>⟨hD k a h.1,h.2⟩)⟩
theorem ReIn.put1 (H:ReIn D L w x s a1 c1 a2 c2) (hD:∀ k,w.heap.size≤k→D k) (hk:Keeps (fun g=>D g∧L g=1) w w') (hr:C.Row (fun g=>(D g∧L g=1)∨w.heap.size≤g) w' a c zs) :
 ReIn D (lab L w.heap.size 1) (w'.setCell ⟨x,0,none⟩ (.slice a zs.length c)) x { s with s:=zs } a c a2 c2:=by
 have hxl:=lt_of_block H.top
 have lx:lab L w.heap.size 1 x=0:=by rw [lab_old hxl];exact H.lx
 have hx:Keeps (fun k=>k=x) w' (w'.setCell ⟨x,0,none⟩ (.slice a zs.length c)):=Keeps.setCell (D:=fun k=>k=x) (Keeps.refl _ w') (p:=⟨x,0,none⟩) rfl _
 have ne:∀ i':Nat,i'≠0→∀ k,(D k∧lab L w.heap.size 1 k=i')→¬ k=x:=fun i' hi k h e=>by subst e;omega
 have top:=(hk.block x hxl (fun h=>by have:=H.lx;omega)).trans H.top
 have hr2:C.Row (fun g=>D g∧lab L w.heap.size 1 g=1) (w'.setCell ⟨x,0,none⟩ (.slice a zs.length c)) a c zs:=(hr.wide (D':=fun g=>D g∧lab L w.heap.size 1 g=1) (fun g _ h=>by
  rcases Nat.lt_or_ge g w.heap.size with hg | hg
  ·rw [lab_old hg]
   rcases h with h | h
   ·exact h
   ·omega
  ·rw [lab_new hg]
   exact ⟨hD g hg,rfl⟩)).kept hx (ne 1 (by omega))
 exact ⟨H.dx,lx,by rw [block_setCell top];rfl,hr2,(((H.r2.wide (D':=fun g=>D g∧lab L w.heap.size 1 g=2) (fun g hg h=>⟨h.1,by rw [lab_old hg];exact h.2⟩)).kept2 hk (fun g hg h e=>by have:=e.2;rw [lab_old hg] at h;omega)).kept hx (ne 2 (by omega)))⟩
theorem ReIn.put2 (H:ReIn D L w x s a1 c1 a2 c2) (hD:∀ k,w.heap.size≤k→D k) (hk:Keeps (fun g=>D g∧L g=2) w w') (hr:Row (fun g=>(D g∧L g=2)∨w.heap.size≤g) w' a c qs) :
 ReIn D (lab L w.heap.size 2) (w'.setCell ⟨x,1,none⟩ (.slice a qs.length c)) x { s with q:=qs } a1 c1 a c:=by
 have hxl:=lt_of_block H.top
 have lx:lab L w.heap.size 2 x=0:=by rw [lab_old hxl];exact H.lx
 have hx:Keeps (fun k=>k=x) w' (w'.setCell ⟨x,1,none⟩ (.slice a qs.length c)):=Keeps.setCell (D:=fun k=>k=x) (Keeps.refl _ w') (p:=⟨x,1,none⟩) rfl _
 have ne:∀ i':Nat,i'≠0→∀ k,(D k∧lab L w.heap.size 2 k=i')→¬ k=x:=fun i' hi k h e=>by subst e;omega
 have top:=(hk.block x hxl (fun h=>by have:=H.lx;omega)).trans H.top
 have hr2:Row (fun g=>D g∧lab L w.heap.size 2 g=2) (w'.setCell ⟨x,1,none⟩ (.slice a qs.length c)) a c qs:=(hr.wide (D':=fun g=>D g∧lab L w.heap.size 2 g=2) (fun g _ h=>by
  rcases Nat.lt_or_ge g w.heap.size with hg | hg
  ·rw [lab_old hg]
   rcases h with h | h
   ·exact h
   ·omega
  ·rw [lab_new hg]
   exact ⟨hD g hg,rfl⟩)).kept hx (ne 2 (by omega))
 exact ⟨H.dx,lx,by rw [block_setCell top];rfl,(((H.r1.wide (D':=fun g=>D g∧lab L w.heap.size 2 g=1) (fun g hg h=>⟨h.1,by rw [lab_old hg];exact h.2⟩)).kept2 hk (fun g hg h e=>by have:=e.2;rw [lab_old hg] at h;omega)).kept hx (ne 1 (by omega))),hr2⟩
theorem ReIn.still (H:ReIn D L w x s a1 c1 a2 c2) {i:Nat} (hi:i≠0) (hk:Keeps (fun g=>D g∧L g=i) w w') :
 (w'.cell? ⟨x,0,none⟩=some (.slice a1 s.s.length c1)∧w'.cell? ⟨x,1,none⟩=some (.slice a2 s.q.length c2)∧w'.cell? ⟨x,2,none⟩=some (.int .i64 (s.c:Nat))) ∧
 w'.frozen? ⟨x,0,none⟩=false∧w'.frozen? ⟨x,1,none⟩=false∧w'.frozen? ⟨x,2,none⟩=false:=by
 have h:=(hk.block x (lt_of_block H.top) (fun e=>by have:=H.lx;omega)).trans H.top
 refine ⟨⟨?_,?_,?_⟩,frozen_of_block h,frozen_of_block h,frozen_of_block h⟩ <;> (rw [cell_of_block h];rfl)
end
def RM (x:Nat) (s:Rs) (D:Nat→Prop) (w:World):Prop:=∃ L a1 c1 a2 c2,ReIn D L w x s a1 c1 a2 c2
structure Sm (s:Rs):Prop where
 l1:s.s.length≤5000
 l2:s.q.length≤5000
 hc:s.c≤1024
section
variable {D D':Nat→Prop} {w w':World} {x:Nat} {s:Rs} {zs:List C.It} {qs:List ByteArray} {a:Option Addr} {c:Nat}
theorem RM.below (H:RM x s D w) (hb:Below w.heap.size w w'):RM x s D w':=by
 obtain ⟨L,a1,c1,a2,c2,h⟩:=H;exact ⟨L,a1,c1,a2,c2,h.below hb⟩
theorem RM.kept (H:RM x s D w) (hk:Keeps D' w w') (hd:∀ k,D k→¬ D' k):RM x s D w':=by
 obtain ⟨L,a1,c1,a2,c2,h⟩:=H;exact ⟨L,a1,c1,a2,c2,h.kept hk hd⟩
theorem RM.wide (H:RM x s D w) (hD:∀ k,k<w.heap.size→D k→D' k):RM x s D' w:=by
 obtain ⟨L,a1,c1,a2,c2,h⟩:=H;exact ⟨L,a1,c1,a2,c2,h.wide hD⟩
theorem RM.new1 (H:RM x s D w) (hD:∀ k,w.heap.size≤k→D k) (hb:Below w.heap.size w w') (hr:C.Row (w.heap.size≤·) w' a c zs) :
 RM x { s with s:=zs } D (w'.setCell ⟨x,0,none⟩ (.slice a zs.length c))∧Keeps D w (w'.setCell ⟨x,0,none⟩ (.slice a zs.length c)):=by
 obtain ⟨L,a1,c1,a2,c2,h⟩:=H
 exact ⟨⟨_,_,_,_,_,h.put1 hD (.of_below hb) (hr.wide (fun _ _ h=>.inr h))⟩,(Keeps.of_below hb).setCell (p:=⟨x,0,none⟩) h.dx _⟩
end
end Go.Proofs.YtkkkkiejnmpdkaaGreatDoor.Lirs
namespace Go.Proofs.YtkkkkiejnmpdkaaGreatDoor.Lirs
open Go.RowKit
theorem bytes_beq (x y:ByteArray):(x.toList==y.toList)=decide (x=y):=by
 by_cases h:x=y
 ·subst h;simp
 ·have:¬ x.toList=y.toList:=by
   intro e
   rw [ByteArray.toList_eq,ByteArray.toList_eq] at e
   apply h
   cases x
   cases y
   congr
   exact Array.toList_inj.1 e
  simp [h,this]
namespace C
def cnt (n:Nat) (l:List It):Nat:=l.countP (fun z=>decide (z.n=n))
theorem cnt_le (n:Nat) (l:List It):cnt n l≤l.length:=List.countP_le_length
theorem cnt_yes {n:Nat} {l:List It} {j:Nat} {z:It} (h:l[j]? = some z) (hz:z.n=n):cnt n (l.take (j+1))=cnt n (l.take j)+1:=by
 rw [List.take_add_one,h]
 simp [cnt,List.countP_append,hz]
theorem cnt_no {n:Nat} {l:List It} {j:Nat} {z:It} (h:l[j]? = some z) (hz:z.n≠n):cnt n (l.take (j+1))=cnt n (l.take j):=by
 rw [List.take_add_one,h]
 simp [cnt,List.countP_append,hz]
theorem cnt_take (n:Nat) (l:List It) (j:Nat):cnt n (l.take j)≤l.length:=by
 have h1:=cnt_le n (l.take j)
 simp at h1
 omega
def idx (l:List It) (k:ByteArray):Int:=match l.findIdx? (fun z=>decide (z.key=k)) with
 | some i=>(i:Nat)
 | none=>-1
theorem idx_yes {l:List It} {k:ByteArray} {i:Nat} {z:It} (h:l[i]? = some z) (hz:z.key=k) (hn:∀ (j:Nat) (y:It),j<i→l[j]? = some y→y.key≠k):idx l k=(i:Nat):=by
 have hi:=lt_of_at h
 have:l.findIdx? (fun z=>decide (z.key=k))=some i:=by
  rw [List.findIdx?_eq_some_iff_getElem]
  refine ⟨hi,?_,?_⟩
  ·rw [List.getElem?_eq_getElem hi] at h
   cases h
   simpa using hz
  ·intro j hj
   have:=hn j _ hj (List.getElem?_eq_getElem (by omega))
   simpa using this
 unfold idx
 rw [this]
theorem idx_no {l:List It} {k:ByteArray} (h:∀ (j:Nat) (y:It),l[j]? = some y→y.key≠k):idx l k = -1:=by
 have:l.findIdx? (fun z=>decide (z.key=k))=none:=by
  rw [List.findIdx?_eq_none_iff]
  intro z hz
  obtain ⟨j,hj,e⟩:=List.getElem_of_mem hz
  have:=h j z (by rw [List.getElem?_eq_getElem hj,e])
  simpa using this
 unfold idx
 rw [this]
def isOf (l:List It) (k:ByteArray):Nat:=match l.find? (fun z=>decide (z.key=k)) with
 | some z=>z.n
 | none=>0
theorem idx_case (l:List It) (k:ByteArray):(idx l k = -1∧l.find? (fun z=>decide (z.key=k))=none)∨∃ (i:Nat) (z:It),idx l k=(i:Nat)∧l[i]? = some z∧z.key=k∧l.find? (fun z=>decide (z.key=k))=some z:=by
 cases hf:l.find? (fun z=>decide (z.key=k)) with
 | none =>
   refine .inl ⟨idx_no (fun j y hy=>?_),rfl⟩
   have:=List.find?_eq_none.1 hf y (List.mem_of_getElem? hy)
   simpa using this
 | some z =>
   obtain ⟨h1,ys,bs,h2,h3⟩:=List.find?_eq_some_iff_append.1 hf
   have hz:z.key=k:=by simpa using h1
   have ha:l[ys.length]? = some z:=by rw [h2];simp
   refine .inr ⟨ys.length,z,idx_yes ha hz (fun j y hj hy=>?_),ha,hz,rfl⟩
   rw [h2,List.getElem?_append_left hj] at hy
   have:=h3 y (List.mem_of_getElem? hy)
   simpa using this
end C
def inn (k:ByteArray) (zs:List ByteArray):Bool:=zs.any (fun z=>decide (z=k))
theorem inn_iff {zs:List ByteArray} {k:ByteArray}:inn k zs=true↔k∈zs:=by
 unfold inn
 simp
theorem inn_yes {zs:List ByteArray} {k:ByteArray} (h:k∈zs):inn k zs=true:=inn_iff.2 h
theorem inn_no {zs:List ByteArray} {k:ByteArray} (h:k∉zs):inn k zs=false:=by
 cases hv:inn k zs with
 | false=>rfl
 | true=>exact absurd (inn_iff.1 hv) h
section
variable {D D':Nat→Prop} {w w':World} {x:Nat} {s:Rs}
def mostR (s:Rs):Nat:=s.c - max 1 (s.c / 10)
theorem rmost_any (H:RM x s D w) (hc:s.c≤1024) (h1:1≤s.c):Calls Tryz.prog 111 #[.pointer (some ⟨x,0,none⟩)] w fun e w'=>e=.returned (.int .i64 (mostR s:Nat))∧∃ q,w'=w.drewN q:=by
 obtain ⟨L,a1,c1,a2,c2,H⟩:=H
 obtain ⟨d0,d1,d2⟩:=H.cells
 have HE:Hid (mostR s=s.c - max 1 (s.c / 10)):=rfl
 clear H
 generalize s.c=c at *
 go_enter Tryz.func111,Tryz.ntmps111
 go_wp2_with fail
 go_quiet (fail)
 all_goals go_wp2_with fail
 all_goals
  go_ret
  exact ⟨ret_int (by rw [HE.out];omega),_,rfl⟩
set_option maxHeartbeats 1000000 in
theorem rcount_any (H:RM x s D w) (hs:s.s.length≤5000) (n:Nat) :
 Calls Tryz.prog 110 #[.pointer (some ⟨x,0,none⟩),.int .u8 (n:Nat)] w fun e w'=>e=.returned (.int .i64 (C.cnt n s.s:Nat))∧w'=w:=by
 obtain ⟨L,a1,c1,a2,c2,H⟩:=H
 obtain ⟨d0,d1,d2⟩:=H.cells
 have HR:Hid (C.Row (fun g=>D g∧L g=1) w a1 c1 s.s):=H.r1
 clear H
 generalize s.s=l at *
 go_enter Tryz.func110,Tryz.ntmps110
 go_wp2_with fail
 go_loop [5,6] (fun v i=>∃ j:Nat,j≤l.length∧i=.int .i64 j∧v=.int .i64 (C.cnt n (l.take j):Nat)) (fun _ i=>l.length - (intOf i).toNat)
 case atStart=>exact ⟨0,Nat.zero_le _,rfl,rfl⟩
 case round =>
  obtain ⟨j,hj,rfl,rfl⟩:=hrel
  have hct:=C.cnt_take n l j
  rcases Nat.lt_or_ge j l.length with hlt | hge
  ·obtain ⟨z,hz⟩:∃ z,l[j]? = some z:=⟨_,List.getElem?_eq_getElem hlt⟩
   obtain ⟨g,off,rfl,-,-,k0,k1,-⟩:=HR.out.at hz
   have HZ:Hid (l[j]? = some z):=hz
   clear hz
   by_cases he:z.n=n
   ·have HF:Hid (C.cnt n (l.take (j+1))=C.cnt n (l.take j)+1):=C.cnt_yes HZ.out he
    have hE:((z.n:Int)==(n:Int))=true:=by simp;omega
    clear he
    generalize C.cnt n (l.take j)=m at *
    go_wp2_with fail
    go_roundw
    case rel=>exact ⟨j+1,hlt,by go_num,by rw [HF.out];go_num⟩
    case measure=>simp [intOf];omega
   ·have HF:Hid (C.cnt n (l.take (j+1))=C.cnt n (l.take j)):=C.cnt_no HZ.out he
    have hE:((z.n:Int)==(n:Int))=false:=by simp;omega
    clear he
    generalize C.cnt n (l.take j)=m at *
    go_wp2_with fail
    go_roundw
    case rel=>exact ⟨j+1,hlt,by go_num,by rw [HF.out]⟩
    case measure=>simp [intOf];omega
  ·have hj':j=l.length:=by omega
   subst hj'
   rw [List.take_length] at *
   go_wp2_with fail
   go_ret
   exact ⟨rfl,rfl⟩
set_option maxHeartbeats 1000000 in
theorem mlen_any (H:RM x s D w) (hs:Sm s):Calls Tryz.prog 105 #[.pointer (some ⟨x,0,none⟩)] w fun e w'=>e=.returned (.int .i64 ((s.q.length+C.cnt 104 s.s:Nat):Nat))∧∃ q,w'=w.drewN q:=by
 have hc:=fun q=>rcount_any (H.below (below_drewN (Below.refl _ w) q)) hs.l1 104
 have hct:=C.cnt_le 104 s.s
 obtain ⟨L,a1,c1,a2,c2,H⟩:=H
 obtain ⟨d0,d1,d2⟩:=H.cells
 have h1:=hs.l1
 have h2:=hs.l2
 generalize C.cnt 104 s.s=n at *
 generalize s.q.length=m at *
 clear H hs
 go_enter Tryz.func105,Tryz.ntmps105
 go_wp2_with fail
 go_quiet (first | (go_at_call 110;refine Calls.quiet_of_same (hc _)))
 go_wp2_with fail
 go_ret
 exact ⟨ret_int (by omega),_,rfl⟩
set_option maxHeartbeats 1000000 in
theorem rat_any (H:RM x s D w) (hs:s.s.length≤5000) (k:ByteArray) :
 Calls Tryz.prog 134 #[.pointer (some ⟨x,0,none⟩),.string k] w fun e w'=>e=.returned (.int .i64 (C.idx s.s k))∧w'=w:=by
 obtain ⟨L,a1,c1,a2,c2,H⟩:=H
 obtain ⟨d0,d1,d2⟩:=H.cells
 have HR:Hid (C.Row (fun g=>D g∧L g=1) w a1 c1 s.s):=H.r1
 clear H
 generalize s.s=l at *
 go_enter Tryz.func134,Tryz.ntmps134
 go_wp2_with fail
 go_loop [5] (fun i=>∃ j:Nat,j≤l.length∧i=.int .i64 j∧Hid (∀ (m:Nat) (y:C.It),m<j→l[m]? = some y→y.key≠k)) (fun i=>l.length - (intOf i).toNat)
 case atStart=>exact ⟨0,Nat.zero_le _,rfl,fun m y hm=>by omega⟩
 case round =>
  obtain ⟨j,hj,rfl,hno⟩:=hrel
  rcases Nat.lt_or_ge j l.length with hlt | hge
  ·obtain ⟨z,hz⟩:∃ z,l[j]? = some z:=⟨_,List.getElem?_eq_getElem hlt⟩
   obtain ⟨g,off,rfl,-,-,k0,k1,-⟩:=HR.out.at hz
   have HZ:Hid (l[j]? = some z):=hz
   clear hz
   by_cases he:z.key=k
   ·have hE:(z.key.toList==k.toList)=true:=by rw [bytes_beq,decide_eq_true he]
    have HE:Hid (z.key=k):=he
    clear he
    go_wp2_with fail
    go_ret
    exact ⟨ret_int (C.idx_yes HZ.out HE.out hno.out).symm,rfl⟩
   ·have hE:(z.key.toList==k.toList)=false:=by rw [bytes_beq,decide_eq_false he]
    have HE:Hid (¬ z.key=k):=he
    clear he
    go_wp2_with fail
    go_roundw
    case rel =>
     refine ⟨j+1,hlt,by go_num,fun m y hm hy=>?_⟩
     rcases Nat.lt_or_ge m j with h | h
     ·exact hno.out m y h hy
     ·rw [show m=j by omega,HZ.out] at hy
      cases hy
      exact HE.out
    case measure=>simp [intOf];omega
  ·have hj':j=l.length:=by omega
   subst hj'
   go_wp2_with fail
   go_ret
   exact ⟨ret_int (C.idx_no (fun m y hy=>hno.out m y (lt_of_at hy) hy)).symm,rfl⟩
theorem ris_any (H:RM x s D w) (hs:s.s.length≤5000) (k:ByteArray) :
 Calls Tryz.prog 106 #[.pointer (some ⟨x,0,none⟩),.string k] w fun e w'=>e=.returned (.int .u8 (C.isOf s.s k:Nat))∧w'=w:=by
 have hat:=rat_any H hs k
 obtain ⟨L,a1,c1,a2,c2,H⟩:=H
 obtain ⟨d0,d1,d2⟩:=H.cells
 have HR:Hid (C.Row (fun g=>D g∧L g=1) w a1 c1 s.s):=H.r1
 clear H
 rcases C.idx_case s.s k with ⟨h1,h2⟩ | ⟨i,z,h1,h2,h3,h4⟩
 ·have HI:Hid (C.isOf s.s k=0):=by show C.isOf s.s k=0;unfold C.isOf;rw [h2]
  rw [h1] at hat
  clear h1 h2
  go_enter Tryz.func106,Tryz.ntmps106
  go_wp2_with (go_at_call 134;refine Calls.mono hat ?_;clear hat;rintro e w1 ⟨rfl,rfl⟩)
  go_ret
  exact ⟨by rw [HI.out];rfl,rfl⟩
 ·have HI:Hid (C.isOf s.s k=z.n):=by show C.isOf s.s k=z.n;unfold C.isOf;rw [h4]
  have hlt:=lt_of_at h2
  obtain ⟨g,off,rfl,-,-,k0,k1,-⟩:=HR.out.at h2
  rw [h1] at hat
  clear h1 h2 h3 h4
  go_enter Tryz.func106,Tryz.ntmps106
  go_wp2_with (go_at_call 134;refine Calls.mono hat ?_;clear hat;rintro e w1 ⟨rfl,rfl⟩)
  go_ret
  exact ⟨by rw [HI.out];rfl,rfl⟩
set_option maxHeartbeats 1000000 in
theorem rinQ_any (H:RM x s D w) (hs:s.q.length≤5000) (k:ByteArray) :
 Calls Tryz.prog 138 #[.pointer (some ⟨x,0,none⟩),.string k] w fun e w'=>e=.returned (.bool (inn k s.q))∧w'=w:=by
 obtain ⟨L,a1,c1,a2,c2,H⟩:=H
 obtain ⟨d0,d1,d2⟩:=H.cells
 have HR:Hid (Row (fun g=>D g∧L g=2) w a2 c2 s.q):=H.r2
 clear H
 generalize s.q=l at *
 go_enter Tryz.func138,Tryz.ntmps138
 go_wp2_with fail
 go_loop [5] (fun i=>∃ j:Nat,j≤l.length∧i=.int .i64 j∧k∉l.take j) (fun i=>l.length - (intOf i).toNat)
 case atStart=>exact ⟨0,Nat.zero_le _,rfl,by simp⟩
 case round =>
  obtain ⟨j,hj,rfl,hL⟩:=hrel
  have HL:Hid (k∉l.take j):=hL
  clear hL
  rcases Nat.lt_or_ge j l.length with hlt | hge
  ·obtain ⟨z,hz⟩:∃ z,l[j]? = some z:=⟨_,List.getElem?_eq_getElem hlt⟩
   obtain ⟨g,off,rfl,-,c0,-⟩:=HR.out.at hz
   have HZ:Hid (l[j]? = some z):=hz
   clear hz
   by_cases he:z=k
   ·have hE:(z.toList==k.toList)=true:=by rw [bytes_beq,decide_eq_true he]
    have HM:Hid (k∈l):=by show k∈l;rw [← he];exact List.mem_of_getElem? HZ.out
    clear he
    go_wp2_with fail
    go_ret
    exact ⟨by rw [inn_yes HM.out];rfl,rfl⟩
   ·have hE:(z.toList==k.toList)=false:=by rw [bytes_beq,decide_eq_false he]
    have HN:Hid (¬ z=k):=he
    clear he
    go_wp2_with fail
    go_roundw
    case rel =>
     refine ⟨j+1,hlt,by go_num,?_⟩
     rw [List.take_add_one,HZ.out]
     simp
     exact ⟨HL.out,fun e=>HN.out e.symm⟩
    case measure=>simp [intOf];omega
  ·have HN:Hid (k∉l):=by
    have h:=HL.out
    rw [List.take_of_length_le hge] at h
    exact h
   go_wp2_with fail
   go_ret
   exact ⟨by rw [inn_no HN.out];rfl,rfl⟩
def hasR (s:Rs) (k:ByteArray):Bool:=decide (C.isOf s.s k=104) || inn k s.q
theorem rhas_any (H:RM x s D w) (hs:Sm s) (k:ByteArray) :
 Calls Tryz.prog 89 #[.pointer (some ⟨x,0,none⟩),.string k] w fun e w'=>e=.returned (.bool (hasR s k))∧w'=w:=by
 have his:=ris_any H hs.l1 k
 have hin:=rinQ_any H hs.l2 k
 unfold hasR
 generalize C.isOf s.s k=n at *
 generalize inn k s.q=r at *
 clear H hs
 by_cases h:n=104
 ·subst h
  go_enter Tryz.func89,Tryz.ntmps89
  go_wp2_with (go_at_call 106;refine Calls.mono his ?_;clear his;rintro e w1 ⟨rfl,rfl⟩)
  go_ret
  exact ⟨by simp,rfl⟩
 ·have hE:((n:Int)==104)=false:=by simp;omega
  have HD:Hid (decide (n=104)=false):=decide_eq_false h
  clear h
  go_enter Tryz.func89,Tryz.ntmps89
  go_wp2_with (first
   | (go_at_call 106;refine Calls.mono his ?_;clear his;rintro e w1 ⟨rfl,rfl⟩)
   | (go_at_call 138;refine Calls.mono hin ?_;clear hin;rintro e w1 ⟨rfl,rfl⟩))
  go_ret
  exact ⟨by rw [HD.out];simp,rfl⟩
end
end Go.Proofs.YtkkkkiejnmpdkaaGreatDoor.Lirs
namespace Go.Proofs.YtkkkkiejnmpdkaaGreatDoor.Lirs
open Go.RowKit
namespace C
def out (l:List It) (k:ByteArray):List It:=l.filter (fun z=>decide (z.key≠k))
theorem out_le (l:List It) (k:ByteArray):(out l k).length≤l.length:=List.length_filter_le _ _
theorem out_yes {l:List It} {k:ByteArray} {j:Nat} {z:It} (h:l[j]? = some z) (hz:z.key≠k):out (l.take (j+1)) k=out (l.take j) k++[z]:=by
 rw [List.take_add_one,h]
 simp [out,hz]
theorem out_no {l:List It} {k:ByteArray} {j:Nat} {z:It} (h:l[j]? = some z) (hz:z.key=k):out (l.take (j+1)) k=out (l.take j) k:=by
 rw [List.take_add_one,h]
 simp [out,hz]
theorem out_take (l:List It) (k:ByteArray) (j:Nat):(out (l.take j) k).length≤l.length:=by
 have h1:=out_le (l.take j) k
 simp at h1
 omega
def top (l:List It) (k:ByteArray) (n:Nat):List It:=out l k++[⟨k,n⟩]
def pr (l:List It):List It:=l.dropWhile (fun z=>decide (z.n≠104))
theorem pr_stop {z:It} {r:List It} (h:z.n=104):pr (z::r)=z::r:=by simp [pr,h]
theorem pr_step {z:It} {r:List It} (h:z.n≠104):pr (z::r)=pr r:=by simp [pr,h]
theorem Row.old {B:Nat} {w w':World} {ad:Option Addr} {cap:Nat} {zs:List It} (h:Row (fun g=>B≤g∨w.heap.size≤g) w' ad cap zs) (hB:B≤w.heap.size):Row (B≤·) w' ad cap zs:=h.wide (fun g _ h=>by
 show B≤g
 rcases h with h | h
 ·exact h
 ·omega)
end C
theorem rrow_old {B:Nat} {w w':World} {ad:Option Addr} {cap:Nat} {zs:List ByteArray} (h:Row (fun g=>B≤g∨w.heap.size≤g) w' ad cap zs) (hB:B≤w.heap.size):Row (B≤·) w' ad cap zs:=h.wide (fun g _ h=>by
 show B≤g
 rcases h with h | h
 ·exact h
 ·omega)
section
variable {D D':Nat→Prop} {w w':World} {x:Nat} {s:Rs}
set_option maxHeartbeats 2000000 in
theorem rout_any (H:RM x s D w) (hs:s.s.length≤5000) (hD:∀ k,w.heap.size≤k→D k) (k:ByteArray) :
 Calls Tryz.prog 130 #[.pointer (some ⟨x,0,none⟩),.string k] w fun e w'=>e=.returned (.tuple #[])∧RM x { s with s:=C.out s.s k } D w'∧Keeps D w w':=by
 have HP:Hid (∀ (W:World) (a4:Option Addr) (c4:Nat),Below w.heap.size w W→C.Row (w.heap.size≤·) W a4 c4 (C.out s.s k)→RM x { s with s:=C.out s.s k } D (W.setCell ⟨x,0,none⟩ (.slice a4 (C.out s.s k).length c4))∧Keeps D w (W.setCell ⟨x,0,none⟩ (.slice a4 (C.out s.s k).length c4))):=fun W a4 c4 hb hr=>H.new1 hD hb hr
 obtain ⟨L,a1,c1,a2,c2,H⟩:=H
 have HC:Hid (∀ W:World,Below w.heap.size w W→W.cell? ⟨x,0,none⟩=some (.slice a1 s.s.length c1)∧W.frozen? ⟨x,0,none⟩=false):=fun W hW=>⟨(H.below hW).cells.1,(H.below hW).thaw.1⟩
 have HR:Hid (C.Row (fun g=>D g∧L g=1) w a1 c1 s.s):=H.r1
 clear H hD
 generalize hl:s.s=l at *
 clear hl
 go_enter Tryz.func130,Tryz.ntmps130
 go_wp2_with fail
 go_loopw [4,5] (fun v i wr=>∃ (j:Nat) (a4:Option Addr) (c4:Nat),j≤l.length∧i=.int .i64 j∧v=.slice a4 (C.out (l.take j) k).length c4∧C.Row (w.heap.size≤·) wr a4 c4 (C.out (l.take j) k)∧Below w.heap.size w wr) (fun _ i _=>l.length - (intOf i).toNat)
 case atStart=>exact ⟨0,none,0,Nat.zero_le _,rfl,rfl,C.Row.nil,Below.refl _ _⟩
 case round =>
  obtain ⟨j,a4,c4,hj,rfl,rfl,hrow,hb⟩:=hrel
  have hsz:=hb.size
  have hcl:=C.out_take l k j
  obtain ⟨d0,t0⟩:=HC.out wr hb
  have HRow:Hid (C.Row (w.heap.size≤·) wr a4 c4 (C.out (l.take j) k)):=hrow
  clear hrow
  rcases Nat.lt_or_ge j l.length with hlt | hge
  ·obtain ⟨z,hz⟩:∃ z,l[j]? = some z:=⟨_,List.getElem?_eq_getElem hlt⟩
   obtain ⟨g,off,rfl,-,-,k0,k1,-⟩:=(HR.out.below hb).at hz
   have HZ:Hid (l[j]? = some z):=hz
   clear hz
   by_cases he:z.key=k
   ·have hE:(z.key.toList==k.toList)=true:=by rw [bytes_beq,decide_eq_true he]
    have HF:Hid (C.out (l.take (j+1)) k=C.out (l.take j) k):=C.out_no HZ.out he
    clear he
    generalize C.out (l.take j) k=m at *
    go_wp2_with fail
    go_roundw
    case rel=>exact ⟨j+1,a4,c4,hlt,by go_num,by rw [HF.out],by rw [HF.out];exact HRow.out,hb⟩
    case measure=>simp [intOf];omega
   ·have hE:(z.key.toList==k.toList)=false:=by rw [bytes_beq,decide_eq_false he]
    have HF:Hid (C.out (l.take (j+1)) k=C.out (l.take j) k++[z]):=C.out_yes HZ.out he
    clear he
    generalize C.out (l.take j) k=m at *
    go_wp2_with (at_builtin;go_must (refine C.wpList_append_row (ks:=[z]) rfl _ _ rfl rfl (HRow.out.below ((Below.refl _ wr).alloc (Nat.le_refl _) _)) rfl (C.src_one _ z.key z.n) (by simp;omega) ?_);intro a5 n5 w5 hr5 hk5;have hb5:Below w.heap.size w w5:=(hb.alloc hsz _).trans (hk5.below (by simp;omega) (fun _ h=>h));have hr5':C.Row (w.heap.size≤·) w5 a5 n5 (m++[z]):=hr5.old (by simp;omega);clear hr5 hk5)
    go_roundw
    case rel=>exact ⟨j+1,a5,n5,hlt,by go_num,by rw [HF.out];simp,by rw [HF.out];exact hr5',hb5⟩
    case measure=>simp [intOf];omega
  ·have hj':j=l.length:=by omega
   subst hj'
   rw [List.take_length] at *
   have HPP:=HP.out wr a4 c4 hb HRow.out
   have HPo:Hid _:=HPP
   clear HPP
   generalize (C.out l k).length=m at *
   go_wp2_with fail
   exact ⟨rfl,.tuple #[],results_none rfl _ _ _,rfl,HPo.out.1,HPo.out.2⟩
set_option maxHeartbeats 1000000 in
theorem rtop_any (H:RM x s D w) (hs:s.s.length≤5000) (hD:∀ k,w.heap.size≤k→D k) (k:ByteArray) (n:Nat) :
 Calls Tryz.prog 107 #[.pointer (some ⟨x,0,none⟩),.string k,.int .u8 (n:Nat)] w fun e w'=>e=.returned (.tuple #[])∧RM x { s with s:=C.top s.s k n } D w'∧Keeps D w w':=by
 have ho:=rout_any H hs hD k
 have hol:=C.out_le s.s k
 have HD:Hid (∀ k,w.heap.size≤k→D k):=hD
 have HT:Hid (C.top s.s k n=C.out s.s k++[⟨k,n⟩]):=rfl
 clear hD
 go_enter Tryz.func107,Tryz.ntmps107
 go_wp2_with (first
  | (go_at_call 130;refine Calls.mono ho ?_;clear ho;rintro e w1 ⟨rfl,⟨M,b1,n1,b2,n2,hM⟩,hk1⟩;obtain ⟨u0,u1,u2⟩:=hM.cells;have HM:Hid (ReIn D M w1 x { s with s:=C.out s.s k } b1 n1 b2 n2):=hM;have HK1:Hid (Keeps D w w1):=hk1;clear hM hk1;replace u0:w1.cell? ⟨x,0,none⟩=some (.slice b1 (C.out s.s k).length n1):=u0)
  | (at_builtin;go_must (refine C.wpList_append_row (zs:=C.out s.s k) (ks:=[⟨k,n⟩]) rfl _ _ rfl rfl (HM.out.r1.below ((Below.refl _ _).alloc (Nat.le_refl _) _)) rfl (C.src_one _ k n) (by simp;omega) ?_);intro a7 n7 w7 hr7 hk7;obtain ⟨⟨x0,x1,x2⟩,y0,y1,y2⟩:=(HM.out.below ((Below.refl _ _).alloc (Nat.le_refl _) _)).still (by omega) hk7;have H7:Hid (RM x { s with s:=C.top s.s k n } D (w7.setCell ⟨x,0,none⟩ (.slice a7 ((C.out s.s k).length+1) n7))):=(by have h7:=((HM.out.below ((Below.refl _ _).alloc (Nat.le_refl _) _)).put1 (fun k h=>HD.out k (Nat.le_trans HK1.out.size (Nat.le_trans (by simp) h))) hk7 hr7);rw [List.length_append,List.length_cons,List.length_nil] at h7;rw [HT.out];exact ⟨_,_,_,_,_,h7⟩);have HK7:Hid (Keeps D w (w7.setCell ⟨x,0,none⟩ (.slice a7 ((C.out s.s k).length+1) n7))):=(((HK1.out.alloc _).trans (hk7.mono (fun _ _ h=>h.1))).setCell (p:=⟨x,0,none⟩) HM.out.dx _);clear hr7 hk7))
 exact ⟨rfl,.tuple #[],results_none rfl _ _ _,rfl,H7.out,HK7.out⟩
end
end Go.Proofs.YtkkkkiejnmpdkaaGreatDoor.Lirs
namespace Go.Proofs.YtkkkkiejnmpdkaaGreatDoor.Lirs
open Go.RowKit
section
variable {D D':Nat→Prop} {w w':World} {x:Nat} {s:Rs}
theorem tail_src {D:Nat→Prop} {w:World} {g off cap:Nat} {z:C.It} {r:List C.It} (h:C.Row D w (some ⟨g,off,none⟩) cap (z::r)):Src Tryz.prog 2 123 (.slice (if cap=1 then some ⟨g,off,none⟩ else some ⟨g,off+2,none⟩) r.length (cap - 1)) r.length (C.its r) w:=by
 have hc:=h.1
 rw [List.length_cons] at hc
 by_cases h1:cap=1
 ·rw [if_pos h1]
  have e:r=[]:=List.eq_nil_of_length_eq_zero (by omega)
  subst e h1
  exact (C.Row.bare (D:=D) (w:=w) (some ⟨g,off,none⟩)).src
 ·rw [if_neg h1]
  have:=(h.drop 1).src
  simpa using this
set_option maxHeartbeats 4000000 in
theorem rprune_any (H:RM x s D w) (hs:s.s.length≤5000) (hD:∀ k,w.heap.size≤k→D k) :
 Calls Tryz.prog 113 #[.pointer (some ⟨x,0,none⟩)] w fun e w'=>e=.returned (.tuple #[])∧RM x { s with s:=C.pr s.s } D w'∧Keeps D w w':=by
 have HD:Hid (∀ k,w.heap.size≤k→D k):=hD
 have HH:Hid (RM x s D w):=H
 clear H hD
 go_enter Tryz.func113,Tryz.ntmps113
 go_wp2_with fail
 go_loopg [] s.s.length (fun n wr=>∃ l:List C.It,n=l.length∧l.length≤5000∧C.pr s.s=C.pr l∧RM x { s with s:=l } D wr∧Keeps D w wr)
 case atStart=>exact ⟨s.s,rfl,hs,rfl,HH.out,Keeps.refl _ _⟩
 case round =>
  obtain ⟨l,rfl,hll,hpr,hA,hK⟩:=hrel
  have HP:Hid (C.pr s.s=C.pr l):=hpr
  have HA:Hid (RM x { s with s:=l } D wr):=hA
  have HK:Hid (Keeps D w wr):=hK
  obtain ⟨L,a1,c1,a2,c2,hI⟩:=hA
  obtain ⟨d0,d1,d2⟩:=hI.cells
  obtain ⟨t0,t1,t2⟩:=hI.thaw
  dsimp only at d0 d1 d2
  have HI:Hid (ReIn D L wr x { s with s:=l } a1 c1 a2 c2):=hI
  clear hpr hK hI
  cases l with
  | nil =>
    have HE:Hid (C.pr s.s=[]):=HP.out
    rw [List.length_nil] at d0
    go_wp2_with fail
    exact ⟨rfl,.tuple #[],results_none rfl _ _ _,rfl,by rw [HE.out];exact HA.out,HK.out⟩
  | cons z r =>
    have hr1:C.Row (fun g=>D g∧L g=1) wr a1 c1 (z::r):=HI.out.r1
    obtain ⟨g,off,rfl,-,-,k0,k1,-⟩:=hr1.at (i:=0) (z:=z) rfl
    rw [Nat.zero_mul,Nat.add_zero] at k0 k1
    have hcl:r.length+1≤c1:=by have:=hr1.1;simpa using this
    rw [List.length_cons] at d0
    by_cases he:z.n=104
    ·have hE:((z.n:Int)==104)=true:=by simp;omega
     have HE:Hid (C.pr s.s=z::r):=by
      show C.pr s.s=z::r
      rw [HP.out,C.pr_stop he]
     clear he hr1
     go_wp2_with fail
     exact ⟨rfl,.tuple #[],results_none rfl _ _ _,rfl,by rw [HE.out];exact HA.out,HK.out⟩
    ·have hE:((z.n:Int)==104)=false:=by simp;omega
     have HE:Hid (C.pr s.s=C.pr r):=by
      show C.pr s.s=C.pr r
      rw [HP.out,C.pr_step he]
     have HSrc:Hid (∀ W:World,Below wr.heap.size wr W→Src Tryz.prog 2 123 (.slice (if c1=1 then some ⟨g,off,none⟩ else some ⟨g,off+2,none⟩) r.length (c1 - 1)) r.length (C.its r) W):=fun W hW=>tail_src (hr1.below hW)
     clear he hr1
     have HB1:Hid (Below wr.heap.size wr (wr.alloc (.cells #[] 139))):=(Below.refl _ wr).alloc (Nat.le_refl _) _
     have d0':(wr.alloc (.cells #[] 139)).cell? ⟨x,0,none⟩=some (.slice (some ⟨g,off,none⟩) (r.length+1) c1):=(HI.out.below HB1.out).cells.1
     have hrl:r.length≤5000:=by simp at hll;omega
     have HDr:Hid (∀ k,wr.heap.size≤k→D k):=fun k h=>HD.out k (Nat.le_trans HK.out.size h)
     go_wp2_with (at_builtin;go_must (refine C.wpList_append_row (D:=fun g=>wr.heap.size≤g) (zs:=[]) (ks:=r) rfl _ _ rfl rfl (C.Row.bare _) rfl (HSrc.out _ HB1.out) (by simp;omega) ?_);intro a5 n5 w5 hr5 hk5;rw [List.nil_append] at hr5;have hb5:Below wr.heap.size wr w5:=HB1.out.trans (hk5.below (by simp) (fun _ h=>h));have hr5':C.Row (wr.heap.size≤·) w5 a5 n5 r:=hr5.old (by simp);have hnew:=HA.out.new1 HDr.out hb5 hr5';have HNew:Hid _:=hnew;obtain ⟨u0,u1,u2⟩:=(HI.out.below hb5).cells;obtain ⟨v0,v1,v2⟩:=(HI.out.below hb5).thaw;simp only [List.length_nil,Nat.zero_add];clear hr5 hk5 hnew d0' hb5 hr5')
     all_goals
      go_roundg r.length
      case measure=>simp
      case rel=>exact ⟨r,rfl,hrl,HE.out,HNew.out.1,HK.out.trans HNew.out.2⟩
end
end Go.Proofs.YtkkkkiejnmpdkaaGreatDoor.Lirs
namespace Go.Proofs.YtkkkkiejnmpdkaaGreatDoor.Lirs
open Go.RowKit
namespace C
end C
def lenR (s:Rs):Nat:=s.q.length+C.cnt 104 s.s
end Go.Proofs.YtkkkkiejnmpdkaaGreatDoor.Lirs
namespace Go.Proofs.YtkkkkiejnmpdkaaGreatDoor.Lirs
open Go.RowKit
structure Sl (s:Rs):Prop where
 l1:s.s.length≤4000
 l2:s.q.length≤4000
 hc:s.c≤1024
 lo:1≤s.c
theorem Sl.sm {s:Rs} (h:Sl s):Sm s:=⟨by have:=h.l1;omega,by have:=h.l2;omega,h.hc⟩
theorem C.top_le (l:List C.It) (k:ByteArray) (n:Nat):(C.top l k n).length≤l.length+1:=by
 have:=C.out_le l k
 simp [C.top]
 omega
def hotR (s:Rs) (k:ByteArray):Rs:={ s with s:=C.top s.s k 104,q:=A.cut s.q k }
def loadR (s:Rs) (k:ByteArray):Rs:=if C.cnt 104 s.s<mostR s then { s with s:=C.pr (C.top s.s k 104) } else { s with s:=C.pr (C.top s.s k 99),q:=s.q++[k] }
section
variable {D D':Nat→Prop} {w w':World} {x:Nat} {s:Rs}
theorem RM.grow2 {L:Nat→Nat} {a1 a2:Option Addr} {c1 c2:Nat} (H:ReIn D L w x s a1 c1 a2 c2) (hD:∀ k,w.heap.size≤k→D k) {key:ByteArray} {a7:Option Addr} {n7:Nat} {w7:World}
 (hr7:Row (fun g=>(D g∧L g=2)∨w.heap.size≤g) w7 a7 n7 (s.q++[key])) (hk7:Keeps (fun g=>D g∧L g=2) w w7) :
 RM x { s with q:=s.q++[key] } D (w7.setCell ⟨x,1,none⟩ (.slice a7 (s.q.length+1) n7))∧Keeps D w (w7.setCell ⟨x,1,none⟩ (.slice a7 (s.q.length+1) n7)):=by
 have h7:=H.put2 hD hk7 hr7
 rw [List.length_append,List.length_cons,List.length_nil] at h7
 exact ⟨⟨_,_,_,_,_,h7⟩,(hk7.mono (fun _ _ h=>h.1)).setCell (p:=⟨x,1,none⟩) H.dx _⟩
set_option maxHeartbeats 1000000 in
theorem rload_no (H:RM x s D w) (hs:Sm s) (key:ByteArray) (hk:hasR s key=true∨s.c≤lenR s) :
 Calls Tryz.prog 74 #[.pointer (some ⟨x,0,none⟩),.string key] w fun e w'=>e=.returned (.bool false)∧∃ q,w'=w.drewN q:=by
 have hh:=fun q=>rhas_any (H.below (below_drewN (Below.refl _ w) q)) hs key
 have hlen:=fun q=>mlen_any (H.below (below_drewN (Below.refl _ w) q)) hs
 obtain ⟨L,a1,c1,a2,c2,H⟩:=H
 obtain ⟨d0,d1,d2⟩:=H.cells
 have hhi:=hs.hc
 by_cases h1:hasR s key=true
 ·rw [h1] at hh
  clear H hs
  go_enter Tryz.func74,Tryz.ntmps74
  go_wp2_with fail
  go_quiet (first | (go_at_call 89;refine Calls.quiet_of_same (hh _)) | (go_at_call 105;refine Calls.quiet_of (hlen _)))
  go_wp2_with fail
  go_ret
  exact ⟨rfl,_,rfl⟩
 ·have h1':hasR s key=false:=by simpa using h1
  rw [h1'] at hh
  have h2:s.c≤lenR s:=by rcases hk with h | h;exact absurd h h1;exact h
  unfold lenR at h2
  generalize s.q.length+C.cnt 104 s.s=n at *
  generalize s.c=c at *
  have hd:decide ((c:Int)≤(n:Int))=true:=decide_eq_true (by omega)
  clear H hs h1
  go_enter Tryz.func74,Tryz.ntmps74
  go_wp2_with fail
  go_quiet (first | (go_at_call 89;refine Calls.quiet_of_same (hh _)) | (go_at_call 105;refine Calls.quiet_of (hlen _)))
  go_wp2_with fail
  go_ret
  exact ⟨rfl,_,rfl⟩
set_option maxHeartbeats 4000000 in
theorem rload_yes (H:RM x s D w) (hs:Sl s) (hD:∀ k,w.heap.size≤k→D k) (key:ByteArray) (hk:hasR s key=false) (hl:lenR s<s.c) :
 Calls Tryz.prog 74 #[.pointer (some ⟨x,0,none⟩),.string key] w fun e w'=>e=.returned (.bool true)∧RM x (loadR s key) D w'∧Keeps D w w':=by
 have l1:=hs.l1
 have l2:=hs.l2
 have hc:=hs.hc
 have hlo:=hs.lo
 have HH:Hid (RM x s D w):=H
 have HD:Hid (∀ k,w.heap.size≤k→D k):=hD
 have hh:=fun q=>rhas_any (H.below (below_drewN (Below.refl _ w) q)) hs.sm key
 have hlen:=fun q=>mlen_any (H.below (below_drewN (Below.refl _ w) q)) hs.sm
 rw [hk] at hh
 have HCn:Hid (∀ W,RM x s D W→Calls Tryz.prog 110 #[.pointer (some ⟨x,0,none⟩),.int .u8 104] W fun e w'=>e=.returned (.int .i64 (C.cnt 104 s.s:Nat))∧w'=W):=fun W h=>rcount_any h (by omega) 104
 have HMo:Hid (∀ W,RM x s D W→Calls Tryz.prog 111 #[.pointer (some ⟨x,0,none⟩)] W fun e w'=>e=.returned (.int .i64 (mostR s:Nat))∧∃ q,w'=W.drewN q):=fun W h=>rmost_any h hc hlo
 have HTo:Hid (∀ (n:Nat) W,RM x s D W→Keeps D w W→Calls Tryz.prog 107 #[.pointer (some ⟨x,0,none⟩),.string key,.int .u8 (n:Nat)] W fun e w'=>e=.returned (.tuple #[])∧RM x { s with s:=C.top s.s key n } D w'∧Keeps D W w'):=fun n W h hk=>rtop_any h (by omega) (fun j hj=>HD.out j (Nat.le_trans hk.size hj)) key n
 have htop1:=C.top_le s.s key 104
 have htop2:=C.top_le s.s key 99
 have hcn:=C.cnt_le 104 s.s
 have HP1:Hid (∀ W,RM x { s with s:=C.top s.s key 104 } D W→Keeps D w W→Calls Tryz.prog 113 #[.pointer (some ⟨x,0,none⟩)] W fun e w'=>e=.returned (.tuple #[])∧RM x { s with s:=C.pr (C.top s.s key 104) } D w'∧Keeps D W w'):=fun W h hk=>rprune_any h (by show (C.top s.s key 104).length≤5000;omega) (fun j hj=>HD.out j (Nat.le_trans hk.size hj))
 have HP2:Hid (∀ W,RM x { s with s:=C.top s.s key 99,q:=s.q++[key] } D W→Keeps D w W→Calls Tryz.prog 113 #[.pointer (some ⟨x,0,none⟩)] W fun e w'=>e=.returned (.tuple #[])∧RM x { s with s:=C.pr (C.top s.s key 99),q:=s.q++[key] } D w'∧Keeps D W w'):=fun W h hk=>rprune_any h (by show (C.top s.s key 99).length≤5000;omega) (fun j hj=>HD.out j (Nat.le_trans hk.size hj))
 have HL:Hid (loadR s key=if C.cnt 104 s.s<mostR s then { s with s:=C.pr (C.top s.s key 104) } else { s with s:=C.pr (C.top s.s key 99),q:=s.q++[key] }):=rfl
 unfold lenR at hl
 have hmo:mostR s≤1024:=by unfold mostR;omega
 obtain ⟨L,a1,c1,a2,c2,H⟩:=H
 obtain ⟨d0,d1,d2⟩:=H.cells
 obtain ⟨N,hN⟩:∃ N,N=s.q.length+C.cnt 104 s.s:=⟨_,rfl⟩
 rw [← hN] at hlen hl
 have hd:decide ((s.c:Int)≤(N:Int))=false:=decide_eq_false (by omega)
 have hd2:decide (s.c≤N)=false:=decide_eq_false (by omega)
 clear H hD hs hN hk
 generalize C.cnt 104 s.s=n at *
 generalize mostR s=m at *
 rcases Nat.lt_or_ge n m with hlt | hge
 ·have g1:decide ((n:Int)<(m:Int))=true:=decide_eq_true (by omega)
  have HLE:Hid (loadR s key = { s with s:=C.pr (C.top s.s key 104) }):=by show _=_;rw [HL.out,if_pos hlt]
  go_enter Tryz.func74,Tryz.ntmps74
  go_wp2_with fail
  go_quiet (first | (go_at_call 89;refine Calls.quiet_of_same (hh _)) | (go_at_call 105;refine Calls.quiet_of (hlen _)))
  clear hh hlen d0 d1 d2
  rename_i nq
  have HB:Hid (Below w.heap.size w (w.drewN nq)):=below_drewN (Below.refl _ w) nq
  generalize w.drewN nq=wd at *
  go_wp2_with (first
   | (go_at_call 110;refine Calls.mono (HCn.out _ (HH.out.below HB.out)) ?_;rintro e wc ⟨rfl,rfl⟩)
   | (go_at_call 111;refine Calls.mono (HMo.out _ (HH.out.below HB.out)) ?_;rintro e w4 ⟨rfl,q4,hq4⟩;have HB4:Hid (Below w.heap.size w w4):=(by rw [hq4];exact below_drewN HB.out q4);clear hq4)
   | (go_at_call 107;refine Calls.mono (HTo.out 104 _ (HH.out.below HB4.out) (.of_below HB4.out)) ?_;rintro e w2 ⟨rfl,h2,hk2⟩;have H2:Hid (RM x { s with s:=C.top s.s key 104 } D w2):=h2;have HK2:Hid (Keeps D w w2):=((Keeps.of_below HB4.out).trans hk2);clear h2 hk2)
   | (go_at_call 113;refine Calls.mono (HP1.out _ H2.out HK2.out) ?_;rintro e w3 ⟨rfl,h3,hk3⟩))
  go_ret
  exact ⟨rfl,by rw [HLE.out];exact h3,HK2.out.trans hk3⟩
 ·have g1:decide ((n:Int)<(m:Int))=false:=decide_eq_false (by omega)
  have g2:¬ n<m:=by omega
  have HLE:Hid (loadR s key = { s with s:=C.pr (C.top s.s key 99),q:=s.q++[key] }):=by show _=_;rw [HL.out,if_neg g2]
  go_enter Tryz.func74,Tryz.ntmps74
  go_wp2_with fail
  go_quiet (first | (go_at_call 89;refine Calls.quiet_of_same (hh _)) | (go_at_call 105;refine Calls.quiet_of (hlen _)))
  clear hh hlen d0 d1 d2
  rename_i nq
  have HB:Hid (Below w.heap.size w (w.drewN nq)):=below_drewN (Below.refl _ w) nq
  generalize w.drewN nq=wd at *
  go_wp2_with (first
   | (go_at_call 110;refine Calls.mono (HCn.out _ (HH.out.below HB.out)) ?_;rintro e wc ⟨rfl,rfl⟩)
   | (go_at_call 111;refine Calls.mono (HMo.out _ (HH.out.below HB.out)) ?_;rintro e w4 ⟨rfl,q4,hq4⟩;have HB4:Hid (Below w.heap.size w w4):=(by rw [hq4];exact below_drewN HB.out q4);clear hq4)
   | (go_at_call 107;refine Calls.mono (HTo.out 99 _ (HH.out.below HB4.out) (.of_below HB4.out)) ?_;rintro e w2 ⟨rfl,⟨M,b1,n1,b2,n2,hM⟩,hk2⟩;obtain ⟨u0,u1,u2⟩:=hM.cells;have HM:Hid (ReIn D M w2 x { s with s:=C.top s.s key 99 } b1 n1 b2 n2):=hM;have HK2:Hid (Keeps D w w2):=((Keeps.of_below HB4.out).trans hk2);clear hM hk2;replace u1:w2.cell? ⟨x,1,none⟩=some (.slice b2 s.q.length n2):=u1)
   | (at_builtin;go_must (refine wpList_append_row (zs:=s.q) (ks:=[key]) rfl _ _ rfl rfl (HM.out.r2.below ((Below.refl _ _).alloc (Nat.le_refl _) _)) rfl (src_one _ key) (by simp;omega) ?_);intro a7 n7 w7 hr7 hk7;obtain ⟨⟨x0,x1,x2⟩,y0,y1,y2⟩:=(HM.out.below ((Below.refl _ _).alloc (Nat.le_refl _) _)).still (by omega) hk7;have h7:=RM.grow2 (HM.out.below ((Below.refl _ _).alloc (Nat.le_refl _) _)) (fun k h=>HD.out k (Nat.le_trans HK2.out.size (Nat.le_trans (by simp) h))) hr7 hk7;have H7:Hid (RM x { s with s:=C.top s.s key 99,q:=s.q++[key] } D (w7.setCell ⟨x,1,none⟩ (.slice a7 (s.q.length+1) n7))):=h7.1;have HK7:Hid (Keeps D w (w7.setCell ⟨x,1,none⟩ (.slice a7 (s.q.length+1) n7))):=((HK2.out.alloc _).trans h7.2);clear hr7 hk7 h7)
   | (go_at_call 113;refine Calls.mono (HP2.out _ H7.out HK7.out) ?_;rintro e w3 ⟨rfl,h3,hk3⟩))
  go_ret
  exact ⟨rfl,by rw [HLE.out];exact h3,HK7.out.trans hk3⟩
theorem eng_start (c:Nat) (v:Int) (h:v=c):some (Obj.cells #[.slice none 0 0,.slice none 0 0,.int .i64 v] 125 (0,0))=some (Obj.cells (eng ⟨[],[],c⟩ none 0 none 0) 125 (0,0)):=by
 subst h
 rfl
theorem mnew_any (r:Int) (hD:∀ k,w.heap.size≤k→D k) :
 Calls Tryz.prog 25 #[.int .i64 r] w fun e w'=>∃ x,e=.returned (.pointer (some ⟨x,0,none⟩))∧RM x ⟨[],[],heldC r⟩ D w'∧Keeps D w w':=by
 have hc:((heldC r:Nat):Int)=min (max r 1) 1024:=by unfold heldC;omega
 go_enter Tryz.func25,Tryz.ntmps25
 go_wp2_with fail
 all_goals
  go_ret
  refine ⟨_,rfl,⟨fun g=>if g=w.heap.size then 0 else 1,none,0,none,0,hD _ (Nat.le_refl _),by simp,?_,C.Row.nil,Row.nil⟩,(Keeps.refl D w).alloc _⟩
  rw [heap_alloc_new]
  exact eng_start _ _ (by first | exact hc.symm | omega)
end
end Go.Proofs.YtkkkkiejnmpdkaaGreatDoor.Lirs
namespace Go.Proofs.YtkkkkiejnmpdkaaGreatDoor.Lirs
open Go.RowKit
namespace A
section
variable {κ:Type} [DecidableEq κ]
def sig (q g:List κ) (k:κ):Nat:=if k∈g then 103 else if k∈q then 99 else 104
theorem sig_ghost {q g:List κ} {k:κ} (h:k∈g):sig q g k=103:=if_pos h
theorem sig_cold {q g:List κ} {k:κ} (h:k∉g) (h2:k∈q):sig q g k=99:=by unfold sig;rw [if_neg h,if_pos h2]
theorem sig_hot {q g:List κ} {k:κ} (h:k∉g) (h2:k∉q):sig q g k=104:=by unfold sig;rw [if_neg h,if_neg h2]
theorem sig_104 {q g:List κ} {k:κ}:sig q g k=104↔isHot q g k=true:=by
 rw [isHot_iff]
 unfold sig
 split
 ·rename_i h;simp [h]
 ·rename_i h
  split
  ·rename_i h2;simp [h2]
  ·rename_i h2;simp [h,h2]
theorem sig_congr {q g q' g':List κ} {k:κ} (hq:k∈q↔k∈q') (hg:k∈g↔k∈g'):sig q g k=sig q' g' k:=by
 unfold sig
 by_cases h:k∈g
 ·rw [if_pos h,if_pos (hg.1 h)]
 ·rw [if_neg h,if_neg (fun e=>h (hg.2 e))]
  by_cases h2:k∈q
  ·rw [if_pos h2,if_pos (hq.1 h2)]
  ·rw [if_neg h2,if_neg (fun e=>h2 (hq.2 e))]
end
end A
def cels (t q g:List ByteArray):List C.It:=t.map (fun k=>⟨k,A.sig q g k⟩)
def cel (s:Stt):Rs:=⟨cels s.t1 s.b1 s.t2,s.b1,s.c⟩
theorem cels_len (t q g:List ByteArray):(cels t q g).length=t.length:=by simp [cels]
theorem cels_congr {t q g q' g':List ByteArray} (h:∀ x,x∈t→A.sig q g x=A.sig q' g' x):cels t q g=cels t q' g':=by
 unfold cels
 exact List.map_congr_left (fun x hx=>by rw [h x hx])
theorem cels_out (t q g:List ByteArray) (k:ByteArray):C.out (cels t q g) k=cels (A.cut t k) q g:=by
 unfold C.out cels A.cut
 rw [List.filter_map]
 rfl
theorem cels_cut {t q g q' g':List ByteArray} {k:ByteArray} (h:∀ x,x≠k→A.sig q g x=A.sig q' g' x):cels (A.cut t k) q g=cels (A.cut t k) q' g':=cels_congr (fun x hx=>h x (A.mem_cut.1 hx).2)
theorem sig_cut {q g:List ByteArray} {k x:ByteArray} (h:x≠k):A.sig q g x=A.sig (A.cut q k) (A.cut g k) x:=A.sig_congr (by rw [A.mem_cut];simp [h]) (by rw [A.mem_cut];simp [h])
theorem sig_lay {q g:List ByteArray} {k x:ByteArray} (h:x≠k):A.sig q g x=A.sig (A.lay q k) (A.cut g k) x:=A.sig_congr (by rw [A.mem_lay];simp [h]) (by rw [A.mem_cut];simp [h])
theorem cels_hot (t q g:List ByteArray) (k:ByteArray):C.top (cels t q g) k 104=cels (A.lay t k) (A.cut q k) (A.cut g k):=by
 unfold C.top A.lay
 rw [cels_out,cels_cut (fun x h=>sig_cut h)]
 have:A.sig (A.cut q k) (A.cut g k) k=104:=A.sig_hot (fun h=>(A.mem_cut.1 h).2 rfl) (fun h=>(A.mem_cut.1 h).2 rfl)
 simp [cels,this]
theorem cels_cold (t q g:List ByteArray) (k:ByteArray):C.top (cels t q g) k 99=cels (A.lay t k) (A.lay q k) (A.cut g k):=by
 unfold C.top
 rw [cels_out,cels_cut (fun x h=>sig_lay h)]
 have:A.sig (A.lay q k) (A.cut g k) k=99:=A.sig_cold (fun h=>(A.mem_cut.1 h).2 rfl) (A.mem_lay.2 (.inr rfl))
 unfold cels A.lay at *
 simp [this]
theorem cels_pr {t q g:List ByteArray} (ho:∀ k,A.cnt k t≤1):C.pr (cels t q g)=cels (A.pr q t g).1 q (A.pr q t g).2:=by
 induction t generalizing g with
 | nil=>rfl
 | cons k r ih =>
   have hkr:A.cut r k=r:=A.cut_tail ho
   have hor:∀ j,A.cnt j r≤1:=fun j=>by have:=ho j;rw [A.cnt_cons] at this;omega
   show C.pr (⟨k,A.sig q g k⟩::cels r q g)=_
   unfold A.pr
   cases hn:A.isHot q g k with
   | true =>
     rw [C.pr_stop (A.sig_104.2 hn)]
     rfl
   | false =>
     rw [C.pr_step (z:=⟨k,A.sig q g k⟩) (fun e=>by have:=A.sig_104.1 e;rw [hn] at this;cases this)]
     simp only [Bool.false_eq_true,if_false]
     rw [← ih hor,← hkr,cels_cut (q':=q) (g':=A.cut g k) (fun x h=>A.sig_congr Iff.rfl (by rw [A.mem_cut];simp [h]))]
theorem cel_prune {s:Stt} (h:∀ k,A.cnt k s.t1≤1):cel (A.prune s) = { cel s with s:=C.pr (cel s).s }:=by
 show (⟨cels (A.pr s.b1 s.t1 s.t2).1 s.b1 (A.pr s.b1 s.t1 s.t2).2,s.b1,s.c⟩:Rs)=⟨C.pr (cels s.t1 s.b1 s.t2),s.b1,s.c⟩
 rw [cels_pr h]
theorem cels_cnt (t q g:List ByteArray):C.cnt 104 (cels t q g)=(t.filter (A.isHot q g)).length:=by
 unfold C.cnt cels
 rw [List.countP_map,← List.countP_eq_length_filter]
 refine List.countP_congr (fun x _=>?_)
 simp [A.sig_104]
theorem cel_hots (s:Stt):C.cnt 104 (cel s).s=(A.hots s).length:=cels_cnt _ _ _
theorem cel_len (s:Stt):lenR (cel s)=(A.keys s).length:=by
 unfold lenR
 rw [cel_hots,A.keys_length]
 rfl
theorem cel_most (s:Stt):mostR (cel s)=A.most s:=rfl
theorem cels_find_in {t q g:List ByteArray} {k:ByteArray} (h:k∈t):C.isOf (cels t q g) k=A.sig q g k:=by
 induction t with
 | nil=>cases h
 | cons y t ih =>
   by_cases e:y=k
   ·subst e;simp [C.isOf,cels]
   ·have h2:k∈t:=by
     rcases List.mem_cons.1 h with h | h
     ·exact absurd h.symm e
     ·exact h
    have:=ih h2
    unfold C.isOf cels at this ⊢
    rw [List.map_cons,List.find?_cons_of_neg (by simpa using e)]
    exact this
theorem cels_find_out {t q g:List ByteArray} {k:ByteArray} (h:k∉t):C.isOf (cels t q g) k=0:=by
 have:(cels t q g).find? (fun z=>decide (z.key=k))=none:=by
  rw [List.find?_eq_none]
  intro z hz
  unfold cels at hz
  obtain ⟨y,hy,rfl⟩:=List.mem_map.1 hz
  simp
  rintro rfl
  exact h hy
 unfold C.isOf
 rw [this]
theorem cel_is_hot {s:Stt} {k:ByteArray}:C.isOf (cel s).s k=104↔k∈A.hots s:=by
 show C.isOf (cels s.t1 s.b1 s.t2) k=104↔_
 by_cases h:k∈s.t1
 ·rw [cels_find_in h,A.sig_104,A.isHot_iff,A.mem_hots]
  exact ⟨fun e=>⟨h,e.1,e.2⟩,fun e=>e.2⟩
 ·rw [cels_find_out h,A.mem_hots]
  exact ⟨fun e=>(by cases e),fun e=>absurd e.1 h⟩
theorem cel_has {s:Stt} {k:ByteArray}:hasR (cel s) k=true↔k∈A.keys s:=by
 unfold hasR
 rw [A.mem_keys,Bool.or_eq_true,decide_eq_true_eq,cel_is_hot,inn_iff]
 exact ⟨fun h=>h.symm,fun h=>h.symm⟩
theorem cel_hasnt {s:Stt} {k:ByteArray} (h:k∉A.keys s):hasR (cel s) k=false:=by
 cases hv:hasR (cel s) k with
 | false=>rfl
 | true=>exact absurd (cel_has.1 hv) h
theorem cel_heat (s:Stt) (k:ByteArray):cel (A.heat s k)=hotR (cel s) k:=by
 show (⟨cels (A.lay s.t1 k) (A.cut s.b1 k) (A.cut s.t2 k),A.cut s.b1 k,s.c⟩:Rs)=⟨C.top (cels s.t1 s.b1 s.t2) k 104,A.cut s.b1 k,s.c⟩
 rw [cels_hot]
theorem cel_layCold (s:Stt) (k:ByteArray):cel (A.layCold s k) = { cel s with s:=C.top (cel s).s k 99,q:=A.cut s.b1 k++[k] }:=by
 show (⟨cels (A.lay s.t1 k) (A.lay s.b1 k) (A.cut s.t2 k),A.lay s.b1 k,s.c⟩:Rs)=⟨C.top (cels s.t1 s.b1 s.t2) k 99,A.cut s.b1 k++[k],s.c⟩
 rw [cels_cold]
 rfl
end Go.Proofs.YtkkkkiejnmpdkaaGreatDoor.Lirs
namespace Go.Proofs.YtkkkkiejnmpdkaaGreatDoor.Lirs
open Go.RowKit
def RE (x:Nat) (s:Stt) (D:Nat→Prop) (w:World):Prop:=RM x (cel s) D w
def Small (s:Stt):Prop:=A.Ok s
theorem Small.of {s:Stt} (h:A.Ok s):Small s:=h
theorem slOf {s:Stt} (h:A.Ok s):Sl (cel s):=by
 have h1:=h.small
 have h2:=h.res
 have h3:=h.gho
 have h4:=h.hi
 have h5:=h.lo
 rw [A.keys_length] at h2
 exact ⟨by show (cels s.t1 s.b1 s.t2).length≤4000;rw [cels_len];omega,by show s.b1.length≤4000;omega,h4,h5⟩
section
variable {D D':Nat→Prop} {w w':World} {x:Nat} {s:Stt}
theorem RE.below (H:RE x s D w) (hb:Below w.heap.size w w'):RE x s D w':=RM.below H hb
theorem RE.kept (H:RE x s D w) (hk:Keeps D' w w') (hd:∀ k,D k→¬ D' k):RE x s D w':=RM.kept H hk hd
theorem RE.wide (H:RE x s D w) (hD:∀ k,k<w.heap.size→D k→D' k):RE x s D' w:=RM.wide H hD
theorem rnew_any (r:Int) (hD:∀ k,w.heap.size≤k→D k) :
 Calls Tryz.prog 25 #[.int .i64 r] w fun e w'=>∃ x,e=.returned (.pointer (some ⟨x,0,none⟩))∧RE x (A.start (heldC r)) D w'∧Keeps D w w':=mnew_any r hD
theorem rload_any (H:RE x s D w) (hok:A.Ok s) (hD:∀ k,w.heap.size≤k→D k) (key:ByteArray) :
 Calls Tryz.prog 74 #[.pointer (some ⟨x,0,none⟩),.string key] w fun e w'=>e=.returned (.bool (A.load s key).1)∧RE x (A.load s key).2 D w'∧Keeps D w w':=by
 by_cases h:key∈A.keys s∨s.c≤(A.keys s).length
 ·rw [A.load_no h]
  refine (rload_no H (slOf hok).sm key (by rw [cel_len];rcases h with h | h;exact .inl (cel_has.2 h);exact .inr h)).mono ?_
  rintro e w' ⟨rfl,q,rfl⟩
  exact ⟨rfl,H.below (below_drewN (Below.refl _ w) q),.of_below (below_drewN (Below.refl _ w) q)⟩
 ·have h1:key∉A.keys s:=fun e=>h (.inl e)
  have hl:(A.keys s).length<s.c:=by rcases Nat.lt_or_ge (A.keys s).length s.c with h2 | h2;exact h2;exact absurd (.inr h2) h
  have hq:key∉s.b1:=fun e=>h1 (A.mem_keys.2 (.inl e))
  have e0:A.load s key=(true,A.prune (A.put s key)):=by unfold A.load;rw [if_neg h]
  rw [e0]
  refine (rload_yes H (slOf hok) hD key (cel_hasnt h1) (by rw [cel_len];exact hl)).mono ?_
  rintro e w' ⟨rfl,h2,hk⟩
  refine ⟨rfl,?_,hk⟩
  have e1:loadR (cel s) key=cel (A.prune (A.put s key)):=by
   unfold loadR A.put
   rw [cel_hots,cel_most]
   by_cases hm:(A.hots s).length<A.most s
   ·rw [if_pos hm,if_pos hm,cel_prune (A.heat_base hok.toBase key).ot,cel_heat]
    show (⟨C.pr (C.top (cel s).s key 104),s.b1,s.c⟩:Rs)=⟨C.pr (C.top (cel s).s key 104),A.cut s.b1 key,s.c⟩
    rw [A.cut_same hq]
   ·rw [if_neg hm,if_neg hm,cel_prune (A.cold_base hok.toBase key).ot,cel_layCold,A.cut_same hq]
    rfl
  show RM x (cel (A.prune (A.put s key))) D w'
  rw [← e1]
  exact h2
end
end Go.Proofs.YtkkkkiejnmpdkaaGreatDoor.Lirs
namespace Go.Proofs.YtkkkkiejnmpdkaaGreatDoor.Lirs
open Go.RowKit
namespace C
def pick (n:Nat) (l:List It):List ByteArray:=(l.filter (fun z=>decide (z.n=n))).map It.key
theorem pick_yes {n:Nat} {l:List It} {j:Nat} {z:It} (h:l[j]? = some z) (hz:z.n=n):pick n (l.take (j+1))=pick n (l.take j)++[z.key]:=by
 rw [List.take_add_one,h]
 simp [pick,hz]
theorem pick_no {n:Nat} {l:List It} {j:Nat} {z:It} (h:l[j]? = some z) (hz:z.n≠n):pick n (l.take (j+1))=pick n (l.take j):=by
 rw [List.take_add_one,h]
 simp [pick,hz]
theorem pick_take (n:Nat) (l:List It) (j:Nat):(pick n (l.take j)).length≤l.length:=by
 have h1:=List.length_filter_le (fun z:It=>decide (z.n=n)) (l.take j)
 simp only [pick,List.length_map]
 simp at h1
 omega
end C
theorem pick_hots (s:Stt):C.pick 104 (cel s).s=A.hots s:=by
 show ((s.t1.map (fun k=>(⟨k,A.sig s.b1 s.t2 k⟩:C.It))).filter (fun z=>decide (z.n=104))).map C.It.key=s.t1.filter (A.isHot s.b1 s.t2)
 rw [List.filter_map,List.map_map]
 have e1:(s.t1.filter ((fun z:C.It=>decide (z.n=104)) ∘ fun k=>(⟨k,A.sig s.b1 s.t2 k⟩:C.It)))=s.t1.filter (A.isHot s.b1 s.t2):=by
  refine List.filter_congr (fun x _=>?_)
  show decide (A.sig s.b1 s.t2 x=104)=A.isHot s.b1 s.t2 x
  cases hv:A.isHot s.b1 s.t2 x with
  | true=>exact decide_eq_true (A.sig_104.2 hv)
  | false=>exact decide_eq_false (fun e=>by have:=A.sig_104.1 e;rw [hv] at this;cases this)
 rw [e1]
 exact List.map_id _
section
variable {D D':Nat→Prop} {w w':World} {x:Nat} {s:Rs}
set_option maxHeartbeats 4000000 in
theorem mkeys_any (H:RM x s D w) (hs:Sm s) :
 Calls Tryz.prog 40 #[.pointer (some ⟨x,0,none⟩)] w fun e w'=>∃ ad cap,e=.returned (.slice ad (s.q++C.pick 104 s.s).length cap)∧Row (w.heap.size≤·) w' ad cap (s.q++C.pick 104 s.s)∧Below w.heap.size w w':=by
 obtain ⟨L,a1,c1,a2,c2,H⟩:=H
 have l1:=hs.l1
 have l2:=hs.l2
 have HC:Hid (∀ W,Below w.heap.size w W→W.cell? ⟨x,0,none⟩=some (.slice a1 s.s.length c1)∧W.cell? ⟨x,1,none⟩=some (.slice a2 s.q.length c2)):=fun W hb=>by
  obtain ⟨p0,p1,p2⟩:=(H.below hb).cells
  exact ⟨p0,p1⟩
 have HR1:Hid (C.Row (fun g=>D g∧L g=1) w a1 c1 s.s):=H.r1
 have HR2:Hid (Row (fun g=>D g∧L g=2) w a2 c2 s.q):=H.r2
 clear H hs
 generalize s.s=l at *
 generalize s.q=zs at *
 go_enter Tryz.func40,Tryz.ntmps40
 obtain ⟨c0a,c1a⟩:=HC.out _ ((Below.refl _ w).alloc (Nat.le_refl _) (.cells #[] 9))
 go_wp2_with (at_builtin;go_must (refine wpList_append_row (zs:=[]) (ks:=zs) (D:=fun g=>w.heap.size≤g) rfl _ _ rfl rfl (Row.bare _) (vx:=.slice a2 zs.length c2) rfl ((HR2.out.below ((Below.refl _ w).alloc (Nat.le_refl _) _)).src) (by simp;omega) ?_);intro a5 n5 w5 hr5 hk5;rw [List.nil_append] at hr5;have hb5:Below w.heap.size w w5:=((Below.refl _ w).alloc (Nat.le_refl _) _).trans (hk5.below (by simp) (fun _ h=>h));have HB5:Hid (Below w.heap.size w w5):=hb5;have HR5:Hid (Row (w.heap.size≤·) w5 a5 n5 zs):=(rrow_old hr5 (by simp));simp only [List.length_nil,Nat.zero_add];clear hr5 hk5 hb5)
 go_loopw [3,4] (fun v i wr=>∃ (j:Nat) (b:Option Addr) (n:Nat),j≤l.length∧i=.int .i64 j∧v=.slice b (zs++C.pick 104 (l.take j)).length n∧Row (w.heap.size≤·) wr b n (zs++C.pick 104 (l.take j))∧Below w.heap.size w wr) (fun _ i _=>l.length - (intOf i).toNat)
 case atStart=>exact ⟨0,a5,n5,Nat.zero_le _,rfl,by simp [C.pick],by simpa [C.pick] using HR5.out,HB5.out⟩
 case round =>
  obtain ⟨j,b,n,hj,rfl,rfl,hrow,hb⟩:=hrel
  have hs:=hb.size
  obtain ⟨d0,d1⟩:=HC.out wr hb
  have hpt:=C.pick_take 104 l j
  have hlen:(zs++C.pick 104 (l.take j)).length≤10000:=by rw [List.length_append];omega
  have HRow:Hid (Row (w.heap.size≤·) wr b n (zs++C.pick 104 (l.take j))):=hrow
  clear hrow hpt
  rcases Nat.lt_or_ge j l.length with hlt | hge
  ·obtain ⟨z,hz⟩:∃ z,l[j]? = some z:=⟨_,List.getElem?_eq_getElem hlt⟩
   obtain ⟨g,off,rfl,-,-,k0,k1,-⟩:=(HR1.out.below hb).at hz
   by_cases he:z.n=104
   ·have hE:((z.n:Int)==104)=true:=by simp;omega
    have HT:Hid (zs++C.pick 104 (l.take (j+1))=(zs++C.pick 104 (l.take j))++[z.key]):=by
     show zs++C.pick 104 (l.take (j+1))=_
     rw [C.pick_yes hz he]
     simp
    clear hz he
    generalize zs++C.pick 104 (l.take j)=m at *
    go_wp2_with (at_builtin;go_must (refine wpList_append_row (zs:=m) (ks:=[z.key]) rfl _ _ rfl rfl (HRow.out.below ((Below.refl _ wr).alloc (Nat.le_refl _) _)) rfl (src_one _ z.key) (by simp;omega) ?_);intro a3 c3 w3 hrow3 hk3;have hb3:Below w.heap.size w w3:=(hb.alloc hs _).trans (hk3.below (by simp;omega) (fun _ h=>h));have hrow3':Row (w.heap.size≤·) w3 a3 c3 (m++[z.key]):=rrow_old hrow3 (by simp;omega);clear hrow3 hk3)
    go_roundw
    case rel=>exact ⟨j+1,a3,c3,hlt,by go_num,by rw [HT.out,List.length_append,List.length_cons,List.length_nil],by rw [HT.out];exact hrow3',hb3⟩
    case measure=>simp [intOf];omega
   ·have hE:((z.n:Int)==104)=false:=by simp;omega
    have HT:Hid (zs++C.pick 104 (l.take (j+1))=zs++C.pick 104 (l.take j)):=by
     show zs++C.pick 104 (l.take (j+1))=_
     rw [C.pick_no hz he]
    clear hz he
    generalize zs++C.pick 104 (l.take j)=m at *
    go_wp2_with fail
    go_roundw
    case rel=>exact ⟨j+1,b,n,hlt,by go_num,by rw [HT.out],by rw [HT.out];exact HRow.out,hb⟩
    case measure=>simp [intOf];omega
  ·have hj':j=l.length:=by omega
   subst hj'
   rw [List.take_length] at *
   go_wp2_with fail
   go_ret
   exact ⟨_,_,rfl,HRow.out,hb⟩
end
section
variable {D D':Nat→Prop} {w w':World} {x:Nat} {s:Stt}
theorem rkeys_any (H:RE x s D w) (hs:Small s) :
 Calls Tryz.prog 40 #[.pointer (some ⟨x,0,none⟩)] w fun e w'=>∃ ad cap,e=.returned (.slice ad (A.keys s).length cap)∧Row (w.heap.size≤·) w' ad cap (A.keys s)∧Below w.heap.size w w':=by
 have:=mkeys_any H (slOf hs).sm
 rw [pick_hots] at this
 exact this
end
def sgn (n:Nat):ByteArray:=⟨#[UInt8.ofNat n]⟩
def cT (t:ByteArray) (zs:List C.It):ByteArray:=zs.foldl (fun t z=>t++⟨#[32]⟩++z.key++⟨#[47]⟩++sgn z.n) t
theorem cT_snoc (t:ByteArray) (zs:List C.It) (z:C.It):cT t (zs++[z])=cT t zs++⟨#[32]⟩++z.key++⟨#[47]⟩++sgn z.n:=by simp [cT]
theorem size_snoc (a b:ByteArray):(a++b).size=a.size+b.size:=by simp
theorem cT_size:∀ (zs:List C.It) (t:ByteArray),(∀ z∈zs,z.key.size≤1000)→(cT t zs).size≤t.size+1003*zs.length:=by
 intro zs
 induction zs with
 | nil=>intro t _;simp [cT]
 | cons a l ih =>
   intro t hz
   have h1:=ih (t++⟨#[32]⟩++a.key++⟨#[47]⟩++sgn a.n) (fun z h=>hz z (List.mem_cons_of_mem _ h))
   have h2:=hz a List.mem_cons_self
   rw [size_snoc,size_snoc,size_snoc,size_snoc] at h1
   have h3:(⟨#[32]⟩:ByteArray).size=1:=rfl
   have h4:(⟨#[47]⟩:ByteArray).size=1:=rfl
   have h5:(sgn a.n).size=1:=rfl
   rw [List.length_cons]
   show (cT (t++⟨#[32]⟩++a.key++⟨#[47]⟩++sgn a.n) l).size≤_
   omega
def gT (t:ByteArray) (zs:List ByteArray):ByteArray:=zs.foldl (fun t z=>t++⟨#[32]⟩++z) t
theorem gT_snoc (t:ByteArray) (zs:List ByteArray) (z:ByteArray):gT t (zs++[z])=gT t zs++⟨#[32]⟩++z:=by simp [gT]
theorem gT_size:∀ (zs:List ByteArray) (t:ByteArray),(∀ z∈zs,z.size≤1000)→(gT t zs).size≤t.size+1001*zs.length:=by
 intro zs
 induction zs with
 | nil=>intro t _;simp [gT]
 | cons a l ih =>
   intro t hz
   have h1:=ih (t++⟨#[32]⟩++a) (fun z h=>hz z (List.mem_cons_of_mem _ h))
   have h2:=hz a List.mem_cons_self
   rw [size_snoc,size_snoc] at h1
   have h3:(⟨#[32]⟩:ByteArray).size=1:=rfl
   rw [List.length_cons]
   show (gT (t++⟨#[32]⟩++a) l).size≤_
   omega
theorem bytes_app (a b:ByteArray):(a++b).data.toList=a.data.toList++b.data.toList:=by simp
theorem gT_bytes:∀ (zs:List ByteArray) (t:ByteArray),(gT t zs).data.toList=t.data.toList++rowB zs:=by
 intro zs
 induction zs with
 | nil=>intro t;simp [gT,rowB]
 | cons z l ih =>
   intro t
   show (gT (t++⟨#[32]⟩++z) l).data.toList=_
   rw [ih,bytes_app,bytes_app]
   simp [rowB]
theorem sgn_letter (s:Stt) (k:ByteArray):UInt8.ofNat (A.sig s.b1 s.t2 k)=letB (qs s) k:=by
 have q1:qs s 1=s.b1:=rfl
 have q2:qs s 2=s.t2:=rfl
 unfold letB
 rw [q1,q2]
 by_cases h:k∈s.t2
 ·rw [A.sig_ghost h,inb_yes h];rfl
 ·rw [inb_no h]
  by_cases h2:k∈s.b1
  ·rw [A.sig_cold h h2,inb_yes h2];rfl
  ·rw [A.sig_hot h h2,inb_no h2];rfl
theorem cT_bytes (s:Stt):∀ (t:List ByteArray) (u:ByteArray),(cT u (cels t s.b1 s.t2)).data.toList=u.data.toList++sB (qs s) t:=by
 intro t
 induction t with
 | nil=>intro u;simp [cT,cels,sB]
 | cons z l ih =>
   intro u
   show (cT (u++⟨#[32]⟩++z++⟨#[47]⟩++sgn (A.sig s.b1 s.t2 z)) (cels l s.b1 s.t2)).data.toList=_
   rw [ih,bytes_app,bytes_app,bytes_app,bytes_app]
   have:(sgn (A.sig s.b1 s.t2 z)).data.toList=[letB (qs s) z]:=by
    rw [← sgn_letter]
    rfl
   rw [this]
   simp [sB,cellB]
def stR (s:Rs):ByteArray:=gT (cT ⟨#[83,58]⟩ s.s++⟨#[59,81,58]⟩) s.q
def stT (s:Stt):ByteArray:=stR (cel s)
theorem stT_eq (s:Stt):stT s=⟨(stB (qs s)).toArray⟩:=by
 have h:(stT s).data.toList=stB (qs s):=by
  show (gT (cT ⟨#[83,58]⟩ (cels s.t1 s.b1 s.t2)++⟨#[59,81,58]⟩) s.b1).data.toList=_
  rw [gT_bytes,bytes_app,cT_bytes]
  show _=([83,58]++sB (qs s) s.t1)++([59,81,58]++rowB s.b1)
  simp
 rw [← h]
theorem conv_sgn {W:World} {a n:Nat} (h:W.cell? ⟨a,0,none⟩=some (.int .u8 (n:Nat))):(convert 140 9 (.slice (some ⟨a,0,none⟩) 1 1)).run Tryz.prog W=.ok (.string (sgn n)) W:=by
 rw [run_convert_bytes_string _ 140 9 5 _ 1 1 Tryz.underlying140 Tryz.underlying5 Tryz.underlying9,run_bytesToString _ _ 1 1 [(n:Int)]]
 ·show _=Result.ok (Value.string ⟨#[UInt8.ofNat n]⟩) W
  simp only [List.foldl_cons,List.foldl_nil,Int.toNat_natCast]
  rfl
 ·simp [loadCells,loadCellsFrom,Addr.add_lit,h]
section
variable {D D':Nat→Prop} {w w':World} {x:Nat} {s:Rs}
set_option maxRecDepth 20000 in
set_option maxHeartbeats 4000000 in
theorem mstate_any (H:RM x s D w) (hs:Sm s) (hz:∀ z∈s.s,z.key.size≤1000) (hz2:∀ z∈s.q,z.size≤1000) :
 Calls Tryz.prog 35 #[.pointer (some ⟨x,0,none⟩)] w fun e w'=>e=.returned (.string (stR s))∧Below w.heap.size w w':=by
 obtain ⟨L,a1,c1,a2,c2,H⟩:=H
 have l1:=hs.l1
 have l2:=hs.l2
 have HZ1:Hid (∀ z∈s.s,z.key.size≤1000):=hz
 have HZ2:Hid (∀ z∈s.q,z.size≤1000):=hz2
 have HC:Hid (∀ W,Below w.heap.size w W→W.cell? ⟨x,0,none⟩=some (.slice a1 s.s.length c1)∧W.cell? ⟨x,1,none⟩=some (.slice a2 s.q.length c2)):=fun W hb=>by
  obtain ⟨p0,p1,p2⟩:=(H.below hb).cells
  exact ⟨p0,p1⟩
 have HR1:Hid (C.Row (fun g=>D g∧L g=1) w a1 c1 s.s):=H.r1
 have HR2:Hid (Row (fun g=>D g∧L g=2) w a2 c2 s.q):=H.r2
 unfold stR
 clear H hs hz hz2
 generalize s.s=l at *
 generalize s.q=zs at *
 go_enter Tryz.func35,Tryz.ntmps35
 go_wp2_with fail
 go_loopw [3,4] (fun t i wr=>∃ j:Nat,j≤l.length∧i=.int .i64 j∧t=.string (cT ⟨#[83,58]⟩ (l.take j))∧Below w.heap.size w wr) (fun _ i _=>l.length - (intOf i).toNat)
 case atStart=>exact ⟨0,Nat.zero_le _,rfl,rfl,Below.refl _ _⟩
 case round =>
  obtain ⟨j,hj,rfl,rfl,hb⟩:=hrel
  have HB:Hid (Below w.heap.size w wr):=hb
  obtain ⟨d0,d1⟩:=HC.out wr hb
  have s0:(⟨#[83,58]⟩:ByteArray).size=2:=rfl
  have hts:=cT_size (l.take j) ⟨#[83,58]⟩ (fun y hy=>HZ1.out y (List.mem_of_mem_take hy))
  have htl:(l.take j).length≤5000:=by simp;omega
  rcases Nat.lt_or_ge j l.length with hlt | hge
  ·obtain ⟨z,hz⟩:∃ z,l[j]? = some z:=⟨_,List.getElem?_eq_getElem hlt⟩
   obtain ⟨g,off,rfl,-,hgl,c0,c1,-⟩:=(HR1.out.below hb).at hz
   have hzs:=HZ1.out z (List.mem_of_getElem? hz)
   have HS:Hid (cT ⟨#[83,58]⟩ (l.take (j+1))=cT ⟨#[83,58]⟩ (l.take j)++⟨#[32]⟩++z.key++⟨#[47]⟩++sgn z.n):=by
    show cT ⟨#[83,58]⟩ (l.take (j+1))=_
    rw [List.take_add_one,hz]
    exact cT_snoc _ _ _
   clear hz hb
   generalize cT ⟨#[83,58]⟩ (l.take j)=t at *
   have ht:t.size≤20000000:=by omega
   clear hts htl
   have s1:(⟨#[32]⟩:ByteArray).size=1:=rfl
   have s2:(⟨#[47]⟩:ByteArray).size=1:=rfl
   have p1:∀ W:World,(Op.stringOp .add t (⟨#[32]⟩:ByteArray)).run Tryz.prog W=.ok (.string (t++(⟨#[32]⟩:ByteArray))) W:=fun W=>run_string_add_sum W _ _ (by omega)
   have q1:(t++(⟨#[32]⟩:ByteArray)).size≤20000001:=by rw [size_snoc];omega
   generalize t++(⟨#[32]⟩:ByteArray)=t1 at *
   have p2:∀ W:World,(Op.stringOp .add t1 z.key).run Tryz.prog W=.ok (.string (t1++z.key)) W:=fun W=>run_string_add_sum W _ _ (by omega)
   have q2:(t1++z.key).size≤20001001:=by rw [size_snoc];omega
   generalize t1++z.key=t2 at *
   have p3:∀ W:World,(Op.stringOp .add t2 (⟨#[47]⟩:ByteArray)).run Tryz.prog W=.ok (.string (t2++(⟨#[47]⟩:ByteArray))) W:=fun W=>run_string_add_sum W _ _ (by omega)
   have q3:(t2++(⟨#[47]⟩:ByteArray)).size≤20001002:=by rw [size_snoc];omega
   generalize t2++(⟨#[47]⟩:ByteArray)=t3 at *
   have p4:∀ W:World,(Op.stringOp .add t3 (sgn z.n)).run Tryz.prog W=.ok (.string (t3++sgn z.n)) W:=fun W=>run_string_add_sum W _ _ (by have:(sgn z.n).size=1:=rfl;omega)
   have pc:(convert 140 9 (.slice (some ⟨wr.heap.size,0,none⟩) 1 1)).run Tryz.prog (wr.alloc (.cells #[.int .u8 (z.n:Int)] 5)).drew=.ok (.string (sgn z.n)) (wr.alloc (.cells #[.int .u8 (z.n:Int)] 5)).drew:=by
    refine conv_sgn ?_
    have hblk:(wr.alloc (.cells #[.int .u8 (z.n:Int)] 5)).drew.heap[wr.heap.size]? = some (.cells #[.int .u8 (z.n:Int)] 5 (0,0)):=heap_alloc_new wr _
    rw [cell_of_block hblk]
    rfl
   have c0':=cell_later ((Below.refl _ wr).alloc (Nat.le_refl _) (.cells #[.int .u8 (z.n:Int)] 5)) c0
   have c1':=cell_later ((Below.refl _ wr).alloc (Nat.le_refl _) (.cells #[.int .u8 (z.n:Int)] 5)) c1
   have d0':=cell_later ((Below.refl _ wr).alloc (Nat.le_refl _) (.cells #[.int .u8 (z.n:Int)] 5)) d0
   go_wp2_with fail
   go_region_with (fail)
   all_goals
    have HB2:Hid (Below w.heap.size w (wr.alloc (.cells #[.int .u8 (z.n:Int)] 5)).drew):=(HB.out.alloc HB.out.size _).drew
    go_wp2_with fail
    go_roundw
    case rel=>exact ⟨j+1,hlt,by go_num,by rw [HS.out],HB2.out⟩
    case measure=>simp [intOf];omega
  ·have hj':j=l.length:=by omega
   subst hj'
   rw [List.take_length] at *
   have hcs:(cT ⟨#[83,58]⟩ l).size≤10000000:=by omega
   generalize hx1:cT ⟨#[83,58]⟩ l=x1 at *
   have HX1:Hid (cT ⟨#[83,58]⟩ l=x1):=hx1
   clear hx1
   have sz3:(⟨#[59,81,58]⟩:ByteArray).size=3:=rfl
   have p1:∀ W:World,(Op.stringOp .add x1 (⟨#[59,81,58]⟩:ByteArray)).run Tryz.prog W=.ok (.string (x1++(⟨#[59,81,58]⟩:ByteArray))) W:=fun W=>run_string_add_sum W _ _ (by omega)
   have s1:(x1++(⟨#[59,81,58]⟩:ByteArray)).size≤10000003:=by rw [size_snoc];omega
   generalize hx3:x1++(⟨#[59,81,58]⟩:ByteArray)=c3' at *
   have HX3:Hid (x1++(⟨#[59,81,58]⟩:ByteArray)=c3'):=hx3
   clear hx3
   clear hts htl
   go_wp2_with fail
   go_loopw [3,5] (fun t i wr=>∃ j:Nat,j≤zs.length∧i=.int .i64 j∧t=.string (gT c3' (zs.take j))∧Below w.heap.size w wr) (fun _ i _=>zs.length - (intOf i).toNat)
   case atStart=>exact ⟨0,Nat.zero_le _,rfl,rfl,HB.out⟩
   case round =>
    clear d0 d1 p1 hb
    obtain ⟨j,hj,rfl,rfl,hb⟩:=hrel
    have HB:Hid (Below w.heap.size w wr):=hb
    obtain ⟨d0,d1⟩:=HC.out wr hb
    rcases Nat.lt_or_ge j zs.length with hlt | hge
    ·obtain ⟨z,hz⟩:∃ z,zs[j]? = some z:=⟨_,List.getElem?_eq_getElem hlt⟩
     obtain ⟨g,off,rfl,-,c0,-⟩:=(HR2.out.below hb).at hz
     have hzs:=HZ2.out z (List.mem_of_getElem? hz)
     have hts:=gT_size (zs.take j) c3' (fun y hy=>HZ2.out y (List.mem_of_mem_take hy))
     have htl:(zs.take j).length≤5000:=by simp;omega
     have HS:Hid (gT c3' (zs.take (j+1))=gT c3' (zs.take j)++⟨#[32]⟩++z):=by
      show gT c3' (zs.take (j+1))=_
      rw [List.take_add_one,hz]
      exact gT_snoc _ _ _
     clear hz hb
     generalize gT c3' (zs.take j)=t at *
     have ht:t.size≤20000000:=by omega
     clear hts htl s1
     go_wp2_with fail
     go_roundw
     case rel=>exact ⟨j+1,hlt,by go_num,by rw [HS.out],HB.out⟩
     case measure=>simp [intOf];omega
    ·have hj':j=zs.length:=by omega
     subst hj'
     rw [List.take_length]
     go_wp2_with fail
     go_ret
     exact ⟨by rw [HX1.out,HX3.out];rfl,HB.out⟩
end
section
variable {D D':Nat→Prop} {w w':World} {x:Nat} {s:Stt}
theorem rstate_any (H:RE x s D w) (hs:Small s) (hz:∀ k,k∈s.t1∨k∈s.t2∨k∈s.b1→k.size≤1000) :
 Calls Tryz.prog 35 #[.pointer (some ⟨x,0,none⟩)] w fun e w'=>e=.returned (.string (stT s))∧Below w.heap.size w w':=by
 refine mstate_any H (slOf hs).sm (fun z hm=>?_) (fun z hm=>hz z (.inr (.inr hm)))
 obtain ⟨k,hk,rfl⟩:=List.mem_map.1 (show z∈s.t1.map (fun k=>(⟨k,A.sig s.b1 s.t2 k⟩:C.It)) from hm)
 exact hz k (.inl hk)
end
end Go.Proofs.YtkkkkiejnmpdkaaGreatDoor.Lirs
