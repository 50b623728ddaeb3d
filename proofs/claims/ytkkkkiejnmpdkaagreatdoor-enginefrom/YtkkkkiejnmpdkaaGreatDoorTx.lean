/- common Tx: Tx Mx Cm -/
import Derived.Test.YtkkkkiejnmpdkaaGreatDoorRows
import Derived.WalkKit
import Derived.WalkSpells
import Derived.WalkLawsBesides
import Derived.WalkSmall
import Derived.Deep.Upon
import Derived.Deep.OwnRows
import Derived.Deep.QuietTactic
import Derived.Deep.RegionLaw
import Derived.Deep.RegionHeld3
import Derived.BigQuiet
import Derived.Laws.BitsAllLaws
namespace Go.Proofs.YtkkkkiejnmpdkaaGreatDoor
open Go.RowKit
theorem ret_int {k:IntKind} {a b:Int} (h:a=b):Ending.returned (.int k a)=.returned (.int k b):=by rw [h]
theorem block_setCell {w:World} {p j:Nat} {cs:Array Value} {t:TypeId} {u:Value} (h:w.heap[p]? = some (.cells cs t (0,0))) :
 (w.setCell ⟨p,j,none⟩ u).heap[p]? = some (.cells (cs.set! j u) t (0,0)):=by
 have hlt:=lt_of_block h
 have h':w.heap[p]=.cells cs t (0,0):=by simpa [Array.getElem?_eq_getElem hlt] using h
 show (w.heap.modify p _)[p]? = _
 rw [Array.getElem?_eq_getElem (by simpa using hlt),Array.getElem_modify_self,h']
 rfl
theorem cell_setCell_far {w:World} {a b:Addr} {u:Value} (h:b.block≠a.block):(w.setCell a u).cell? b=w.cell? b :=
 World.cell?_of_block (w:=w) (Below.heap_setCell _ _ _ _ h)
theorem frozen_of_block {w:World} {p j:Nat} {cs:Array Value} {t:TypeId} (h:w.heap[p]? = some (.cells cs t (0,0))):w.frozen? ⟨p,j,none⟩=false:=by
 simp [World.frozen?,h]
theorem cell_of_block {w:World} {p j:Nat} {cs:Array Value} {t:TypeId} (h:w.heap[p]? = some (.cells cs t (0,0))):w.cell? ⟨p,j,none⟩=cs[j]?:=by
 simp [World.cell?,h]
theorem lt_of_at {β:Type} {l:List β} {i:Nat} {x:β} (h:l[i]? = some x):i<l.length:=(List.getElem?_eq_some_iff.1 h).1
structure Keeps (D:Nat→Prop) (w w':World):Prop where
 os:w'.os=w.os
 tape:w'.tape=w.tape
 output:w'.output=w.output
 size:w.heap.size≤w'.heap.size
 block:∀ k,k<w.heap.size→¬ D k→w'.heap[k]? = w.heap[k]?
theorem Keeps.refl (D:Nat→Prop) (w:World):Keeps D w w:=⟨rfl,rfl,rfl,Nat.le_refl _,fun _ _ _=>rfl⟩
theorem Keeps.trans {D:Nat→Prop} {a b c:World} (h:Keeps D a b) (k:Keeps D b c):Keeps D a c :=
 ⟨k.os.trans h.os,k.tape.trans h.tape,k.output.trans h.output,Nat.le_trans h.size k.size,fun i hi hD=>(k.block i (Nat.lt_of_lt_of_le hi h.size) hD).trans (h.block i hi hD)⟩
theorem Keeps.mono {D D':Nat→Prop} {w w':World} (h:Keeps D w w') (hD:∀ k,k<w.heap.size→D k→D' k):Keeps D' w w':=⟨h.os,h.tape,h.output,h.size,fun k hk hn=>h.block k hk (fun e=>hn (hD k hk e))⟩
theorem Keeps.drew {D:Nat→Prop} {a w:World} (h:Keeps D a w):Keeps D a w.drew:=⟨h.os,h.tape,h.output,h.size,h.block⟩
theorem Keeps.drewN {D:Nat→Prop} {a w:World} (h:Keeps D a w) (q:Nat):Keeps D a (w.drewN q):=⟨h.os,h.tape,h.output,h.size,h.block⟩
theorem Keeps.alloc {D:Nat→Prop} {a w:World} (h:Keeps D a w) (o:Obj):Keeps D a (w.alloc o) :=
 h.trans ⟨rfl,rfl,rfl,by simp,fun k hk _=>Below.heap_alloc _ _ _ hk⟩
theorem Keeps.setCell {D:Nat→Prop} {a w:World} (h:Keeps D a w) {p:Addr} (hp:D p.block) (u:Value):Keeps D a (w.setCell p u) :=
 h.trans ⟨rfl,rfl,rfl,by simp [World.setCell],fun k _ hn=>Below.heap_setCell _ _ _ _ (by rintro rfl;exact hn hp)⟩
theorem Keeps.of_below {D:Nat→Prop} {w w':World} (h:Below w.heap.size w w'):Keeps D w w':=⟨h.os,h.tape,h.output,h.size,fun k hk _=>h.block k hk⟩
theorem Keeps.below {D:Nat→Prop} {B:Nat} {w w':World} (h:Keeps D w w') (hB:B≤w.heap.size) (hD:∀ k,D k→B≤k):Below B w w' :=
 ⟨h.os,h.tape,h.output,h.size,fun k hk=>h.block k (by omega) (fun e=>by have:=hD k e;omega)⟩
theorem below_drewN {B:Nat} {w w':World} (h:Below B w w') (q:Nat):Below B w (w'.drewN q):=⟨h.os,h.tape,h.output,h.size,h.block⟩
def txs (zs:List ByteArray):List Value:=zs.map Value.string
theorem txs_len (zs:List ByteArray):(txs zs).length=zs.length:=by simp [txs]
theorem txs_at {zs:List ByteArray} {i:Nat} {z:ByteArray} (h:zs[i]? = some z):(txs zs)[i]? = some (.string z):=by simp [txs,h]
theorem txs_one (zs:List ByteArray):∀ u∈txs zs,u.oneCell'=true:=by
 intro u hu
 simp [txs] at hu
 obtain ⟨z,_,rfl⟩:=hu
 rfl
def Row (D:Nat→Prop) (w:World) (ad:Option Addr) (cap:Nat) (zs:List ByteArray):Prop :=
 zs.length≤cap∧cap≤maxLen∧(0<cap→∃ g off cur,ad=some ⟨g,off,none⟩∧D g∧w.heap[g]? = some (.cells cur 9 (0,0))∧off+cap≤cur.size∧∀ i z,zs[i]? = some z→cur[off+i]? = some (.string z))
section
variable {D D':Nat→Prop} {w w':World} {ad:Option Addr} {cap:Nat} {zs ks:List ByteArray}
theorem Row.kept (h:Row D w ad cap zs) (hk:Keeps D' w w') (hd:∀ k,D k→¬ D' k):Row D w' ad cap zs:=by
 refine ⟨h.1,h.2.1,fun hc=>?_⟩
 obtain ⟨g,off,cur,e,hD,hg,hs,hz⟩:=h.2.2 hc
 exact ⟨g,off,cur,e,hD,(hk.block g (lt_of_block hg) (hd g hD)).trans hg,hs,hz⟩
theorem Row.below (h:Row D w ad cap zs) (hb:Below w.heap.size w w'):Row D w' ad cap zs:=h.kept (D':=fun _=>False) (.of_below hb) (fun _ _ e=>e)
theorem Row.wide (h:Row D w ad cap zs) (hD:∀ k,k<w.heap.size→D k→D' k):Row D' w ad cap zs:=by
 refine ⟨h.1,h.2.1,fun hc=>?_⟩
 obtain ⟨g,off,cur,e,hg0,hg,r⟩:=h.2.2 hc
 exact ⟨g,off,cur,e,hD _ (lt_of_block hg) hg0,hg,r⟩
theorem Row.narrow (h:Row D w ad cap zs):Row (fun k=>D k∧k<w.heap.size) w ad cap zs:=h.wide (fun _ a b=>⟨b,a⟩)
theorem Row.nil:Row D w none 0 []:=⟨Nat.le_refl _,Nat.zero_le _,fun h=>absurd h (Nat.lt_irrefl _)⟩
theorem Row.bare (ad:Option Addr):Row D w ad 0 []:=⟨Nat.le_refl _,Nat.zero_le _,fun h=>absurd h (Nat.lt_irrefl _)⟩
theorem Row.at (h:Row D w ad cap zs) {i:Nat} {z:ByteArray} (hz:zs[i]? = some z):∃ g off,ad=some ⟨g,off,none⟩∧D g∧w.cell? ⟨g,off+i,none⟩=some (.string z)∧w.frozen? ⟨g,off+i,none⟩=false:=by
 obtain ⟨g,off,cur,e,hD,hg,hs,hc⟩:=h.2.2 (by have:=lt_of_at hz;have:=h.1;omega)
 exact ⟨g,off,e,hD,by rw [cell_of_block hg];exact hc i z hz,frozen_of_block hg⟩
theorem Row.shape (h:Row D w ad cap zs) (hc:0<cap):∃ g off,ad=some ⟨g,off,none⟩:=by
 obtain ⟨g,off,cur,e,-⟩:=h.2.2 hc
 exact ⟨g,off,e⟩
theorem Row.drop {g off:Nat} (h:Row D w (some ⟨g,off,none⟩) cap zs) (j:Nat):Row D w (some ⟨g,off+j,none⟩) (cap - j) (zs.drop j):=by
 refine ⟨by have:=h.1;simp;omega,by have:=h.2.1;omega,fun hc=>?_⟩
 obtain ⟨g',off',cur,e,hD,hg,hs,hz⟩:=h.2.2 (by omega)
 cases e
 refine ⟨g,off+j,cur,rfl,hD,hg,by omega,fun i z hi=>?_⟩
 rw [List.getElem?_drop] at hi
 rw [Nat.add_assoc]
 exact hz (j+i) z hi
theorem Row.take (h:Row D w ad cap zs) (j:Nat):Row D w ad cap (zs.take j):=by
 refine ⟨by have:=h.1;simp;omega,h.2.1,fun hc=>?_⟩
 obtain ⟨g,off,cur,e,hD,hg,hs,hz⟩:=h.2.2 hc
 refine ⟨g,off,cur,e,hD,hg,hs,fun i z hi=>hz i z ?_⟩
 rw [List.getElem?_take] at hi
 split at hi
 ·exact hi
 ·cases hi
theorem Row.src (h:Row D w ad cap zs):Src Tryz.prog 1 38 (.slice ad zs.length cap) zs.length (txs zs) w:=by
 rcases Nat.eq_zero_or_pos zs.length with h0 | h0
 ·obtain rfl:zs=[]:=List.eq_nil_of_length_eq_zero h0
  cases ad with
  | none=>exact Src.ofNil w Tryz.underlying38 cap
  | some x=>exact Src.ofSlice w Tryz.underlying38 x 0 cap [] (by simp) (by simp) (by simp)
 ·obtain ⟨g,off,cur,rfl,hD,hg,hs,hc⟩:=h.2.2 (by have:=h.1;omega)
  refine Src.ofSlice w Tryz.underlying38 _ _ _ _ (by rw [txs_len,Nat.mul_one]) (fun j u hu=>?_) (txs_one zs)
  have hj:j<zs.length:=by have:=lt_of_at hu;rwa [txs_len] at this
  rw [txs_at (List.getElem?_eq_getElem hj)] at hu
  cases hu
  rw [Addr.add_lit,cell_of_block hg]
  exact hc j _ (List.getElem?_eq_getElem hj)
end
theorem setCells_block {e:TypeId} {b:Nat}:∀ (vs:List Value) (o:Nat) (w:World) (cur:Array Value),w.heap[b]? = some (.cells cur e (0,0))→o+vs.length≤cur.size →
 ∃ cur',(w.setCells b o vs).heap[b]? = some (.cells cur' e (0,0))∧cur'.size=cur.size∧(∀ i,i<o→cur'[i]? = cur[i]?)∧∀ i,i<vs.length→cur'[o+i]? = vs[i]?
 | [],o,w,cur,h,_=>⟨cur,h,rfl,fun _ _=>rfl,fun i hi=>by simp at hi⟩
 | v::r,o,w,cur,h,hs=>by
   simp only [List.length_cons] at hs
   obtain ⟨cur',h1,h2,h3,h4⟩:=setCells_block r (o+1) (w.setCell ⟨b,o,none⟩ v) (cur.set! o v) (block_setCell h) (by simp;omega)
   refine ⟨cur',h1,by simpa using h2,fun i hi=>?_,fun i hi=>?_⟩
   ·rw [h3 i (by omega)]
    simp [show o≠i by omega]
   ·cases i with
    | zero =>
      rw [Nat.add_zero,h3 o (by omega)]
      simp [show o<cur.size by omega]
    | succ i =>
      have:=h4 i (by simp at hi;omega)
      rw [show o+(i+1)=o+1+i by omega,this]
      simp
theorem setCells_keeps {D:Nat→Prop} {b:Nat} (hb:D b):∀ (vs:List Value) (o:Nat) (w:World),Keeps D w (w.setCells b o vs)
 | [],_,w=>Keeps.refl D w
 | v::r,o,w=>((Keeps.refl D w).setCell (p:=⟨b,o,none⟩) hb v).trans (setCells_keeps hb r (o+1) _)
theorem info_string:∃ i,Tryz.prog.info? 9=some i∧i.zero=some (.string ByteArray.empty)∧i.size=1∧i.bytes=16:=by
 have h:(Tryz.prog.info? 9).map (fun i=>(i.zero,i.size,i.bytes))=some (some (.string ByteArray.empty),1,16):=by kernel_rfl
 cases hi:Tryz.prog.info? 9 with
 | none=>rw [hi] at h;cases h
 | some i=>rw [hi] at h;simp at h;exact ⟨i,rfl,h.1,h.2.1,h.2.2⟩
section
variable {D:Nat→Prop} {w:World} {ad:Option Addr} {cap:Nat} {zs ks:List ByteArray}
theorem run_append_row (ty:TypeId) (h:Row D w ad cap zs) {x:Value} (hx:Src Tryz.prog 1 38 x ks.length (txs ks) w) (hn:zs.length+ks.length≤1000000) :
 ∃ ad' cap' w',(Builtin.append_ #[38,38] ty #[.slice ad zs.length cap,x]).run Tryz.prog w=.ok (.slice ad' (zs.length+ks.length) cap') w' ∧
  Row (fun g=>D g∨w.heap.size≤g) w' ad' cap' (zs++ks)∧Keeps D w w':=by
 obtain ⟨i,hi,hz,hsz,hby⟩:=info_string
 have hx':Src Tryz.prog i.size 38 x ks.length (txs ks) w:=by rw [hsz];exact hx
 have hm:(1000000:Nat)≤maxLen:=by unfold maxLen;omega
 rcases Nat.lt_or_ge cap (zs.length+ks.length) with hg | hr
 ·have hold:(Builtin.firstCells i.size zs.length (.slice ad zs.length cap)).run Tryz.prog w.drew=.ok (txs zs).toArray w.drew:=by
   rcases Nat.eq_zero_or_pos cap with h0 | h0
   ·have hz0:zs=[]:=List.eq_nil_of_length_eq_zero (by have:=h.1;omega)
    subst hz0
    cases ad with
    | none=>exact run_firstCells_none w.drew _ _ _ _
    | some a=>exact run_firstCells_some w.drew _ _ a _ _ [] (by simp) (by simp)
   ·obtain ⟨g,off,cur,rfl,hD,hgb,hs,hc⟩:=h.2.2 h0
    refine run_firstCells_some w.drew _ _ _ _ _ _ (by rw [txs_len,hsz,Nat.mul_one]) (fun j u hu=>?_)
    have hj:j<zs.length:=by have:=lt_of_at hu;rwa [txs_len] at this
    rw [txs_at (List.getElem?_eq_getElem hj)] at hu
    cases hu
    rw [Addr.add_lit]
    have:w.drew.heap[g]? = some (.cells cur 9 (0,0)):=hgb
    rw [cell_of_block this]
    exact hc j _ (List.getElem?_eq_getElem hj)
  have hrun:=run_append_grow_src (P:=Tryz.prog) w 38 38 ty 9 i (.string ByteArray.empty) Tryz.underlying38 hi hz ad zs.length cap (txs zs) hold x ks.length (txs ks) hx' hg (by omega) (growslice_fits hg (by rw [hby];omega))
  have hge:=grownCap_ge w (zs.length+ks.length) cap 9
  have hcm:=grownCap_le_maxLen w (zs.length+ks.length) cap 9 (by omega)
  refine ⟨_,_,_,hrun,⟨by rw [List.length_append];exact hge,hcm,fun _=>⟨_,0,_,rfl,.inr (Nat.le_refl _),heap_alloc_new w.drew _,?_,fun j z hj=>?_⟩⟩,((Keeps.refl D w).drew).alloc _⟩
  ·rw [Array.size_append,List.size_toArray,size_zeroCells,List.length_append,txs_len,txs_len]
   simp [Value.cells]
   omega
  ·have hl:=lt_of_at hj
   rw [Nat.zero_add,Array.getElem?_append_left (by rw [List.size_toArray,List.length_append,txs_len,txs_len,← List.length_append];exact hl),List.getElem?_toArray]
   have:txs zs++txs ks=txs (zs++ks):=by simp [txs]
   rw [this]
   exact txs_at hj
 ·rcases Nat.eq_zero_or_pos cap with h0 | h0
  ·subst h0
   have hz0:zs=[]:=List.eq_nil_of_length_eq_zero (by omega)
   have hk0:ks=[]:=List.eq_nil_of_length_eq_zero (by omega)
   subst hz0 hk0
   exact ⟨ad,0,w,run_append_nothing (P:=Tryz.prog) w 38 38 ty 9 i Tryz.underlying38 hi ad 0 0 (Nat.le_refl _) x hx',Row.bare ad,Keeps.refl D w⟩
  ·obtain ⟨g,off,cur,rfl,hD,hgb,hs,hc⟩:=h.2.2 h0
   have hrun:=run_append_room_src (P:=Tryz.prog) w 38 38 ty 9 i Tryz.underlying38 hi g off zs.length cap x ks.length (txs ks) hx' hr
    (fun j hj=>by rw [hsz,Nat.mul_one,cell_of_block hgb];rw [txs_len] at hj;rw [Array.getElem?_eq_getElem (by omega)];rfl) (fun j _=>frozen_of_block hgb)
   rw [hsz,Nat.mul_one] at hrun
   obtain ⟨cur',b1,b2,b3,b4⟩:=setCells_block (txs ks) (off+zs.length) w cur hgb (by rw [txs_len];omega)
   refine ⟨_,_,_,hrun,⟨by rw [List.length_append];exact hr,h.2.1,fun _=>⟨g,off,cur',rfl,.inl hD,b1,by rw [b2];exact hs,fun j z hj=>?_⟩⟩,setCells_keeps hD _ _ w⟩
   by_cases hjz:j<zs.length
   ·rw [b3 _ (by omega)]
    rw [List.getElem?_append_left hjz] at hj
    exact hc j z hj
   ·rw [List.getElem?_append_right (by omega)] at hj
    have hl:=lt_of_at hj
    have:=b4 (j - zs.length) (by rw [txs_len];exact hl)
    rw [show off+zs.length+(j - zs.length)=off+j by omega] at this
    rw [this]
    exact txs_at hj
theorem wpList_append_row {ops:Array Oper} {rest:List Oper} {o:Oper} {a:Act} {Q:Exit→Act→World→Prop} (hgd:o.guard=none) (s x:Operand)
 (ho:o.op=.call { callee:=.builtin .append,args:=#[s,x],argTypes:=#[38,38] })
 (hs:a.eval s=.slice ad zs.length cap) (hrow:Row D w ad cap zs) {vx:Value} (hx:a.eval x=vx) (hsrc:Src Tryz.prog 1 38 vx ks.length (txs ks) w) (hn:zs.length+ks.length≤1000000)
 (h:∀ ad' cap' w',Row (fun g=>D g∨w.heap.size≤g) w' ad' cap' (zs++ks)→Keeps D w w'→wpList Tryz.prog ops Q rest (a.put o.dst (.slice ad' (zs.length+ks.length) cap')) w'):wpList Tryz.prog ops Q (o::rest) a w:=by
 refine wpList_plain hgd fun K hK=>?_
 obtain ⟨ad',cap',w',hrun,h2,h3⟩:=run_append_row o.type hrow hsrc hn
 unfold Oper.wp
 simp [execOp,ho,resolve,invoke,builtin,hs,hx,hrun,Result.andThen]
 exact hK _ _ (h ad' cap' w' h2 h3)
theorem step_append_row {ops:Array Oper} {o:Oper} {a:Act} {K:Act→World→Prop} {Q:Exit→Act→World→Prop} {E:Prop}
 (hg:o.guard=none) (s x:Operand) (hop:o.op=Op.call { callee:=Callee.builtin Builtin.append,args:=#[s,x],argTypes:=#[38,38] })
 (hs:a.eval s=.slice ad zs.length cap) (hrow:Row D w ad cap zs) {vx:Value} (hx:a.eval x=vx) (hsrc:Src Tryz.prog 1 38 vx ks.length (txs ks) w) (hn:zs.length+ks.length≤1000000)
 (hK:∀ ad' cap' w',Row (fun g=>D g∨w.heap.size≤g) w' ad' cap' (zs++ks)→Keeps D w w'→K (a.put o.dst (.slice ad' (zs.length+ks.length) cap')) w') :
 if Region.wanted o (yielded ops a.tmps)=true then Oper.wp Tryz.prog o a w K Q else E:=by
 have hw:Region.wanted o (yielded ops a.tmps)=true:=by simp [Region.wanted,hg]
 rw [if_pos hw]
 obtain ⟨ad',cap',w',hrun,h2,h3⟩:=run_append_row o.type hrow hsrc hn
 unfold Oper.wp
 simp [execOp,hop,resolve,invoke,builtin,hs,hx,hrun,Result.andThen]
 exact hK ad' cap' w' h2 h3
theorem src_one (w:World) (k:ByteArray):Src Tryz.prog 1 38 (.slice (some ⟨w.heap.size,0,none⟩) 1 1) 1 (txs [k]) (w.alloc (.cells #[.string k] 9)):=by
 refine Src.ofSlice _ Tryz.underlying38 _ 1 1 _ rfl (fun j u hu=>?_) (txs_one _)
 rw [Addr.add_lit,cell_of_block (heap_alloc_new w _)]
 simpa [txs] using hu
theorem src_at {w:World} {n:Nat} (k:ByteArray) (h:w.heap.size=n):Src Tryz.prog 1 38 (.slice (some ⟨n,0,none⟩) 1 1) 1 (txs [k]) (w.alloc (.cells #[.string k] 9)):=by
 subst h
 exact src_one w k
end
end Go.Proofs.YtkkkkiejnmpdkaaGreatDoor
namespace Go.Proofs.YtkkkkiejnmpdkaaGreatDoor.Ix
open Go.RowKit
def mstep (X s C:Nat):Nat:=(X ^^^ X / s)*C % 18446744073709551616
def mx (X:Nat):Nat :=
 mstep (mstep X 1073741824 13787848793156543929) 134217728 10723151780598845931 ^^^ mstep (mstep X 1073741824 13787848793156543929) 134217728 10723151780598845931 / 2147483648
theorem mstep_lt (X s C:Nat):mstep X s C<18446744073709551616:=Nat.mod_lt _ (by decide)
theorem xs_lt (X s:Nat) (h:X<18446744073709551616):X ^^^ X / s<18446744073709551616 :=
 Nat.xor_lt_two_pow (n:=64) h (Nat.lt_of_le_of_lt (Nat.div_le_self _ _) h)
theorem mx_lt (X:Nat):mx X<18446744073709551616:=xs_lt _ _ (mstep_lt _ _ _)
def hstep (h:Nat) (c:UInt8):Nat:=mx (((h ^^^ c.toNat)+11400714819323198485) % 18446744073709551616)
def hsh (seed n:Nat) (l:List UInt8):Nat:=l.foldl hstep (mx (seed ^^^ n))
theorem hstep_lt (h:Nat) (c:UInt8):hstep h c<18446744073709551616:=mx_lt _
theorem foldl_lt (l:List UInt8):∀ h,h<18446744073709551616→l.foldl hstep h<18446744073709551616:=by
 induction l with
 | nil=>intro h hh;exact hh
 | cons c r ih=>intro h _;exact ih _ (hstep_lt _ _)
theorem hsh_lt (seed n:Nat) (l:List UInt8):hsh seed n l<18446744073709551616:=foldl_lt _ _ (mx_lt _)
theorem hsh_snoc (seed n:Nat) (l:List UInt8) (c:UInt8):hsh seed n (l++[c])=hstep (hsh seed n l) c:=by
 unfold hsh;rw [List.foldl_append,List.foldl_cons,List.foldl_nil]
theorem hsh_nil (seed n:Nat) (l:List UInt8):hsh seed n (l.take 0)=mx (seed ^^^ n):=by
 unfold hsh;rw [List.take_zero,List.foldl_nil]
theorem mx_walk (X:Nat) (hX:X<18446744073709551616) :
 bits BinOp.xor IntKind.u64 (IntKind.u64.wrap (bits BinOp.xor IntKind.u64 (IntKind.u64.wrap (bits BinOp.xor IntKind.u64 (X:Int) ((X:Int) / 1073741824)*13787848793156543929)) (IntKind.u64.wrap (bits BinOp.xor IntKind.u64 (X:Int) ((X:Int) / 1073741824)*13787848793156543929) / 134217728)*10723151780598845931)) (IntKind.u64.wrap (bits BinOp.xor IntKind.u64 (IntKind.u64.wrap (bits BinOp.xor IntKind.u64 (X:Int) ((X:Int) / 1073741824)*13787848793156543929)) (IntKind.u64.wrap (bits BinOp.xor IntKind.u64 (X:Int) ((X:Int) / 1073741824)*13787848793156543929) / 134217728)*10723151780598845931) / 2147483648)=(mx X:Int):=by
 have e1:IntKind.u64.wrap (bits BinOp.xor IntKind.u64 (X:Int) ((X:Int) / 1073741824)*13787848793156543929)=(mstep X 1073741824 13787848793156543929:Int):=mixStep_u64 X 1073741824 13787848793156543929 hX
 rw [e1]
 have e2:IntKind.u64.wrap (bits BinOp.xor IntKind.u64 (mstep X 1073741824 13787848793156543929:Int) ((mstep X 1073741824 13787848793156543929:Int) / 134217728)*10723151780598845931)=(mstep (mstep X 1073741824 13787848793156543929) 134217728 10723151780598845931:Int):=mixStep_u64 (mstep X 1073741824 13787848793156543929) 134217728 10723151780598845931 (mstep_lt _ _ _)
 rw [e2]
 exact xorShift_u64 (mstep (mstep X 1073741824 13787848793156543929) 134217728 10723151780598845931) 2147483648 (mstep_lt _ _ _)
theorem mix_any (X:Nat) (w:World) (hX:X<18446744073709551616) :
 Calls Tryz.prog 218 #[.int .u64 X] w fun e w'=>e=.returned (.int .u64 (mx X))∧w'=w:=by
 go_enter Tryz.func218,Tryz.ntmps218
 go_wp2
 go_ret
 exact ⟨ret_int (mx_walk X hX),rfl⟩
def plc (h n:Int):Int:=if n<1 then 0 else h % n
theorem plc_no {h n:Int} (hn:n<1):plc h n=0:=by simp [plc,hn]
theorem plc_yes {h n:Int} (hn:¬ n<1):plc h n=h % n:=by simp [plc,hn]
theorem place_any (h n:Int) (w:World) (h0:0≤h) (h1:h<18446744073709551616) (hn:n≤9223372036854775807) :
 Calls Tryz.prog 205 #[.int .u64 h,.int .i64 n] w fun e w'=>e=.returned (.int .i64 (plc h n))∧w'=w:=by
 by_cases hc:n<1
 ·rw [plc_no hc]
  go_enter Tryz.func205,Tryz.ntmps205
  go_wp2
  go_ret
  exact ⟨rfl,rfl⟩
 ·rw [plc_yes hc]
  have b0:0≤h % n:=Int.emod_nonneg _ (by omega)
  have b1:h % n<n:=Int.emod_lt_of_pos _ (by omega)
  go_enter Tryz.func205,Tryz.ntmps205
  go_wp2
  go_ret
  exact ⟨rfl,rfl⟩
theorem take_snoc (s:ByteArray) (k:Nat) (h:k<s.size):s.data.toList.take (k+1)=s.data.toList.take k++[s[k]]:=by
 rw [List.take_succ_eq_append_getElem (by simpa using h)];rfl
theorem hstep_walk (H:Nat) (c:UInt8) (hH:H<18446744073709551616) :
 ∃ X:Nat,X<18446744073709551616∧IntKind.u64.wrap (bits BinOp.xor IntKind.u64 (H:Int) (c.toNat:Int)+11400714819323198485)=(X:Int)∧hstep H c=mx X:=by
 refine ⟨((H ^^^ c.toNat)+11400714819323198485) % 18446744073709551616,Nat.mod_lt _ (by decide),?_,by rw [hstep]⟩
 rw [bits_xor_u64_nat _ _ hH (Nat.lt_trans c.toNat_lt (by decide)),IntKind.wrap_u64]
 omega
theorem hash_any (S:Nat) (s:ByteArray) (w:World) (hS:S<18446744073709551616) (hs:s.size≤maxLen) :
 Calls Tryz.prog 206 #[.int .u64 S,.string s] w fun e w'=>e=.returned (.int .u64 (hsh S s.size s.data.toList))∧w'=w:=by
 unfold maxLen at hs
 have hx:S ^^^ s.size<18446744073709551616:=Nat.xor_lt_two_pow (n:=64) hS (by omega)
 have e0:=bits_xor_u64_nat S s.size hS (by omega)
 go_enter Tryz.func206,Tryz.ntmps206
 go_wp2_with (go_at_call 218;refine (mix_any _ _ hx).mono ?_;rintro e w' ⟨rfl,rfl⟩)
 clear e0
 go_loop [5,15] (fun h i=>∃ k:Nat,k≤s.size∧i=.int .i64 k∧h=.int .u64 (hsh S s.size (s.data.toList.take k))) (fun _ i=>s.size - (intOf i).toNat)
 case atStart=>exact ⟨0,Nat.zero_le _,rfl,by rw [hsh_nil]⟩
 case round =>
  obtain ⟨k,hk,rfl,rfl⟩:=hrel
  have hH:=hsh_lt S s.size (s.data.toList.take k)
  by_cases hlt:k<s.size
  ·have HS:Hid (hsh S s.size (s.data.toList.take (k+1))=hstep (hsh S s.size (s.data.toList.take k)) s[k]):=by rw [take_snoc s k hlt];exact hsh_snoc _ _ _ _
   generalize hsh S s.size (s.data.toList.take k)=H at *
   obtain ⟨X,hml,hst,hX⟩:=hstep_walk H s[k] hH
   rw [hX] at HS
   clear hX
   have hc:s[k].toNat<256:=s[k].toNat_lt
   go_wp2_with (go_at_call 218;refine (mix_any X _ hml).mono ?_;rintro e w' ⟨rfl,rfl⟩)
   go_round
   case rel=>exact ⟨k+1,by omega,by go_num,by rw [HS.out]⟩
   case measure=>simp [intOf];omega
  ·go_wp2
   go_ret
   exact ⟨ret_int (by rw [List.take_of_length_le (by simp;omega)]),rfl⟩
end Go.Proofs.YtkkkkiejnmpdkaaGreatDoor.Ix
namespace Go.Proofs.YtkkkkiejnmpdkaaGreatDoor
open Go.RowKit
theorem Keeps.setNew {D:Nat→Prop} {a w:World} (h:Keeps D a w) {p:Addr} (hp:a.heap.size≤p.block) (u:Value):Keeps D a (w.setCell p u) :=
 ⟨h.os,h.tape,h.output,by simpa [World.setCell] using h.size,fun k hk hn=>(Below.heap_setCell _ _ _ _ (by omega)).trans (h.block k hk hn)⟩
theorem Keeps.grown {D:Nat→Prop} {a w w':World} {row:Option Nat} (h:Keeps D a w) (hg:w.grownBy w' row) (hr:∀ k,row=some k→D k∨a.heap.size≤k):Keeps D a w' :=
 ⟨hg.os.trans h.os,hg.tape.trans h.tape,hg.output.trans h.output,Nat.le_trans h.size hg.size,fun k hk hn=>(hg.block k (Nat.lt_of_lt_of_le hk h.size) (fun e=>by rcases hr k e.symm with x | x;exact hn x;omega)).trans (h.block k hk hn)⟩
theorem Keeps.undrew {D:Nat→Prop} {w w':World} (h:Keeps D w.drew w'):Keeps D w w':=⟨h.os,h.tape,h.output,h.size,h.block⟩
theorem Row.kept2 {D D':Nat→Prop} {w w':World} {ad:Option Addr} {cap:Nat} {zs:List ByteArray} (h:Row D w ad cap zs) (hk:Keeps D' w w') (hd:∀ k,k<w.heap.size→D k→¬ D' k):Row D w' ad cap zs :=
 (h.narrow.kept hk (fun k e=>hd k e.2 e.1)).wide (fun _ _ e=>e.1)
end Go.Proofs.YtkkkkiejnmpdkaaGreatDoor
