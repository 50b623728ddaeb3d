/- Arc Eu: Iv Ah Aj Ca Ak Al Eu Ev Ey -/
import Derived.Test.YtkkkkiejnmpdkaaGreatDoorAg
import Derived.Test.YtkkkkiejnmpdkaaGreatDoorArcEf
import Derived.Test.YtkkkkiejnmpdkaaGreatDoorArcEo
import Derived.StillTail
import Derived.WalkKit
import Derived.Deep.LoopGhost
import Derived.Deep.CutRange
namespace Go.Proofs.YtkkkkiejnmpdkaaGreatDoor.Arc
open Go.RowKit
section
variable {P:Program} {ops:Array Oper} {Q:Exit→Act→World→Prop}
def unl (m:Nat) (listed:Array Bool):Nat:=(List.range m).countP (fun i=>!listed.getD i true)
theorem unl_set {m i:Nat} {listed:Array Bool} (hi:i<m) (h:listed.getD i true=false):unl m (listed.setIfInBounds i true)<unl m listed:=by
 have hs:i<listed.size:=by
  rcases Nat.lt_or_ge i listed.size with h1 | h1
  ·exact h1
  ·simp [Array.getElem?_eq_none h1] at h
 have e1:(listed.setIfInBounds i true).getD i true=true:=by simp [hs]
 unfold unl
 obtain ⟨a,b,hab⟩:=List.append_of_mem (List.mem_range.2 hi)
 have hnd:(List.range m).Nodup:=List.nodup_range
 rw [hab] at hnd ⊢
 have hperm:=List.perm_middle.nodup_iff.1 hnd
 rw [List.nodup_cons] at hperm
 have hsame:∀ l:List Nat,i∉l→l.countP (fun j=>!(listed.setIfInBounds i true).getD j true)=l.countP (fun j=>!listed.getD j true):=by
  intro l hl
  apply List.countP_congr
  intro j hj
  rw [getD_set_ne true (by rintro rfl;exact hl hj)]
 have ha:i∉a:=fun h=>hperm.1 (by simp [h])
 have hb:i∉b:=fun h=>hperm.1 (by simp [h])
 rw [List.countP_append,List.countP_cons,List.countP_append,List.countP_cons,hsame a ha,hsame b hb,e1,h]
 simp
def Iv (dst:Nat→Nat) (F:Nat→Value→World→Prop) (C:Act→World→Prop) (listed:Array Bool) (a:Act) (w:World):Prop :=
 C a w∧∀ j,listed.getD j false=true→F j (a.tmps.getD (dst j) undef) w
def Shutd (ops:Array Oper) (listed:Array Bool):Prop:=∀ k,listed.getD k false=true→∀ j,Region.waitsFor .any ops k j=true→listed.getD j false=true
theorem put_far {a:Act} {d k:Nat} {v:Value} (h:d≠k):(a.put (some d) v).tmps.getD k undef=a.tmps.getD k undef:=by
 simp [Act.put,Array.getElem?_setIfInBounds_ne h]
theorem put_here {a:Act} {d:Nat} {v:Value} (h:d<a.tmps.size):(a.put (some d) v).tmps.getD d undef=v:=by
 simp [Act.put,h]
theorem lex_of (h:((List.range ops.size).all fun i=>match ops[i]? with | some o=>o.after.all (fun e=>!Region.binds .any e || decide (e.on<i)) | none=>true)=true) :
 ∀ (i:Nat) (o:Oper),ops[i]? = some o→∀ e∈o.after,Region.binds .any e=true→e.on<i:=by
 intro i o ho e he hb
 have h1:=List.all_eq_true.1 h i (List.mem_range.2 (Array.getElem?_eq_some_iff.1 ho).1)
 rw [ho] at h1
 have h2:=Array.all_eq_true'.1 h1 e he
 rw [hb] at h2
 simpa using h2
theorem wait_of {m:Nat} (h:Region.sinkB .any ops m=true):∀ i,i<m→∃ j,i<j∧j≤m∧Region.waitsFor .any ops j i=true:=by
 intro i hi
 unfold Region.sinkB at h
 have h1:=List.all_eq_true.1 h i (List.mem_range.2 hi)
 obtain ⟨j,hj,hb⟩:=List.any_eq_true.1 h1
 simp only [Bool.and_eq_true,decide_eq_true_eq] at hb
 have:=List.mem_range.1 hj
 exact ⟨j,hb.1,by omega,hb.2⟩
end
end Go.Proofs.YtkkkkiejnmpdkaaGreatDoor.Arc
namespace Go.Proofs.YtkkkkiejnmpdkaaGreatDoor.Arc
open Go.RowKit
def inb (key:ByteArray) (zs:List ByteArray):Bool:=decide (0<A.cnt key zs)
theorem inb_yes {key:ByteArray} {zs:List ByteArray} (h:key∈zs):inb key zs=true:=by
 unfold inb
 rw [decide_eq_true_eq]
 exact A.cnt_pos.2 h
theorem inb_no {key:ByteArray} {zs:List ByteArray} (h:key∉zs):inb key zs=false:=by
 unfold inb
 rw [decide_eq_false_iff_not,A.cnt_zero.2 h]
 omega
section
variable {D:Nat→Prop} {w w':World} {e b:Nat} {s:Stt}
set_option maxHeartbeats 1000000 in
theorem has_any (H:AE e b s D w) (hb:b≤900000) (key:ByteArray) (hk:key.size≤1000) :
 Calls Tryz.prog 172 #[.pointer (some ⟨e,0,none⟩),.string key] w fun ee w'=>ee=.returned (.bool (inb key (A.keys s)))∧Below w.heap.size w w':=by
 obtain ⟨x,c6,hx⟩:=EN.get H hb key hk
 have HE:Hid (AE e b s D w):=H
 have heo:=(EN.cells H).2.2.2.1
 clear H
 rcases hx with ⟨hn,hf⟩ | ⟨i,h,hi,hin,hot,hf⟩
 ·have HN:Hid (key∉A.keys s):=by
   show key∉A.keys s
   have h0:=hn 0 (by omega);have h1:=hn 1 (by omega)
   unfold A.keys
   rw [List.mem_append]
   exact fun h=>h.elim h0 h1
  have HF:Hid _:=hf
  clear hn hf
  go_enter Tryz.func172,Tryz.ntmps172
  go_wp2_with (first
   | (go_at_call 179;refine (blank_any HE.out).mono ?_;rintro ee w1 ⟨rfl,rfl⟩)
   | (go_at_call 180;refine (HF.out _ (Below.refl _ _)).mono ?_;rintro ee w2 ⟨rfl,hb2⟩;have hb2':Below w1.heap.size w1 (w2.alloc (.cells #[.int .i64 0,.int .i64 0] 79)):=hb2.alloc hb2.size _))
  go_ret
  exact ⟨by rw [inb_no HN.out];rfl,hb2'⟩
 ·have HK0:(decide (i<2)=true)↔key∈A.keys s:=by
   unfold A.keys
   rw [List.mem_append,decide_eq_true_eq]
   constructor
   ·intro h2
    have:i=0∨i=1:=by omega
    rcases this with e1 | e1 <;> subst e1
    ·exact .inl hin
    ·exact .inr hin
   ·intro h2
    rcases Nat.lt_or_ge i 2 with h3 | h3
    ·exact h3
    ·exfalso
     rcases h2 with h4 | h4
     ·exact hot 0 (by omega) (by omega) h4
     ·exact hot 1 (by omega) (by omega) h4
  have HK:Hid (decide (((i,h):Ix.Sp).1<2)=inb key (A.keys s)):=by
   show decide (i<2)=inb key (A.keys s)
   by_cases hm:key∈A.keys s
   ·rw [inb_yes hm];exact HK0.2 hm
   ·rw [inb_no hm]
    cases hd:decide (i<2) with
    | true=>exact absurd (HK0.1 hd) hm
    | false=>rfl
  have HF:Hid _:=hf
  clear hot hf hin HK0
  go_enter Tryz.func172,Tryz.ntmps172
  go_wp2_with (first
   | (go_at_call 179;refine (blank_any HE.out).mono ?_;rintro ee w1 ⟨rfl,rfl⟩)
   | (go_at_call 180;refine (HF.out _ (Below.refl _ _)).mono ?_;rintro ee w2 ⟨rfl,hb2⟩;have hb2':Below w1.heap.size w1 (w2.alloc (.cells #[.int .i64 (i:Nat),.int .i64 (h:Nat)] 79)):=hb2.alloc hb2.size _)
   | (go_at_call 183;refine (resident_any (i,h)).mono ?_;rintro ee w3 ⟨rfl,hb3⟩;have hb3':=below_trans hb2' hb3))
  go_ret
  exact ⟨by rw [← HK.out];rfl,hb3'⟩
end
end Go.Proofs.YtkkkkiejnmpdkaaGreatDoor.Arc
namespace Go.Proofs.YtkkkkiejnmpdkaaGreatDoor.Arc
open Go.RowKit Go.ChangeShapes Go.WideShapes
section
variable {P:Program} {ops:Array Oper} {Q:Exit→Act→World→Prop}
def fillA (b:Nat) (val:Nat→Value):Nat→Act→Act
 | 0,a=>a
 | n+1,a=>(fillA b val n a).put (some (b+n)) (val n)
theorem fillA_defers (b:Nat) (val:Nat→Value) (n:Nat) (a:Act):(fillA b val n a).defers=a.defers:=by
 induction n with
 | zero=>rfl
 | succ n ih=>simpa [fillA,Act.put] using ih
theorem fillA_size (b:Nat) (val:Nat→Value) (n:Nat) (a:Act):(fillA b val n a).tmps.size=a.tmps.size:=by
 induction n with
 | zero=>rfl
 | succ n ih=>simpa [fillA,Act.put] using ih
theorem fillA_at (b:Nat) (val:Nat→Value) (n:Nat) (a:Act) (k:Nat) (hk:b+n≤a.tmps.size):(fillA b val n a).tmps.getD k undef=if b≤k∧k<b+n then val (k - b) else a.tmps.getD k undef:=by
 induction n with
 | zero=>rw [if_neg (by omega)];rfl
 | succ n ih =>
   by_cases e:b+n=k
   ·subst e
    show ((fillA b val n a).put (some (b+n)) (val n)).tmps.getD (b+n) undef=_
    rw [put_here (by rw [fillA_size];omega),if_pos (by omega)]
    congr 1;omega
   ·show ((fillA b val n a).put (some (b+n)) (val n)).tmps.getD k undef=_
    rw [put_far e,ih (by omega)]
    by_cases h:b≤k∧k<b+n
    ·rw [if_pos h,if_pos (by omega)]
    ·rw [if_neg h,if_neg (by omega)]
def Still (b m:Nat) (a0 a:Act):Prop:=a.defers=a0.defers∧a.tmps.size=a0.tmps.size∧∀ k,k<b∨b+m<k→a.tmps.getD k undef=a0.tmps.getD k undef
theorem Still.put {b m i:Nat} {a0 a:Act} {v:Value} (h:Still b m a0 a) (hi:i≤m):Still b m a0 (a.put (some (b+i)) v) :=
 ⟨by simpa [Act.put] using h.1,by simpa [Act.put] using h.2.1,fun k hk=>by rw [put_far (by omega)];exact h.2.2 k hk⟩
theorem act_ext {a b:Act} (h1:a.tmps.size=b.tmps.size) (h2:∀ k,k<a.tmps.size→a.tmps.getD k undef=b.tmps.getD k undef) (h3:a.defers=b.defers):a=b:=by
 obtain ⟨t,d⟩:=a
 obtain ⟨t',d'⟩:=b
 simp only at h1 h2 h3
 subst h3
 congr 1
 apply Array.ext h1
 intro i hi hj
 have:=h2 i hi
 simpa [hi,hj] using this
end
theorem still_op {P:Program} {ops:Array Oper} {Q:Exit→Act→World→Prop} {i:Nat} {o:Oper} {K:Act→World→Prop} {a:Act} {W:World} (ho:ops[i]? = some o) (hg:o.guard=none) (h:o.wp P a W K Q):wpOp P ops Q i K a W:=by
 unfold wpOp
 rw [ho]
 simp only [Region.wanted,hg,if_true]
 exact .inl h
theorem still_on {P:Program} {ops:Array Oper} {Q:Exit→Act→World→Prop} {i j d:Nat} {b:Bool} {o oj:Oper} {K:Act→World→Prop} {a:Act} {W:World} (ho:ops[i]? = some o) (hg:o.guard=some (j,b)) (hj:ops[j]? = some oj) (hd:oj.dst=some d) (hv:a.tmps.getD d undef=.bool b) (h:o.wp P a W K Q):wpOp P ops Q i K a W:=by
 unfold wpOp
 rw [ho]
 have:Region.wanted o (yielded ops a.tmps)=true:=by
  simp only [Region.wanted,hg,yielded,hj,hd,Option.bind_some]
  cases hx:a.tmps[d]? with
  | none=>rw [Array.getD_eq_getD_getElem?,hx] at hv;cases hv
  | some v=>rw [Array.getD_eq_getD_getElem?,hx] at hv;simp at hv;subst hv;simp
 simp only [this,if_true]
 exact .inl h
theorem still_off {P:Program} {ops:Array Oper} {Q:Exit→Act→World→Prop} {i j d di:Nat} {b:Bool} {o oj:Oper} {K:Act→World→Prop} {a:Act} {W:World} (ho:ops[i]? = some o) (hg:o.guard=some (j,b)) (hj:ops[j]? = some oj) (hd:oj.dst=some d) (hv:a.tmps.getD d undef=.bool (!b)) (hdi:o.dst=some di) (h:K (a.put (some di) undef) W):wpOp P ops Q i K a W:=by
 unfold wpOp
 rw [ho]
 have:Region.wanted o (yielded ops a.tmps)=false:=by
  simp only [Region.wanted,hg,yielded,hj,hd,Option.bind_some]
  cases hx:a.tmps[d]? with
  | none=>rw [Array.getD_eq_getD_getElem?,hx] at hv;cases hv
  | some v=>rw [Array.getD_eq_getD_getElem?,hx] at hv;simp at hv;subst hv;cases b <;> simp
 simp only [this,Bool.false_eq_true,if_false]
 rw [hdi]
 exact h
theorem Still.at {b m:Nat} {a0 a:Act} (h:Still b m a0 a) (k:Nat) (hk:k<b∨b+m<k):a.tmps[k]?.getD undef=a0.tmps[k]?.getD undef:=by
 have:=h.2.2 k hk
 simpa using this
end Go.Proofs.YtkkkkiejnmpdkaaGreatDoor.Arc
namespace Go.Proofs.YtkkkkiejnmpdkaaGreatDoor.Arc
open Go.RowKit
def allOf (Q:Nat→List ByteArray) (is:List Nat):List ByteArray:=is.flatMap Q
theorem allOf_more {Q:Nat→List ByteArray} {is:List Nat} {j i:Nat} (hj:is[j]? = some i):allOf Q (is.take (j+1))=allOf Q (is.take j)++Q i:=by
 unfold allOf
 rw [List.take_add_one,hj]
 simp
section
variable {D:Nat→Prop} {w:World} {e b:Nat} {s:Stt}
theorem allOf_len (H:AE e b s D w) {is:List Nat} (his:∀ i∈is,i<4):(allOf (qs s) is).length≤is.length*b:=by
 induction is with
 | nil=>simp [allOf]
 | cons i is ih =>
   have h1:=EN.lens H (his i (by simp))
   have h2:=ih (fun j hj=>his j (by simp [hj]))
   simp only [allOf,List.flatMap_cons,List.length_append,List.length_cons,Nat.add_mul] at h2 ⊢
   omega
def Cells (w:World) (ad:Option Addr) (ga:Nat) (zs:List ByteArray):Prop:=∀ j k,zs[j]? = some k→ad=some ⟨ga,0,none⟩∧w.cell? ⟨ga,j,none⟩=some (.string k)
theorem Cells.of {W w':World} {ad:Option Addr} {cap ge:Nat} {zs:List ByteArray} (h:w'.ownsRow W.heap.size 9 1 (.slice ad zs.length cap) zs.length (zs.map Value.string)) (hge:ge<W.heap.size) (hs:W.heap.size≤w'.heap.size):∃ ga,Cells w' ad ga zs∧ga<w'.heap.size∧(ga=ge∨W.heap.size≤ga):=by
 cases zs with
 | nil=>exact ⟨ge,fun j k hj=>by simp at hj,by omega,.inl rfl⟩
 | cons z zs =>
   obtain ⟨g,cur,rfl,hb,hg,hc⟩:=Ls.ownsRow_block h (by simp)
   exact ⟨g,fun j k hj=>⟨rfl,hc j _ (by rw [List.getElem?_map,hj];rfl)⟩,lt_of_block hg,.inr hb⟩
theorem Cells.keeps {E:Nat→Prop} {W w':World} {ad:Option Addr} {ga:Nat} {zs:List ByteArray} (h:Cells W ad ga zs) (hk:Keeps E W w') (hg:ga<W.heap.size) (hE:¬ E ga):Cells w' ad ga zs :=
 fun j k hj=>⟨(h j k hj).1,by rw [World.cell?_of_block (hk.block ga hg hE)];exact (h j k hj).2⟩
theorem make_row (n:Nat) (hn:n≤1000000):∃ cs:Array Value,cs.size=n∧∀ W:World,(Instr.makeSlice 38 (.int .i64 0) (.int .i64 (n:Nat))).run Tryz.prog W=.ok (.slice (some ⟨W.heap.size,0,none⟩) 0 n) (W.alloc (.cells cs 9)):=by
 obtain ⟨i0,hi,hz0,hz1,hz2⟩:=info_string
 refine ⟨madeCells (Value.string ByteArray.empty).cells (n*1),by simp [madeCells],fun W=>?_⟩
 have h:=run_make (P:=Tryz.prog) W 38 9 i0 _ Tryz.underlying38 hi hz0 .i64 .i64 0 (n:Int) (by omega) (by omega) (by rw [hz2];omega) (by omega)
 rw [hz1] at h
 simpa using h
set_option maxRecDepth 100000 in
set_option maxHeartbeats 1000000 in
theorem copies_any (H:AE e b s D w) (hb:b≤100000) {g:Nat} {is:List Nat} (hg:IntsAt w g is) (his:∀ i∈is,i<4) (hl:is.length≤4) :
 Calls Tryz.prog 188 #[.pointer (some ⟨e,0,none⟩),.slice (some ⟨g,0,none⟩) is.length is.length] w fun ee w'=>∃ ad cap,ee=.returned (.slice ad (allOf (qs s) is).length cap)∧Row (w.heap.size≤·) w' ad cap (allOf (qs s) is)∧Below w.heap.size w w':=by
 have HE:Hid (AE e b s D w):=H
 have H0:EN D w e s.c s.p (qs s) b:=H
 have HG:Hid (IntsAt w g is):=hg
 have HEo:Hid (e<w.heap.size):=(EN.cells H).2.2.2.1
 have HI:Hid (∀ i∈is,i<4):=his
 clear H hg his
 have hcnt:=count_any H0 (by omega) HG.out HI.out hl
 have htl:=total_le H0 HI.out
 have htl2:is.length*b≤4*100000:=Nat.mul_le_mul hl hb
 clear H0
 generalize total (qs s) is=tt at *
 obtain ⟨cs,hcs,hmk⟩:=make_row tt (by omega)
 have HCs:Hid (cs.size=tt):=hcs
 clear hcs
 go_enter Tryz.func188,Tryz.ntmps188
 go_wp2_with (go_at_call 187;refine Calls.mono hcnt ?_;clear hcnt;rintro ee w ⟨rfl,rfl⟩)
 go_loopw [5,16] (fun v i wr=>∃ (k:Nat) (ad:Option Addr) (cp:Nat),k≤is.length∧i=.int .i64 k∧v=.slice ad (allOf (qs s) (is.take k)).length cp∧Row (w.heap.size≤·) wr ad cp (allOf (qs s) (is.take k))∧Below w.heap.size w wr) (fun _ i _=>is.length - (intOf i).toNat)
 case atStart=>exact ⟨0,_,_,Nat.zero_le _,rfl,rfl,⟨Nat.zero_le _,by unfold maxLen;omega,fun _=>⟨_,0,cs,rfl,Nat.le_refl _,heap_alloc_new _ _,by rw [HCs.out];omega,fun i z hz=>by simp [allOf] at hz⟩⟩,(Below.refl _ _).alloc (Nat.le_refl _) _⟩
 case round =>
  obtain ⟨k,ad,cp,hk,rfl,rfl,hrow,hB⟩:=hrel
  have HRow:Hid (Row (w.heap.size≤·) wr ad cp (allOf (qs s) (is.take k))):=hrow
  have HB:Hid (Below w.heap.size w wr):=hB
  have hTl:(allOf (qs s) (is.take k)).length≤400000:=by
   have h1:=allOf_len HE.out (is:=is.take k) (fun i hi=>HI.out i (List.mem_of_mem_take hi))
   have h2:(is.take k).length*b≤4*100000:=Nat.mul_le_mul (by simp;omega) hb
   omega
  rcases Nat.lt_or_ge k is.length with hlt | hge
  ·obtain ⟨i,hi⟩:∃ i,is[k]? = some i:=⟨_,List.getElem?_eq_getElem hlt⟩
   have hi3:=HI.out i (List.mem_of_getElem? hi)
   have hgb:IntsAt wr g is:=(hB.block g (lt_of_block HG.out)).trans HG.out
   have ci:=hgb.at hi
   obtain ⟨pr,-,hall⟩:=EN.all HE.out (by omega) hi3
   obtain ⟨cr,hall⟩:=hall wr hB
   have HAll:Hid _:=hall
   have heo:=(EN.cells (EN.below HE.out hB)).2.2.2.1
   have HM:Hid (allOf (qs s) (is.take (k+1))=allOf (qs s) (is.take k)++qs s i):=allOf_more hi
   have hqs:∀ x∈qs s i,x.size≤1000:=fun x hx=>EN.size HE.out hi3 hx
   have HQs:Hid _:=hqs
   have hql:(qs s i).length≤100000:=Nat.le_trans (EN.lens HE.out hi3) hb
   clear hrow hB hi hgb hall hqs
   generalize allOf (qs s) (is.take k)=T at *
   generalize qs s i=R at *
   go_wp2_with (go_at_call 192;refine Calls.mono HAll.out ?_;rintro ee w3 ⟨a3,c3,rfl,hown3,hb3⟩;obtain ⟨ga,hc3,hg3,hg4⟩:=Cells.of hown3 heo hb3.size;have HC3:Hid (Cells w3 a3 ga R):=hc3;have HB3:Hid (Below w.heap.size w w3):=(below_trans' HB.out hb3);have HR3:Hid (Row (fun x=>w.heap.size≤x∧x≠ga) w3 ad cp T):=((HRow.out.narrow.below hb3).wide (fun x _ hx=>⟨hx.1,fun e=>by have h1:=HEo.out;have h2:=hx.1;have h3:=hx.2;rcases hg4 with h | h <;> omega⟩));have HGa:Hid (ga<w3.heap.size):=hg3;clear hown3 hb3 hc3 hg3 hg4)
   go_loopw [5,28] (fun v i wx=>∃ (j:Nat) (ad4:Option Addr) (cp4:Nat),j≤R.length∧i=.int .i64 j∧v=.slice ad4 (T++R.take j).length cp4∧Row (fun x=>w.heap.size≤x∧x≠ga) wx ad4 cp4 (T++R.take j)∧Cells wx a3 ga R∧Below w.heap.size w wx∧w3.heap.size≤wx.heap.size) (fun _ i _=>R.length - (intOf i).toNat)
   case atStart=>exact ⟨0,ad,cp,Nat.zero_le _,rfl,by simp,by simpa using HR3.out,HC3.out,HB3.out,Nat.le_refl _⟩
   case round =>
    obtain ⟨j,ad4,cp4,hj,rfl,rfl,hr4,hc4,hb4,hs4⟩:=hrel
    have HR4:Hid (Row (fun x=>w.heap.size≤x∧x≠ga) wr ad4 cp4 (T++R.take j)):=hr4
    have HC4:Hid (Cells wr a3 ga R):=hc4
    have HB4:Hid (Below w.heap.size w wr):=hb4
    have hTj:(T++R.take j).length≤999999:=by simp;omega
    clear hr4 HC3 HB3 HR3 hb4
    rcases Nat.lt_or_ge j R.length with hlj | hgj
    ·obtain ⟨key,hkey⟩:∃ key,R[j]? = some key:=⟨_,List.getElem?_eq_getElem hlj⟩
     obtain ⟨rfl,ck⟩:=hc4 j key hkey
     have hks:key.size≤1000:=HQs.out key (List.mem_of_getElem? hkey)
     have HT:Hid (T++R.take (j+1)=T++R.take j++[key]):=by
      show T++R.take (j+1)=T++R.take j++[key]
      rw [List.take_add_one,hkey]
      simp
     clear hc4 hkey
     generalize T++R.take j=U at *
     go_wp2_with (first
      | (go_at_call 197;refine (Ix.clone_any key hks _).mono ?_;rintro ee w5 ⟨rfl,hb5⟩;have HR5:Hid (Row (fun x=>w.heap.size≤x∧x≠ga) w5 ad4 cp4 U):=(HR4.out.below hb5);have HC5:Hid (Cells w5 (some ⟨ga,0,none⟩) ga R):=(HC4.out.keeps (E:=fun _=>False) (.of_below hb5) (Nat.lt_of_lt_of_le HGa.out hs4) (fun h=>h));have HB5:Hid (Below w.heap.size w w5):=(below_trans' HB4.out hb5);have hs5:w3.heap.size≤w5.heap.size:=(Nat.le_trans hs4 hb5.size);clear hb5)
      | (at_builtin;go_must (refine wpList_append_row (ks:=[key]) rfl _ _ rfl rfl (HR5.out.below ((Below.refl _ _).alloc (Nat.le_refl _) _)) rfl (src_one _ key) (by simp;omega) ?_);intro a6 n6 w6 hr6 hk6;have HB6:Hid (Below w.heap.size w w6):=((((Keeps.of_below (D:=fun x=>w.heap.size≤x) HB5.out).alloc _).trans (hk6.mono (fun _ _ h=>h.1))).below (Nat.le_refl _) (fun _ h=>h));have hs6:w3.heap.size≤w6.heap.size:=(Nat.le_trans hs5 (Nat.le_trans (by simp) hk6.size));have HR6:Hid (Row (fun x=>w.heap.size≤x∧x≠ga) w6 a6 n6 (U++[key])):=(hr6.wide (fun x _ h=>by rcases h with h | h;exact h;exact ⟨Nat.le_trans HB5.out.size (Nat.le_trans (by simp) h),fun e=>by have:=HGa.out;simp at h;omega⟩));have HC6:Hid (Cells w6 (some ⟨ga,0,none⟩) ga R):=((HC5.out.keeps (E:=fun _=>False) ((Keeps.refl _ _).alloc _) (Nat.lt_of_lt_of_le HGa.out hs5) (fun h=>h)).keeps hk6 (Nat.lt_of_lt_of_le (Nat.lt_of_lt_of_le HGa.out hs5) (by simp)) (fun h=>h.2 rfl));clear hr6 hk6))
     go_roundw
     case rel=>exact ⟨j+1,a6,n6,hlj,by go_num,by rw [HT.out];simp,by rw [HT.out];exact HR6.out,HC6.out,HB6.out,hs6⟩
     case measure=>simp [intOf];omega
    ·have hj':j=R.length:=by omega
     subst hj'
     rw [List.take_length] at *
     clear hc4
     go_wp2_with fail
     go_roundw
     case rel=>exact ⟨k+1,ad4,cp4,hlt,by go_num,by rw [HM.out],by rw [HM.out];exact HR4.out.wide (fun _ _ h=>h.1),HB4.out⟩
     case measure=>simp [intOf];omega
  ·have hk':k=is.length:=by omega
   subst hk'
   rw [List.take_length] at *
   clear hrow hB
   go_wp2_with fail
   go_ret
   exact ⟨ad,cp,rfl,HRow.out,HB.out⟩
theorem ints_two (w:World) (i j:Nat):IntsAt (w.alloc (.cells #[.int .i64 (i:Nat),.int .i64 (j:Nat)] 3)) w.heap.size [i,j]:=heap_alloc_new w _
theorem ghostsE_any (H:AE e b s D w) (hb:b≤100000) :
 Calls Tryz.prog 171 #[.pointer (some ⟨e,0,none⟩)] w fun ee w'=>∃ ad cap,ee=.returned (.slice ad (A.ghosts s).length cap)∧Row (w.heap.size≤·) w' ad cap (A.ghosts s)∧Below w.heap.size w w':=by
 have HE:Hid (AE e b s D w):=H
 have hc:Calls Tryz.prog 188 #[.pointer (some ⟨e,0,none⟩),.slice (some ⟨w.heap.size,0,none⟩) 2 2] (w.alloc (.cells #[.int .i64 2,.int .i64 3] 3)) fun ee w'=>∃ ad cap,ee=.returned (.slice ad (A.ghosts s).length cap)∧Row ((w.alloc (.cells #[.int .i64 2,.int .i64 3] 3)).heap.size≤·) w' ad cap (A.ghosts s)∧Below (w.alloc (.cells #[.int .i64 2,.int .i64 3] 3)).heap.size (w.alloc (.cells #[.int .i64 2,.int .i64 3] 3)) w':=by
  have:=copies_any (H.below ((Below.refl _ w).alloc (Nat.le_refl _) (.cells #[.int .i64 2,.int .i64 3] 3))) hb (ints_two w 2 3) (by simp) (by simp)
  have e1:allOf (qs s) [2,3]=A.ghosts s:=by simp [allOf,qs,A.ghosts]
  rw [e1] at this
  exact this
 clear H
 go_enter Tryz.func171,Tryz.ntmps171
 go_wp2_with (first
  | (go_at_call 179;refine (blank_any HE.out).mono ?_;rintro ee w1 ⟨rfl,rfl⟩)
  | (go_at_call 188;refine Calls.mono hc ?_;clear hc;rintro ee w2 ⟨ad,cap,rfl,hr,hb2⟩))
 go_ret
 exact ⟨ad,cap,rfl,hr.wide (fun k _ h=>by simp at h;omega),below_trans' ((Below.refl _ _).alloc (Nat.le_refl _) _) hb2⟩
end
end Go.Proofs.YtkkkkiejnmpdkaaGreatDoor.Arc
namespace Go.Proofs.YtkkkkiejnmpdkaaGreatDoor.Arc
open Go.RowKit
section
variable {P:Program} {ops:Array Oper} {Q:Exit→Act→World→Prop}
theorem wpAny_low (m:Nat) (hn:ops.size=m+1) (dst:Nat→Nat) (F:Nat→Value→World→Prop) (C:Act→World→Prop)
 (hlex:∀ (i:Nat) (o:Oper),ops[i]? = some o→∀ e∈o.after,Region.binds .any e=true→e.on<i)
 (hwait:∀ i,i<m→∃ j,i<j∧j≤m∧Region.waitsFor .any ops j i=true)
 (hinj:∀ i j,i<m→j<m→i≠j→dst i≠dst j) (hlt:∀ a w,C a w→∀ i,i<m→dst i<a.tmps.size)
 (hstep:∀ i,i<m→∀ a w,C a w→(∀ j,Region.waitsFor .any ops i j=true→F j (a.tmps.getD (dst j) undef) w) →
   wpOp P ops Q i (fun a1 w1=>∃ v,a1=a.put (some (dst i)) v∧C a1 w1∧F i v w1∧∀ j u,F j u w→F j u w1) a w)
 (hlast:∀ a w,C a w→(∀ j,j<m→F j (a.tmps.getD (dst j) undef) w)→wpOp P ops Q m (fun a' w'=>Q .normal a' w') a w) :
 ∀ (fuel:Nat) (listed:Array Bool) (a:Act) (w:World),listed.size=m+1→unl (m+1) listed≤fuel→listed.getD m true=false→Shutd ops listed→Iv dst F C listed a w→wpAny P .any ops Q fuel listed a w
 | 0,listed,a,w,hsz,hf,hm,_,_=>by
   exfalso
   unfold unl at hf
   have:=List.countP_eq_zero.1 (Nat.le_zero.1 hf) m (by simp)
   rw [hm] at this
   simp at this
 | fuel+1,listed,a,w,hsz,hf,hm,hS,hI=>by
   refine ⟨fun h0=>?_,fun i hi=>?_⟩
   ·exfalso
    obtain ⟨i,hi,hmin⟩:∃ i,listed.getD i true=false∧∀ k,k<i→listed.getD k true=true:=by
     have:∀ n,listed.getD n true=false→∃ i,listed.getD i true=false∧∀ k,k<i→listed.getD k true=true:=by
      intro n
      induction n using Nat.strongRecOn with
      | _ n ih =>
        intro h
        by_cases hx:∃ k,k<n∧listed.getD k true=false
        ·obtain ⟨k,h1,h2⟩:=hx
         exact ih k h1 h2
        ·refine ⟨n,h,fun k hk=>?_⟩
         cases hv:listed.getD k true with
         | true=>rfl
         | false=>exact absurd ⟨k,hk,hv⟩ hx
     exact this m hm
    have hil:i<listed.size:=by
     rcases Nat.lt_or_ge i listed.size with h1 | h1
     ·exact h1
     ·simp [Array.getElem?_eq_none h1] at hi
    have hio:ops[i]? = some ops[i]:=Array.getElem?_eq_getElem (by omega)
    have:i∈Region.ready .any ops listed:=mem_ready.2 ⟨hi,_,hio,fun e he hb=>by
     have h1:=hlex i _ hio e he hb
     have h2:=hmin e.on h1
     have h3:e.on<listed.size:=by omega
     simp [h3] at h2 ⊢
     exact h2⟩
    rw [h0] at this
    cases this
   ·obtain ⟨hi0,oi,hoi,hall⟩:=mem_ready.1 hi
    have him:i<m+1:=by
     have:=(Array.getElem?_eq_some_iff.1 hoi).1
     omega
    have hdep:∀ j,Region.waitsFor .any ops i j=true→listed.getD j false=true:=fun j hj=>by
     obtain ⟨oj,hoj,e,he,hb,rfl⟩:=Region.waitsFor_spec hj
     have:oj=oi:=Option.some.inj (hoj.symm.trans hoi)
     subst this
     exact hall e he hb
    rcases Nat.lt_or_ge i m with h1 | h1
    ·refine wpOp_mono ?_ (hstep i h1 a w hI.1 (fun j hj=>hI.2 j (hdep j hj)))
     rintro _ w' ⟨v,rfl,hC,hF,hmo⟩
     refine wpAny_low m hn dst F C hlex hwait hinj hlt hstep hlast fuel _ _ _ (by simpa using hsz) ?_ ?_ ?_ ⟨hC,fun j hj=>?_⟩
     ·have:=unl_set him hi0
      omega
     ·rw [getD_set_ne true (by omega)]
      exact hm
     ·intro k hk j hj
      by_cases hik:i=k
      ·subst hik
       exact getD_set_true (hdep j hj)
      ·rw [getD_set_ne false hik] at hk
       exact getD_set_true (hS k hk j hj)
     ·by_cases hji:i=j
      ·subst hji
       rw [put_here (hlt a w hI.1 i h1)]
       exact hF
      ·rw [getD_set_ne false hji] at hj
       have hjm:j<m:=by
        rcases Nat.lt_or_ge j m with h2 | h2
        ·exact h2
        ·exfalso
         rcases Nat.lt_or_ge m j with h3 | h3
         ·simp [Array.getElem?_eq_none (show listed.size≤j by omega)] at hj
         ·have:j=m:=by omega
          subst this
          rw [getD_both hm] at hj
          cases hj
       rw [put_far (hinj i j h1 hjm hji)]
       exact hmo _ _ (hI.2 j hj)
    ·have e1:i=m:=by omega
     subst e1
     have hdown:∀ n j,j<i→i - j≤n→listed.getD j false=true:=by
      intro n
      induction n with
      | zero=>intro j h2 h3;omega
      | succ n ih =>
        intro j h2 h3
        obtain ⟨k,h4,h5,h6⟩:=hwait j h2
        rcases Nat.lt_or_ge k i with h7 | h7
        ·exact hS k (ih k h7 (by omega)) j h6
        ·have:k=i:=by omega
         subst this
         exact hdep j h6
     have hlisted:∀ j,j<i→listed.getD j false=true:=fun j hj=>hdown i j hj (by omega)
     refine wpOp_mono (fun a' w' hq=>?_) (hlast a w hI.1 (fun j hj=>hI.2 j (hlisted j hj)))
     have hall1:∀ j,j<i+1→(listed.setIfInBounds i true).getD j true=true:=by
      intro j hj
      by_cases hji:i=j
      ·subst hji
       simp [show i<listed.size by omega]
      ·rw [getD_set_ne true hji]
       have:=hlisted j (by omega)
       have h3:j<listed.size:=by omega
       simp [h3] at this ⊢
       exact this
     have hr:Region.ready .any ops (listed.setIfInBounds i true)=[]:=by
      rw [List.eq_nil_iff_forall_not_mem]
      intro j hj
      obtain ⟨h2,o,ho,_⟩:=mem_ready.1 hj
      have h3:=(Array.getElem?_eq_some_iff.1 ho).1
      rw [hall1 j (by omega)] at h2
      cases h2
     cases fuel with
     | zero=>exact ⟨hr,hq⟩
     | succ f=>exact ⟨fun _=>hq,by rw [hr];simp⟩
theorem region_low {id:Nat} {a:Act} {w:World} (hmx:P.follows .mixedOrders=true) (m b:Nat) (hn:ops.size=m+1) (F:Nat→Value→World→Prop) (C:World→Prop)
 (hlex:∀ (i:Nat) (o:Oper),ops[i]? = some o→∀ e∈o.after,Region.binds .any e=true→e.on<i)
 (hwait:∀ i,i<m→∃ j,i<j∧j≤m∧Region.waitsFor .any ops j i=true)
 (hsz:b+m<a.tmps.size) (hC0:C w.drew)
 (hstep:∀ i,i≤m→∀ a' W,C W→Still b m a a'→(∀ j,Region.waitsFor .any ops i j=true→F j (a'.tmps.getD (b+j) undef) W) →
   wpOp P ops Q i (fun a1 w1=>∃ v,a1=a'.put (some (b+i)) v∧C w1∧F i v w1∧∀ j u,F j u W→F j u w1) a' W)
 (hQ:∀ (vs:Nat→Value) W,C W→(∀ j,j≤m→F j (vs j) W)→Q .normal (fillA b vs (m+1) a) W):(Code.region id ops true).wp P Q a w:=by
 have hlt:∀ i,i<m→∀ j,j<m→i≠j→b+i≠b+j:=by omega
 refine wp_region_any hmx (wpAny_low m hn (fun j=>b+j) F (fun a' W=>C W∧Still b m a a') hlex hwait (fun i j hi hj h=>hlt i hi j hj h) ?_ ?_ ?_ ops.size _ _ _ (by simp [hn]) ?_ (by simp [hn]) (fun k hk=>by rw [getD_replicate_false] at hk;cases hk) ⟨⟨hC0,rfl,rfl,fun _ _=>rfl⟩,fun j hj=>?_⟩)
 ·rintro a' W ⟨_,h⟩ i hi
  rw [h.2.1]
  omega
 ·rintro i hi a' W ⟨hc,h⟩ hdep
  refine wpOp_mono ?_ (hstep i (by omega) a' W hc h hdep)
  rintro a1 w1 ⟨v,rfl,h1,h2,h3⟩
  exact ⟨v,rfl,⟨h1,h.put (by omega)⟩,h2,h3⟩
 ·rintro a' W ⟨hc,h⟩ hall
  refine wpOp_mono ?_ (hstep m (Nat.le_refl _) a' W hc h (fun j hj=>hall j ?_))
  ·rintro a1 w1 ⟨v,rfl,h1,h2,h3⟩
   have hp:=h.put (v:=v) (Nat.le_refl m)
   have e1:a'.put (some (b+m)) v=fillA b (fun j=>if j=m then v else a'.tmps.getD (b+j) undef) (m+1) a:=by
    refine act_ext (by rw [fillA_size];exact hp.2.1) (fun k hk=>?_) (by rw [fillA_defers];exact hp.1)
    rw [fillA_at _ _ _ _ _ (by omega)]
    by_cases hr:b≤k∧k<b+(m+1)
    ·rw [if_pos hr]
     by_cases e:b+m=k
     ·subst e
      rw [put_here (by rw [h.2.1];omega),if_pos (by omega)]
     ·rw [put_far e,if_neg (by omega),show b+(k - b)=k by omega]
    ·rw [if_neg hr,hp.2.2 k (by omega)]
   rw [e1]
   refine hQ _ _ h1 (fun j hj=>?_)
   by_cases e:j=m
   ·subst e
    simp only [if_true]
    exact h2
   ·simp only [if_neg e]
    exact h3 _ _ (hall j (by omega))
  ·obtain ⟨oj,hoj,e,he,hb,rfl⟩:=Region.waitsFor_spec hj
   exact hlex m oj hoj e he hb
 ·unfold unl
  refine Nat.le_trans List.countP_le_length ?_
  simp [hn]
 ·rw [getD_replicate_false] at hj
  cases hj
end
end Go.Proofs.YtkkkkiejnmpdkaaGreatDoor.Arc
namespace Go.Proofs.YtkkkkiejnmpdkaaGreatDoor.Arc
open Go.RowKit
section
variable {P:Program} {ops:Array Oper} {Q:Exit→Act→World→Prop} {i d:Nat} {F:Nat→Value→World→Prop} {C:World→Prop} {a':Act} {W:World}
theorem low_same {v:Value} (h:∀ K:Act→World→Prop,K (a'.put (some d) v) W→wpOp P ops Q i K a' W) (hC:C W) (hF:F i v W) :
 wpOp P ops Q i (fun a1 w1=>∃ v,a1=a'.put (some d) v∧C w1∧F i v w1∧∀ j u,F j u W→F j u w1) a' W:=h _ ⟨v,rfl,hC,hF,fun _ _ h=>h⟩
theorem low_new (R:Value→World→Prop) (h:∀ K:Act→World→Prop,(∀ v w1,R v w1→K (a'.put (some d) v) w1)→wpOp P ops Q i K a' W) (hR:∀ v w1,R v w1→C w1∧F i v w1∧∀ j u,F j u W→F j u w1) :
 wpOp P ops Q i (fun a1 w1=>∃ v,a1=a'.put (some d) v∧C w1∧F i v w1∧∀ j u,F j u W→F j u w1) a' W:=h _ (fun v w1 hr=>⟨v,rfl,hR v w1 hr⟩)
def LF (p q:Nat) (zs:List ByteArray) (val:Nat→Value) (j:Nat) (v:Value) (W:World):Prop :=
 ((j=p∨j=q)∧∃ ad cap,v=.slice ad zs.length cap∧RowIn Value.string W ad zs)∨(j≠p∧j≠q∧v=val j)
theorem LF.mono {p q:Nat} {zs:List ByteArray} {val:Nat→Value} {j:Nat} {v:Value} {W':World} (h:LF p q zs val j v W) (hb:Below W.heap.size W W'):LF p q zs val j v W':=by
 rcases h with ⟨h1,ad,cap,h2,h3⟩ | h
 ·exact .inl ⟨h1,ad,cap,h2,h3.later hb⟩
 ·exact .inr h
theorem LF.is {p q:Nat} {zs:List ByteArray} {val:Nat→Value} {j:Nat} {v:Value} (h:LF p q zs val j v W) (hp:j≠p) (hq:j≠q):v=val j:=by
 rcases h with ⟨h1 | h1,_⟩ | h
 ·exact absurd h1 hp
 ·exact absurd h1 hq
 ·exact h.2.2
theorem LF.mk {p q:Nat} {zs:List ByteArray} {val:Nat→Value} {j:Nat} (hp:j≠p) (hq:j≠q):LF p q zs val j (val j) W:=.inr ⟨hp,hq,rfl⟩
end
end Go.Proofs.YtkkkkiejnmpdkaaGreatDoor.Arc
namespace Go.Proofs.YtkkkkiejnmpdkaaGreatDoor.Arc
open Go.RowKit
section
variable {D:Nat→Prop} {w w':World} {e b:Nat} {s:Stt}
theorem lenK (H:AE e b s D w) (hb:b≤900000):Calls Tryz.prog 174 #[.pointer (some ⟨e,0,none⟩)] w fun ee w'=>ee=.returned (.int .i64 ((A.keys s).length:Nat))∧Below w.heap.size w w':=by
 have:=len_any H hb
 rw [A.keys_length]
 exact this
theorem drop_b1 (H:AE e b s D w) (ho:Single s) (hD:∀ k,w.heap.size≤k→D k) (hb:b≤900000) {k:ByteArray} {r:List ByteArray} (hq:s.b1=k::r) :
 Calls Tryz.prog 189 #[.pointer (some ⟨e,0,none⟩),.int .i64 2] w fun ee w'=>ee=.returned (.string k)∧AE e b { s with b1:=r } D w'∧Keeps D w w':=by
 refine (drop_any (i:=2) H hD hb (by omega) (show qs s 2=k::r from hq)).mono ?_
 rintro ee w' ⟨h1,h2,hk⟩
 exact ⟨h1,EN.congr h2 ((tail_qs ho).2.1 hq),hk⟩
theorem drop_b2 (H:AE e b s D w) (ho:Single s) (hD:∀ k,w.heap.size≤k→D k) (hb:b≤900000) {k:ByteArray} {r:List ByteArray} (hq:s.b2=k::r) :
 Calls Tryz.prog 189 #[.pointer (some ⟨e,0,none⟩),.int .i64 3] w fun ee w'=>ee=.returned (.string k)∧AE e b { s with b2:=r } D w'∧Keeps D w w':=by
 refine (drop_any (i:=3) H hD hb (by omega) (show qs s 3=k::r from hq)).mono ?_
 rintro ee w' ⟨h1,h2,hk⟩
 exact ⟨h1,EN.congr h2 ((tail_qs ho).2.2 hq),hk⟩
theorem single_b1 (ho:Single s) (n:Nat):Single { s with b1:=s.b1.drop n }:=by
 intro k
 have h1:=ho k
 have h2:=A.drop_cnt k s.b1 n
 show A.cnt k s.t1+A.cnt k s.t2+A.cnt k (s.b1.drop n)+A.cnt k s.b2≤1
 omega
theorem single_b2 (ho:Single s) (n:Nat):Single { s with b2:=s.b2.drop n }:=by
 intro k
 have h1:=ho k
 have h2:=A.drop_cnt k s.b2 n
 show A.cnt k s.t1+A.cnt k s.t2+A.cnt k s.b1+A.cnt k (s.b2.drop n)≤1
 omega
theorem drop_more {l:List ByteArray} {j:Nat} {x:ByteArray} {rest:List ByteArray} (h:l.drop j=x::rest):rest=l.drop (j+1):=by
 have:(l.drop j).drop 1=rest:=by rw [h];rfl
 rw [← this,List.drop_drop]
theorem drop_some {l:List ByteArray} {j:Nat} (h:j<l.length):∃ x rest,l.drop j=x::rest:=by
 cases hx:l.drop j with
 | nil=>have:=congrArg List.length hx;simp at this;omega
 | cons x rest=>exact ⟨x,rest,rfl⟩
theorem comes_single {key:ByteArray} (ho:Single s) (h1:key∉s.t1) (h2:key∉s.t2):Single (A.comes s key):=by
 intro k
 have h:=ho k
 have e1:=A.cnt_zero.2 h1
 have e2:=A.cnt_zero.2 h2
 show A.cnt k (s.t1++[key])+A.cnt k s.t2+A.cnt k (A.cut s.b1 key)+A.cnt k (A.cut s.b2 key)≤1
 rw [A.cnt_snoc,A.cnt_cut,A.cnt_cut]
 by_cases e:k=key
 ·subst e
  rw [A.one_self]
  simp
  omega
 ·rw [A.one_ne (Ne.symm e)]
  simp [e]
  omega
theorem laid_comes {key:ByteArray} (h1:key∉s.t1) (h2:key∉s.t2):∀ j,j<4→qs (A.comes s key) j=laid (qs s) key 0 j:=by
 refine four ?_ ?_ ?_ ?_
 ·simp [qs,laid,A.comes,A.cut_same h1]
 ·simp [qs,laid,A.comes,A.cut_same h2]
 ·simp [qs,laid,A.comes]
 ·simp [qs,laid,A.comes]
end
end Go.Proofs.YtkkkkiejnmpdkaaGreatDoor.Arc
namespace Go.Proofs.YtkkkkiejnmpdkaaGreatDoor.Arc
open Go.RowKit
section
variable {D:Nat→Prop} {w w':World} {e b:Nat} {s:Stt}
set_option maxRecDepth 100000 in
set_option maxHeartbeats 4000000 in
theorem load_no1 (H:AE e b s D w) (hb:b≤600000) (key:ByteArray) (hk:key.size≤1000) (hin:key∈A.keys s) :
 Calls Tryz.prog 175 #[.pointer (some ⟨e,0,none⟩),.string key] w fun ee w'=>ee=.returned (.bool false)∧Below w.heap.size w w':=by
 have HBl:Hid (∀ W,Below w.heap.size w W→Calls Tryz.prog 179 #[.pointer (some ⟨e,0,none⟩)] W fun ee w'=>ee=.returned (.bool false)∧Below W.heap.size W w'):=fun W hW=>(blank_any (EN.below H hW)).mono (by rintro ee w' ⟨h1,rfl⟩;exact ⟨h1,Below.refl _ _⟩)
 have HHas:Hid (∀ W,Below w.heap.size w W→Calls Tryz.prog 172 #[.pointer (some ⟨e,0,none⟩),.string key] W fun ee w'=>ee=.returned (.bool true)∧Below W.heap.size W w'):=fun W hW=>by
  have h:=has_any (EN.below H hW:AE e b s D W) (by omega) key hk
  rw [inb_yes hin] at h
  exact h
 clear H
 go_enter Tryz.func175,Tryz.ntmps175
 go_wp2_with fail
 refine region_low (by kernel_rfl) 15 5 rfl (LF 99 98 ([]:List ByteArray) (fun slot=>[(.pointer (some ⟨e,0,none⟩):Value),(.bool false:Value),(.bool false:Value),(.pointer (some ⟨e,0,none⟩):Value),(.string key:Value),(.bool true:Value),(.bool true:Value),(.bool true:Value),(undef:Value),(undef:Value),(undef:Value),(undef:Value),(undef:Value),(undef:Value),(undef:Value),(.bool true:Value)].getD slot undef)) (fun W=>Below w.heap.size w W) (lex_of (by kernel_rfl)) (wait_of (by kernel_rfl)) (by simp) (Below.refl _ _).drew ?_ ?_
 ·intro i hi a' W hC hst hdep
  have hcase:i=0∨i=1∨i=2∨i=3∨i=4∨i=5∨i=6∨i=7∨i=8∨i=9∨i=10∨i=11∨i=12∨i=13∨i=14∨i=15:=by omega
  rcases hcase with e1 | e1 | e1 | e1 | e1 | e1 | e1 | e1 | e1 | e1 | e1 | e1 | e1 | e1 | e1 | e1
  ·subst e1
   have o0:=hst.at 0 (by omega)
   simp at o0
   refine low_same (v:=.pointer (some ⟨e,0,none⟩)) ?_ hC (LF.mk (j:=0) (by decide) (by decide))
   intro Kc hKc
   refine still_op rfl rfl ?_
   simp [Oper.wp,execOp,Act.eval,go_sem,o0]
   exact hKc
  ·subst e1
   have d0:a'.tmps[5]?.getD undef=.pointer (some ⟨e,0,none⟩):=by simpa using (LF.is (hdep 0 (by kernel_rfl)) (by decide) (by decide))
   refine low_new (fun v w1=>v=.bool false∧Below W.heap.size W w1) ?_ ?_
   ·intro Kc hKc
    refine still_op rfl rfl ?_
    simp [Oper.wp,execOp,Act.eval,go_sem,d0]
    refine Calls.mono (HBl.out W hC) ?_
    rintro ee w5 ⟨rfl,hb5⟩
    exact hKc _ _ ⟨rfl,hb5⟩
   ·rintro v w1 ⟨rfl,hb1⟩
    exact ⟨below_trans' hC hb1,LF.mk (j:=1) (by decide) (by decide),fun j u h=>LF.mono h hb1⟩
  ·subst e1
   have d1:a'.tmps[6]?.getD undef=.bool false:=by simpa using (LF.is (hdep 1 (by kernel_rfl)) (by decide) (by decide))
   refine low_same (v:=.bool false) ?_ hC (LF.mk (j:=2) (by decide) (by decide))
   intro Kc hKc
   refine still_op rfl rfl ?_
   simp [Oper.wp,execOp,Act.eval,go_sem,d1]
   exact hKc
  ·subst e1
   have o0:=hst.at 0 (by omega)
   simp at o0
   refine low_same (v:=.pointer (some ⟨e,0,none⟩)) ?_ hC (LF.mk (j:=3) (by decide) (by decide))
   intro Kc hKc
   refine still_on rfl rfl rfl rfl (LF.is (hdep 2 (by kernel_rfl)) (by decide) (by decide)) ?_
   simp [Oper.wp,execOp,Act.eval,go_sem,o0]
   exact hKc
  ·subst e1
   have o1:=hst.at 1 (by omega)
   simp at o1
   refine low_same (v:=.string key) ?_ hC (LF.mk (j:=4) (by decide) (by decide))
   intro Kc hKc
   refine still_on rfl rfl rfl rfl (LF.is (hdep 2 (by kernel_rfl)) (by decide) (by decide)) ?_
   simp [Oper.wp,execOp,Act.eval,go_sem,o1]
   exact hKc
  ·subst e1
   have d3:a'.tmps[8]?.getD undef=.pointer (some ⟨e,0,none⟩):=by simpa using (LF.is (hdep 3 (by kernel_rfl)) (by decide) (by decide))
   have d4:a'.tmps[9]?.getD undef=.string key:=by simpa using (LF.is (hdep 4 (by kernel_rfl)) (by decide) (by decide))
   refine low_new (fun v w1=>v=.bool true∧Below W.heap.size W w1) ?_ ?_
   ·intro Kc hKc
    refine still_on rfl rfl rfl rfl (LF.is (hdep 2 (by kernel_rfl)) (by decide) (by decide)) ?_
    simp [Oper.wp,execOp,Act.eval,go_sem,d3,d4]
    refine Calls.mono (HHas.out W hC) ?_
    rintro ee w5 ⟨rfl,hb5⟩
    exact hKc _ _ ⟨rfl,hb5⟩
   ·rintro v w1 ⟨rfl,hb1⟩
    exact ⟨below_trans' hC hb1,LF.mk (j:=5) (by decide) (by decide),fun j u h=>LF.mono h hb1⟩
  ·subst e1
   have d2:a'.tmps[7]?.getD undef=.bool false:=by simpa using (LF.is (hdep 2 (by kernel_rfl)) (by decide) (by decide))
   have d5:a'.tmps[10]?.getD undef=.bool true:=by simpa using (LF.is (hdep 5 (by kernel_rfl)) (by decide) (by decide))
   refine low_same (v:=.bool true) ?_ hC (LF.mk (j:=6) (by decide) (by decide))
   intro Kc hKc
   refine still_op rfl rfl ?_
   simp [Oper.wp,execOp,Act.eval,go_sem,d2,d5]
   exact hKc
  ·subst e1
   have d6:a'.tmps[11]?.getD undef=.bool true:=by simpa using (LF.is (hdep 6 (by kernel_rfl)) (by decide) (by decide))
   refine low_same (v:=.bool true) ?_ hC (LF.mk (j:=7) (by decide) (by decide))
   intro Kc hKc
   refine still_op rfl rfl ?_
   simp [Oper.wp,execOp,Act.eval,go_sem,d6]
   exact hKc
  ·subst e1
   refine low_same (v:=undef) ?_ hC (LF.mk (j:=8) (by decide) (by decide))
   intro Kc hKc
   exact still_off rfl rfl rfl rfl (LF.is (hdep 7 (by kernel_rfl)) (by decide) (by decide)) rfl hKc
  ·subst e1
   refine low_same (v:=undef) ?_ hC (LF.mk (j:=9) (by decide) (by decide))
   intro Kc hKc
   exact still_off rfl rfl rfl rfl (LF.is (hdep 7 (by kernel_rfl)) (by decide) (by decide)) rfl hKc
  ·subst e1
   refine low_same (v:=undef) ?_ hC (LF.mk (j:=10) (by decide) (by decide))
   intro Kc hKc
   exact still_off rfl rfl rfl rfl (LF.is (hdep 7 (by kernel_rfl)) (by decide) (by decide)) rfl hKc
  ·subst e1
   refine low_same (v:=undef) ?_ hC (LF.mk (j:=11) (by decide) (by decide))
   intro Kc hKc
   exact still_off rfl rfl rfl rfl (LF.is (hdep 7 (by kernel_rfl)) (by decide) (by decide)) rfl hKc
  ·subst e1
   refine low_same (v:=undef) ?_ hC (LF.mk (j:=12) (by decide) (by decide))
   intro Kc hKc
   exact still_off rfl rfl rfl rfl (LF.is (hdep 7 (by kernel_rfl)) (by decide) (by decide)) rfl hKc
  ·subst e1
   refine low_same (v:=undef) ?_ hC (LF.mk (j:=13) (by decide) (by decide))
   intro Kc hKc
   exact still_off rfl rfl rfl rfl (LF.is (hdep 7 (by kernel_rfl)) (by decide) (by decide)) rfl hKc
  ·subst e1
   refine low_same (v:=undef) ?_ hC (LF.mk (j:=14) (by decide) (by decide))
   intro Kc hKc
   exact still_off rfl rfl rfl rfl (LF.is (hdep 7 (by kernel_rfl)) (by decide) (by decide)) rfl hKc
  ·subst e1
   have d7:a'.tmps[12]?.getD undef=.bool true:=by simpa using (LF.is (hdep 7 (by kernel_rfl)) (by decide) (by decide))
   refine low_same (v:=.bool true) ?_ hC (LF.mk (j:=15) (by decide) (by decide))
   intro Kc hKc
   refine still_op rfl rfl ?_
   simp [Oper.wp,execOp,Act.eval,go_sem,d7]
   exact hKc
 intro vs W hC hF
 have hlastv:vs 15=.bool true:=LF.is (hF 15 (by omega)) (by decide) (by decide)
 simp only [fillA,Act.put,List.setIfInBounds_toArray,List.set_cons_succ,List.set_cons_zero,Nat.reduceAdd,Nat.add_zero]
 rw [hlastv]
 go_wp2_with fail
 go_ret
 exact ⟨rfl,hC⟩
set_option maxRecDepth 100000 in
set_option maxHeartbeats 4000000 in
theorem load_no2 (H:AE e b s D w) (hb:b≤600000) (key:ByteArray) (hk:key.size≤1000) (hin:key∉A.keys s) (hl:s.c≤(A.keys s).length) :
 Calls Tryz.prog 175 #[.pointer (some ⟨e,0,none⟩),.string key] w fun ee w'=>ee=.returned (.bool false)∧Below w.heap.size w w':=by
 have HBl:Hid (∀ W,Below w.heap.size w W→Calls Tryz.prog 179 #[.pointer (some ⟨e,0,none⟩)] W fun ee w'=>ee=.returned (.bool false)∧Below W.heap.size W w'):=fun W hW=>(blank_any (EN.below H hW)).mono (by rintro ee w' ⟨h1,rfl⟩;exact ⟨h1,Below.refl _ _⟩)
 have HHas:Hid (∀ W,Below w.heap.size w W→Calls Tryz.prog 172 #[.pointer (some ⟨e,0,none⟩),.string key] W fun ee w'=>ee=.returned (.bool false)∧Below W.heap.size W w'):=fun W hW=>by
  have h:=has_any (EN.below H hW:AE e b s D W) (by omega) key hk
  rw [inb_no hin] at h
  exact h
 obtain ⟨m,hm⟩:∃ m,m=(A.keys s).length:=⟨_,rfl⟩
 have HLn:Hid (∀ W,Below w.heap.size w W→Calls Tryz.prog 174 #[.pointer (some ⟨e,0,none⟩)] W fun ee w'=>ee=.returned (.int .i64 (m:Nat))∧Below W.heap.size W w'):=fun W hW=>by
  have h:=lenK (EN.below H hW:AE e b s D W) (by omega)
  rw [← hm] at h
  exact h
 have HCl:Hid (∀ W:World,Below w.heap.size w W→W.cell? ⟨e,0,none⟩=some (.int .i64 (s.c:Nat))∧e<W.heap.size):=fun W hW=>by
  have h:=EN.cells (EN.below H hW)
  exact ⟨h.1,h.2.2.2.1⟩
 have hd1:decide (s.c≤m)=true:=decide_eq_true (by omega)
 clear H hm hl
 go_enter Tryz.func175,Tryz.ntmps175
 go_wp2_with fail
 refine region_low (by kernel_rfl) 15 5 rfl (LF 99 98 ([]:List ByteArray) (fun slot=>[(.pointer (some ⟨e,0,none⟩):Value),(.bool false:Value),(.bool false:Value),(.pointer (some ⟨e,0,none⟩):Value),(.string key:Value),(.bool false:Value),(.bool false:Value),(.bool false:Value),(.pointer (some ⟨e,0,none⟩):Value),(.int .i64 (m:Nat):Value),(.pointer (some ⟨e,0,none⟩):Value),(.pointer (some ⟨e,0,none⟩):Value),(.pointer (some ⟨e,0,none⟩):Value),(.int .i64 (s.c:Nat):Value),(.bool true:Value),(.bool true:Value)].getD slot undef)) (fun W=>Below w.heap.size w W) (lex_of (by kernel_rfl)) (wait_of (by kernel_rfl)) (by simp) (Below.refl _ _).drew ?_ ?_
 ·intro i hi a' W hC hst hdep
  have hcase:i=0∨i=1∨i=2∨i=3∨i=4∨i=5∨i=6∨i=7∨i=8∨i=9∨i=10∨i=11∨i=12∨i=13∨i=14∨i=15:=by omega
  rcases hcase with e1 | e1 | e1 | e1 | e1 | e1 | e1 | e1 | e1 | e1 | e1 | e1 | e1 | e1 | e1 | e1
  ·subst e1
   have o0:=hst.at 0 (by omega)
   simp at o0
   refine low_same (v:=.pointer (some ⟨e,0,none⟩)) ?_ hC (LF.mk (j:=0) (by decide) (by decide))
   intro Kc hKc
   refine still_op rfl rfl ?_
   simp [Oper.wp,execOp,Act.eval,go_sem,o0]
   exact hKc
  ·subst e1
   have d0:a'.tmps[5]?.getD undef=.pointer (some ⟨e,0,none⟩):=by simpa using (LF.is (hdep 0 (by kernel_rfl)) (by decide) (by decide))
   refine low_new (fun v w1=>v=.bool false∧Below W.heap.size W w1) ?_ ?_
   ·intro Kc hKc
    refine still_op rfl rfl ?_
    simp [Oper.wp,execOp,Act.eval,go_sem,d0]
    refine Calls.mono (HBl.out W hC) ?_
    rintro ee w5 ⟨rfl,hb5⟩
    exact hKc _ _ ⟨rfl,hb5⟩
   ·rintro v w1 ⟨rfl,hb1⟩
    exact ⟨below_trans' hC hb1,LF.mk (j:=1) (by decide) (by decide),fun j u h=>LF.mono h hb1⟩
  ·subst e1
   have d1:a'.tmps[6]?.getD undef=.bool false:=by simpa using (LF.is (hdep 1 (by kernel_rfl)) (by decide) (by decide))
   refine low_same (v:=.bool false) ?_ hC (LF.mk (j:=2) (by decide) (by decide))
   intro Kc hKc
   refine still_op rfl rfl ?_
   simp [Oper.wp,execOp,Act.eval,go_sem,d1]
   exact hKc
  ·subst e1
   have o0:=hst.at 0 (by omega)
   simp at o0
   refine low_same (v:=.pointer (some ⟨e,0,none⟩)) ?_ hC (LF.mk (j:=3) (by decide) (by decide))
   intro Kc hKc
   refine still_on rfl rfl rfl rfl (LF.is (hdep 2 (by kernel_rfl)) (by decide) (by decide)) ?_
   simp [Oper.wp,execOp,Act.eval,go_sem,o0]
   exact hKc
  ·subst e1
   have o1:=hst.at 1 (by omega)
   simp at o1
   refine low_same (v:=.string key) ?_ hC (LF.mk (j:=4) (by decide) (by decide))
   intro Kc hKc
   refine still_on rfl rfl rfl rfl (LF.is (hdep 2 (by kernel_rfl)) (by decide) (by decide)) ?_
   simp [Oper.wp,execOp,Act.eval,go_sem,o1]
   exact hKc
  ·subst e1
   have d3:a'.tmps[8]?.getD undef=.pointer (some ⟨e,0,none⟩):=by simpa using (LF.is (hdep 3 (by kernel_rfl)) (by decide) (by decide))
   have d4:a'.tmps[9]?.getD undef=.string key:=by simpa using (LF.is (hdep 4 (by kernel_rfl)) (by decide) (by decide))
   refine low_new (fun v w1=>v=.bool false∧Below W.heap.size W w1) ?_ ?_
   ·intro Kc hKc
    refine still_on rfl rfl rfl rfl (LF.is (hdep 2 (by kernel_rfl)) (by decide) (by decide)) ?_
    simp [Oper.wp,execOp,Act.eval,go_sem,d3,d4]
    refine Calls.mono (HHas.out W hC) ?_
    rintro ee w5 ⟨rfl,hb5⟩
    exact hKc _ _ ⟨rfl,hb5⟩
   ·rintro v w1 ⟨rfl,hb1⟩
    exact ⟨below_trans' hC hb1,LF.mk (j:=5) (by decide) (by decide),fun j u h=>LF.mono h hb1⟩
  ·subst e1
   have d2:a'.tmps[7]?.getD undef=.bool false:=by simpa using (LF.is (hdep 2 (by kernel_rfl)) (by decide) (by decide))
   have d5:a'.tmps[10]?.getD undef=.bool false:=by simpa using (LF.is (hdep 5 (by kernel_rfl)) (by decide) (by decide))
   refine low_same (v:=.bool false) ?_ hC (LF.mk (j:=6) (by decide) (by decide))
   intro Kc hKc
   refine still_op rfl rfl ?_
   simp [Oper.wp,execOp,Act.eval,go_sem,d2,d5]
   exact hKc
  ·subst e1
   have d6:a'.tmps[11]?.getD undef=.bool false:=by simpa using (LF.is (hdep 6 (by kernel_rfl)) (by decide) (by decide))
   refine low_same (v:=.bool false) ?_ hC (LF.mk (j:=7) (by decide) (by decide))
   intro Kc hKc
   refine still_op rfl rfl ?_
   simp [Oper.wp,execOp,Act.eval,go_sem,d6]
   exact hKc
  ·subst e1
   have o0:=hst.at 0 (by omega)
   simp at o0
   refine low_same (v:=.pointer (some ⟨e,0,none⟩)) ?_ hC (LF.mk (j:=8) (by decide) (by decide))
   intro Kc hKc
   refine still_on rfl rfl rfl rfl (LF.is (hdep 7 (by kernel_rfl)) (by decide) (by decide)) ?_
   simp [Oper.wp,execOp,Act.eval,go_sem,o0]
   exact hKc
  ·subst e1
   have d8:a'.tmps[13]?.getD undef=.pointer (some ⟨e,0,none⟩):=by simpa using (LF.is (hdep 8 (by kernel_rfl)) (by decide) (by decide))
   refine low_new (fun v w1=>v=.int .i64 (m:Nat)∧Below W.heap.size W w1) ?_ ?_
   ·intro Kc hKc
    refine still_on rfl rfl rfl rfl (LF.is (hdep 7 (by kernel_rfl)) (by decide) (by decide)) ?_
    simp [Oper.wp,execOp,Act.eval,go_sem,d8]
    refine Calls.mono (HLn.out W hC) ?_
    rintro ee w5 ⟨rfl,hb5⟩
    exact hKc _ _ ⟨rfl,hb5⟩
   ·rintro v w1 ⟨rfl,hb1⟩
    exact ⟨below_trans' hC hb1,LF.mk (j:=9) (by decide) (by decide),fun j u h=>LF.mono h hb1⟩
  ·subst e1
   have o0:=hst.at 0 (by omega)
   simp at o0
   refine low_same (v:=.pointer (some ⟨e,0,none⟩)) ?_ hC (LF.mk (j:=10) (by decide) (by decide))
   intro Kc hKc
   refine still_on rfl rfl rfl rfl (LF.is (hdep 7 (by kernel_rfl)) (by decide) (by decide)) ?_
   simp [Oper.wp,execOp,Act.eval,go_sem,o0]
   exact hKc
  ·subst e1
   have d10:a'.tmps[15]?.getD undef=.pointer (some ⟨e,0,none⟩):=by simpa using (LF.is (hdep 10 (by kernel_rfl)) (by decide) (by decide))
   refine low_same (v:=.pointer (some ⟨e,0,none⟩)) ?_ hC (LF.mk (j:=11) (by decide) (by decide))
   intro Kc hKc
   refine still_on rfl rfl rfl rfl (LF.is (hdep 7 (by kernel_rfl)) (by decide) (by decide)) ?_
   simp [Oper.wp,execOp,Act.eval,go_sem,d10]
   exact hKc
  ·subst e1
   have d11:a'.tmps[16]?.getD undef=.pointer (some ⟨e,0,none⟩):=by simpa using (LF.is (hdep 11 (by kernel_rfl)) (by decide) (by decide))
   refine low_same (v:=.pointer (some ⟨e,0,none⟩)) ?_ hC (LF.mk (j:=12) (by decide) (by decide))
   intro Kc hKc
   refine still_on rfl rfl rfl rfl (LF.is (hdep 7 (by kernel_rfl)) (by decide) (by decide)) ?_
   simp [Oper.wp,execOp,Act.eval,go_sem,d11]
   exact hKc
  ·subst e1
   have d12:a'.tmps[17]?.getD undef=.pointer (some ⟨e,0,none⟩):=by simpa using (LF.is (hdep 12 (by kernel_rfl)) (by decide) (by decide))
   refine low_same (v:=.int .i64 (s.c:Nat)) ?_ hC (LF.mk (j:=13) (by decide) (by decide))
   intro Kc hKc
   refine still_on rfl rfl rfl rfl (LF.is (hdep 7 (by kernel_rfl)) (by decide) (by decide)) ?_
   simp [Oper.wp,execOp,Act.eval,go_sem,d12,(HCl.out W hC).1]
   exact hKc
  ·subst e1
   have d9:a'.tmps[14]?.getD undef=.int .i64 (m:Nat):=by simpa using (LF.is (hdep 9 (by kernel_rfl)) (by decide) (by decide))
   have d13:a'.tmps[18]?.getD undef=.int .i64 (s.c:Nat):=by simpa using (LF.is (hdep 13 (by kernel_rfl)) (by decide) (by decide))
   refine low_same (v:=.bool true) ?_ hC (LF.mk (j:=14) (by decide) (by decide))
   intro Kc hKc
   refine still_on rfl rfl rfl rfl (LF.is (hdep 7 (by kernel_rfl)) (by decide) (by decide)) ?_
   simp [Oper.wp,execOp,Act.eval,go_sem,d9,d13,hd1]
   exact hKc
  ·subst e1
   have d7:a'.tmps[12]?.getD undef=.bool false:=by simpa using (LF.is (hdep 7 (by kernel_rfl)) (by decide) (by decide))
   have d14:a'.tmps[19]?.getD undef=.bool true:=by simpa using (LF.is (hdep 14 (by kernel_rfl)) (by decide) (by decide))
   refine low_same (v:=.bool true) ?_ hC (LF.mk (j:=15) (by decide) (by decide))
   intro Kc hKc
   refine still_op rfl rfl ?_
   simp [Oper.wp,execOp,Act.eval,go_sem,d7,d14]
   exact hKc
 intro vs W hC hF
 have hlastv:vs 15=.bool true:=LF.is (hF 15 (by omega)) (by decide) (by decide)
 simp only [fillA,Act.put,List.setIfInBounds_toArray,List.set_cons_succ,List.set_cons_zero,Nat.reduceAdd,Nat.add_zero]
 rw [hlastv]
 go_wp2_with fail
 go_ret
 exact ⟨rfl,hC⟩
end
end Go.Proofs.YtkkkkiejnmpdkaaGreatDoor.Arc
namespace Go.Proofs.YtkkkkiejnmpdkaaGreatDoor.Arc
open Go.RowKit
section
variable {D:Nat→Prop} {w w':World} {e b:Nat} {s:Stt}
set_option maxRecDepth 100000 in
set_option maxHeartbeats 8000000 in
theorem load_yes1 (H:AE e b s D w) (hok:A.Ok s) (hD:∀ k,w.heap.size≤k→D k) (hb:b≤600000) (key:ByteArray) (hk:key.size≤1000) (hin:key∉A.keys s) (hl:(A.keys s).length<s.c) :
 Calls Tryz.prog 175 #[.pointer (some ⟨e,0,none⟩),.string key] w fun ee w'=>ee=.returned (.bool true)∧AE e (b+1) (A.trim2 (A.trim1 (A.comes s key))) D w'∧Keeps D w w':=by
 have HBl:Hid (∀ W,Below w.heap.size w W→Calls Tryz.prog 179 #[.pointer (some ⟨e,0,none⟩)] W fun ee w'=>ee=.returned (.bool false)∧Below W.heap.size W w'):=fun W hW=>(blank_any (EN.below H hW)).mono (by rintro ee w' ⟨h1,rfl⟩;exact ⟨h1,Below.refl _ _⟩)
 have HHas:Hid (∀ W,Below w.heap.size w W→Calls Tryz.prog 172 #[.pointer (some ⟨e,0,none⟩),.string key] W fun ee w'=>ee=.returned (.bool false)∧Below W.heap.size W w'):=fun W hW=>by
  have h:=has_any (EN.below H hW:AE e b s D W) (by omega) key hk
  rw [inb_no hin] at h
  exact h
 obtain ⟨m,hm⟩:∃ m,m=(A.keys s).length:=⟨_,rfl⟩
 have HLn:Hid (∀ W,Below w.heap.size w W→Calls Tryz.prog 174 #[.pointer (some ⟨e,0,none⟩)] W fun ee w'=>ee=.returned (.int .i64 (m:Nat))∧Below W.heap.size W w'):=fun W hW=>by
  have h:=lenK (EN.below H hW:AE e b s D W) (by omega)
  rw [← hm] at h
  exact h
 have HCl:Hid (∀ W:World,Below w.heap.size w W→W.cell? ⟨e,0,none⟩=some (.int .i64 (s.c:Nat))∧e<W.heap.size):=fun W hW=>by
  have h:=EN.cells (EN.below H hW)
  exact ⟨h.1,h.2.2.2.1⟩
 have hd1:decide (s.c≤m)=false:=decide_eq_false (by omega)
 have hnk:key∉s.t1∧key∉s.t2:=by
  unfold A.keys at hin
  rw [List.mem_append] at hin
  exact ⟨fun h=>hin (.inl h),fun h=>hin (.inr h)⟩
 have HE:Hid (AE e b s D w):=H
 have HD:Hid (∀ k,w.heap.size≤k→D k):=hD
 have HX:Hid (∀ j,j<4→qs (A.comes s key) j=laid (qs s) key 0 j):=laid_comes hnk.1 hnk.2
 have HXs:Hid (Single (A.comes s key)):=comes_single (Single.of hok) hnk.1 hnk.2
 obtain ⟨X,hX⟩:∃ X,X=A.comes s key:=⟨_,rfl⟩
 have hXc:X.c=s.c:=by rw [hX];rfl
 have hXp:X.p=s.p:=by rw [hX];rfl
 rw [← hX] at HX HXs ⊢
 have hcc:s.c≤1024:=hok.hi
 have HC1:Hid (X.c=s.c∧X.p=s.p):=⟨hXc,hXp⟩
 have hlen1:X.t1.length+X.t2.length≤s.c:=by
  rw [hX]
  rw [A.keys_length] at hl
  simp [A.comes]
  omega
 clear H hm hl hok hD hX hXc hXp hnk hin
 go_enter Tryz.func175,Tryz.ntmps175
 go_wp2_with fail
 refine region_low (by kernel_rfl) 15 5 rfl (LF 99 98 ([]:List ByteArray) (fun slot=>[(.pointer (some ⟨e,0,none⟩):Value),(.bool false:Value),(.bool false:Value),(.pointer (some ⟨e,0,none⟩):Value),(.string key:Value),(.bool false:Value),(.bool false:Value),(.bool false:Value),(.pointer (some ⟨e,0,none⟩):Value),(.int .i64 (m:Nat):Value),(.pointer (some ⟨e,0,none⟩):Value),(.pointer (some ⟨e,0,none⟩):Value),(.pointer (some ⟨e,0,none⟩):Value),(.int .i64 (s.c:Nat):Value),(.bool false:Value),(.bool false:Value)].getD slot undef)) (fun W=>Below w.heap.size w W) (lex_of (by kernel_rfl)) (wait_of (by kernel_rfl)) (by simp) (Below.refl _ _).drew ?_ ?_
 ·intro i hi a' W hC hst hdep
  have hcase:i=0∨i=1∨i=2∨i=3∨i=4∨i=5∨i=6∨i=7∨i=8∨i=9∨i=10∨i=11∨i=12∨i=13∨i=14∨i=15:=by omega
  rcases hcase with e1 | e1 | e1 | e1 | e1 | e1 | e1 | e1 | e1 | e1 | e1 | e1 | e1 | e1 | e1 | e1
  ·subst e1
   have o0:=hst.at 0 (by omega)
   simp at o0
   refine low_same (v:=.pointer (some ⟨e,0,none⟩)) ?_ hC (LF.mk (j:=0) (by decide) (by decide))
   intro Kc hKc
   refine still_op rfl rfl ?_
   simp [Oper.wp,execOp,Act.eval,go_sem,o0]
   exact hKc
  ·subst e1
   have d0:a'.tmps[5]?.getD undef=.pointer (some ⟨e,0,none⟩):=by simpa using (LF.is (hdep 0 (by kernel_rfl)) (by decide) (by decide))
   refine low_new (fun v w1=>v=.bool false∧Below W.heap.size W w1) ?_ ?_
   ·intro Kc hKc
    refine still_op rfl rfl ?_
    simp [Oper.wp,execOp,Act.eval,go_sem,d0]
    refine Calls.mono (HBl.out W hC) ?_
    rintro ee w5 ⟨rfl,hb5⟩
    exact hKc _ _ ⟨rfl,hb5⟩
   ·rintro v w1 ⟨rfl,hb1⟩
    exact ⟨below_trans' hC hb1,LF.mk (j:=1) (by decide) (by decide),fun j u h=>LF.mono h hb1⟩
  ·subst e1
   have d1:a'.tmps[6]?.getD undef=.bool false:=by simpa using (LF.is (hdep 1 (by kernel_rfl)) (by decide) (by decide))
   refine low_same (v:=.bool false) ?_ hC (LF.mk (j:=2) (by decide) (by decide))
   intro Kc hKc
   refine still_op rfl rfl ?_
   simp [Oper.wp,execOp,Act.eval,go_sem,d1]
   exact hKc
  ·subst e1
   have o0:=hst.at 0 (by omega)
   simp at o0
   refine low_same (v:=.pointer (some ⟨e,0,none⟩)) ?_ hC (LF.mk (j:=3) (by decide) (by decide))
   intro Kc hKc
   refine still_on rfl rfl rfl rfl (LF.is (hdep 2 (by kernel_rfl)) (by decide) (by decide)) ?_
   simp [Oper.wp,execOp,Act.eval,go_sem,o0]
   exact hKc
  ·subst e1
   have o1:=hst.at 1 (by omega)
   simp at o1
   refine low_same (v:=.string key) ?_ hC (LF.mk (j:=4) (by decide) (by decide))
   intro Kc hKc
   refine still_on rfl rfl rfl rfl (LF.is (hdep 2 (by kernel_rfl)) (by decide) (by decide)) ?_
   simp [Oper.wp,execOp,Act.eval,go_sem,o1]
   exact hKc
  ·subst e1
   have d3:a'.tmps[8]?.getD undef=.pointer (some ⟨e,0,none⟩):=by simpa using (LF.is (hdep 3 (by kernel_rfl)) (by decide) (by decide))
   have d4:a'.tmps[9]?.getD undef=.string key:=by simpa using (LF.is (hdep 4 (by kernel_rfl)) (by decide) (by decide))
   refine low_new (fun v w1=>v=.bool false∧Below W.heap.size W w1) ?_ ?_
   ·intro Kc hKc
    refine still_on rfl rfl rfl rfl (LF.is (hdep 2 (by kernel_rfl)) (by decide) (by decide)) ?_
    simp [Oper.wp,execOp,Act.eval,go_sem,d3,d4]
    refine Calls.mono (HHas.out W hC) ?_
    rintro ee w5 ⟨rfl,hb5⟩
    exact hKc _ _ ⟨rfl,hb5⟩
   ·rintro v w1 ⟨rfl,hb1⟩
    exact ⟨below_trans' hC hb1,LF.mk (j:=5) (by decide) (by decide),fun j u h=>LF.mono h hb1⟩
  ·subst e1
   have d2:a'.tmps[7]?.getD undef=.bool false:=by simpa using (LF.is (hdep 2 (by kernel_rfl)) (by decide) (by decide))
   have d5:a'.tmps[10]?.getD undef=.bool false:=by simpa using (LF.is (hdep 5 (by kernel_rfl)) (by decide) (by decide))
   refine low_same (v:=.bool false) ?_ hC (LF.mk (j:=6) (by decide) (by decide))
   intro Kc hKc
   refine still_op rfl rfl ?_
   simp [Oper.wp,execOp,Act.eval,go_sem,d2,d5]
   exact hKc
  ·subst e1
   have d6:a'.tmps[11]?.getD undef=.bool false:=by simpa using (LF.is (hdep 6 (by kernel_rfl)) (by decide) (by decide))
   refine low_same (v:=.bool false) ?_ hC (LF.mk (j:=7) (by decide) (by decide))
   intro Kc hKc
   refine still_op rfl rfl ?_
   simp [Oper.wp,execOp,Act.eval,go_sem,d6]
   exact hKc
  ·subst e1
   have o0:=hst.at 0 (by omega)
   simp at o0
   refine low_same (v:=.pointer (some ⟨e,0,none⟩)) ?_ hC (LF.mk (j:=8) (by decide) (by decide))
   intro Kc hKc
   refine still_on rfl rfl rfl rfl (LF.is (hdep 7 (by kernel_rfl)) (by decide) (by decide)) ?_
   simp [Oper.wp,execOp,Act.eval,go_sem,o0]
   exact hKc
  ·subst e1
   have d8:a'.tmps[13]?.getD undef=.pointer (some ⟨e,0,none⟩):=by simpa using (LF.is (hdep 8 (by kernel_rfl)) (by decide) (by decide))
   refine low_new (fun v w1=>v=.int .i64 (m:Nat)∧Below W.heap.size W w1) ?_ ?_
   ·intro Kc hKc
    refine still_on rfl rfl rfl rfl (LF.is (hdep 7 (by kernel_rfl)) (by decide) (by decide)) ?_
    simp [Oper.wp,execOp,Act.eval,go_sem,d8]
    refine Calls.mono (HLn.out W hC) ?_
    rintro ee w5 ⟨rfl,hb5⟩
    exact hKc _ _ ⟨rfl,hb5⟩
   ·rintro v w1 ⟨rfl,hb1⟩
    exact ⟨below_trans' hC hb1,LF.mk (j:=9) (by decide) (by decide),fun j u h=>LF.mono h hb1⟩
  ·subst e1
   have o0:=hst.at 0 (by omega)
   simp at o0
   refine low_same (v:=.pointer (some ⟨e,0,none⟩)) ?_ hC (LF.mk (j:=10) (by decide) (by decide))
   intro Kc hKc
   refine still_on rfl rfl rfl rfl (LF.is (hdep 7 (by kernel_rfl)) (by decide) (by decide)) ?_
   simp [Oper.wp,execOp,Act.eval,go_sem,o0]
   exact hKc
  ·subst e1
   have d10:a'.tmps[15]?.getD undef=.pointer (some ⟨e,0,none⟩):=by simpa using (LF.is (hdep 10 (by kernel_rfl)) (by decide) (by decide))
   refine low_same (v:=.pointer (some ⟨e,0,none⟩)) ?_ hC (LF.mk (j:=11) (by decide) (by decide))
   intro Kc hKc
   refine still_on rfl rfl rfl rfl (LF.is (hdep 7 (by kernel_rfl)) (by decide) (by decide)) ?_
   simp [Oper.wp,execOp,Act.eval,go_sem,d10]
   exact hKc
  ·subst e1
   have d11:a'.tmps[16]?.getD undef=.pointer (some ⟨e,0,none⟩):=by simpa using (LF.is (hdep 11 (by kernel_rfl)) (by decide) (by decide))
   refine low_same (v:=.pointer (some ⟨e,0,none⟩)) ?_ hC (LF.mk (j:=12) (by decide) (by decide))
   intro Kc hKc
   refine still_on rfl rfl rfl rfl (LF.is (hdep 7 (by kernel_rfl)) (by decide) (by decide)) ?_
   simp [Oper.wp,execOp,Act.eval,go_sem,d11]
   exact hKc
  ·subst e1
   have d12:a'.tmps[17]?.getD undef=.pointer (some ⟨e,0,none⟩):=by simpa using (LF.is (hdep 12 (by kernel_rfl)) (by decide) (by decide))
   refine low_same (v:=.int .i64 (s.c:Nat)) ?_ hC (LF.mk (j:=13) (by decide) (by decide))
   intro Kc hKc
   refine still_on rfl rfl rfl rfl (LF.is (hdep 7 (by kernel_rfl)) (by decide) (by decide)) ?_
   simp [Oper.wp,execOp,Act.eval,go_sem,d12,(HCl.out W hC).1]
   exact hKc
  ·subst e1
   have d9:a'.tmps[14]?.getD undef=.int .i64 (m:Nat):=by simpa using (LF.is (hdep 9 (by kernel_rfl)) (by decide) (by decide))
   have d13:a'.tmps[18]?.getD undef=.int .i64 (s.c:Nat):=by simpa using (LF.is (hdep 13 (by kernel_rfl)) (by decide) (by decide))
   refine low_same (v:=.bool false) ?_ hC (LF.mk (j:=14) (by decide) (by decide))
   intro Kc hKc
   refine still_on rfl rfl rfl rfl (LF.is (hdep 7 (by kernel_rfl)) (by decide) (by decide)) ?_
   simp [Oper.wp,execOp,Act.eval,go_sem,d9,d13,hd1]
   exact hKc
  ·subst e1
   have d7:a'.tmps[12]?.getD undef=.bool false:=by simpa using (LF.is (hdep 7 (by kernel_rfl)) (by decide) (by decide))
   have d14:a'.tmps[19]?.getD undef=.bool false:=by simpa using (LF.is (hdep 14 (by kernel_rfl)) (by decide) (by decide))
   refine low_same (v:=.bool false) ?_ hC (LF.mk (j:=15) (by decide) (by decide))
   intro Kc hKc
   refine still_op rfl rfl ?_
   simp [Oper.wp,execOp,Act.eval,go_sem,d7,d14]
   exact hKc
 intro vs W hC hF
 have hlastv:vs 15=.bool false:=LF.is (hF 15 (by omega)) (by decide) (by decide)
 simp only [fillA,Act.put,List.setIfInBounds_toArray,List.set_cons_succ,List.set_cons_zero,Nat.reduceAdd,Nat.add_zero]
 rw [hlastv]
 have HCw:Hid (Below w.heap.size w W):=hC
 have hlay:=lay_to (HE.out.below hC:AE e b s D W) (fun k h=>HD.out k (Nat.le_trans hC.size h)) (by omega) key hk 0 (by omega) HX.out HC1.out.1 HC1.out.2
 clear hC hF hlastv
 go_wp2_with (go_at_call 182;refine Calls.mono hlay ?_;clear hlay;rintro ee w4 ⟨rfl,h4,hk4⟩;have H4:Hid (AE e (b+1) X D w4):=h4;have HK4:Hid (Keeps D w w4):=(Keeps.of_below HCw.out).trans hk4;clear h4 hk4)
 clear hd1
 have HN:Hid (X.t1.length+X.t2.length≤s.c):=hlen1
 clear hlen1
 obtain ⟨L1,hL1⟩:∃ L1,L1=X.b1:=⟨_,rfl⟩
 have HL1:Hid (L1=X.b1):=hL1
 clear hL1
 go_loopg [] (L1.length) (fun n wr=>∃ j:Nat,n=L1.length - j∧j≤X.t1.length+L1.length - s.c∧AE e (b+1) { X with b1:=L1.drop j } D wr∧Keeps D w wr)
 case atStart=>exact ⟨0,rfl,Nat.zero_le _,by rw [List.drop_zero,HL1.out];exact H4.out,HK4.out⟩
 case round =>
  clear H4 HK4
  obtain ⟨j,rfl,hj,hA,hK⟩:=hrel
  have HA:Hid (AE e (b+1) { X with b1:=L1.drop j } D wr):=hA
  have HK:Hid (Keeps D w wr):=hK
  have HCt:Hid (Counts e { X with b1:=L1.drop j } wr):=hA.counts (by omega)
  have HRm:Hid (∀ W:World,Below wr.heap.size wr W→W.cell? ⟨e,0,none⟩=some (.int .i64 (s.c:Nat))∧e<W.heap.size):=fun W hW=>by
   have h:=EN.cells (EN.below hA hW)
   rw [← HC1.out.1]
   exact ⟨h.1,h.2.2.2.1⟩
  obtain ⟨c1,heo⟩:=HRm.out wr (Below.refl _ _)
  obtain ⟨q,hq⟩:∃ q,q=X.t1.length+(L1.length - j):=⟨_,rfl⟩
  have HTq:Hid (total (qs { X with b1:=L1.drop j }) [0,2]=q):=by
   show total (qs { X with b1:=L1.drop j }) [0,2]=q
   rw [tot2,hq,← List.length_drop]
   rfl
  have HBd:Hid (Below wr.heap.size wr (wr.alloc (.cells #[.int .i64 0,.int .i64 2] 3)).drew∧Below wr.heap.size wr (wr.drew.alloc (.cells #[.int .i64 0,.int .i64 2] 3))):=⟨((Below.refl _ wr).alloc (Nat.le_refl _) _).drew,((Below.refl _ wr).drew).alloc (Nat.le_refl _) _⟩
  have hn1:=HN.out
  by_cases hgt:s.c<q
  ·have g1:decide ((s.c:Int)<(q:Int))=true:=decide_eq_true (by omega)
   have g2:decide (s.c<q)=true:=decide_eq_true hgt
   obtain ⟨x,rest,hx⟩:=drop_some (l:=L1) (j:=j) (by omega)
   have hrest:=drop_more hx
   have HDr:Hid (∀ W:World,Below wr.heap.size wr W→Calls Tryz.prog 189 #[.pointer (some ⟨e,0,none⟩),.int .i64 2] W fun ee w'=>ee=.returned (.string x)∧AE e (b+1) { X with b1:=L1.drop (j+1) } D w'∧Keeps D W w'):=fun W hW=>by
    have ho1:Single { X with b1:=L1.drop j }:=by have:=single_b1 HXs.out j;rw [HL1.out];exact this
    have h:=drop_b1 (hA.below hW:AE e (b+1) { X with b1:=L1.drop j } D W) ho1 (fun k h=>HD.out k (Nat.le_trans (Nat.le_trans hK.size hW.size) h)) (by omega) (k:=x) (r:=rest) hx
    rw [hrest] at h
    exact h
   have HQ:Hid (s.c<q∧q=X.t1.length+(L1.length - j)):=⟨hgt,hq⟩
   clear hA hK hx hrest hq hgt hn1
   go_upto_region 4 with fail
   go_cut [31] from 24 to 33 (fun tv wx=>tv=.bool true∧Below wr.heap.size wr wx)
   case first =>
    go_region_with (go_at_call 187;refine (HCt.out _ _ [0,2] (by first | exact HBd.out.1 | exact HBd.out.2) (by first | exact ints_new wr [0,2] _ rfl | exact ints_new wr.drew [0,2] _ rfl) (by simp) (by simp)).mono ?_;rintro ee w5 ⟨rfl,rfl⟩;rw [HTq.out])
    all_goals (go_wp2_with fail;go_meet;case rel=>exact ⟨rfl,by first | exact HBd.out.1 | exact HBd.out.2⟩)
   case rest =>
    obtain ⟨rfl,hbx⟩:=hcut
    have HBx:Hid (Below wr.heap.size wr wc):=hbx
    have hdr:=HDr.out wc hbx
    clear hbx c1 heo g1 g2
    go_wp2_with (go_at_call 189;refine Calls.mono hdr ?_;clear hdr;rintro ee w6 ⟨rfl,h6,hk6⟩;have H6:Hid (AE e (b+1) { X with b1:=L1.drop (j+1) } D w6):=h6;have HK6:Hid (Keeps D w w6):=((HK.out.trans (Keeps.of_below HBx.out)).trans hk6);clear h6 hk6)
    go_roundg (L1.length - (j+1))
    case measure=>have:=HQ.out;have:=HN.out;omega
    case rel=>exact ⟨j+1,rfl,by have:=HQ.out;have:=HN.out;omega,H6.out,HK6.out⟩
  ·have g1:decide ((s.c:Int)<(q:Int))=false:=decide_eq_false (by omega)
   have g2:decide (s.c<q)=false:=decide_eq_false hgt
   have htr:({ X with b1:=L1.drop j }:Stt)=A.trim1 X:=by
    unfold A.trim1
    rw [HC1.out.1,← HL1.out,show X.t1.length+L1.length - s.c=j by omega]
   have HTr:Hid (({ X with b1:=L1.drop j }:Stt)=A.trim1 X):=htr
   have HLen:Hid (L1.length - j+X.t1.length≤s.c):=by show _≤_;omega
   clear hA hK hq hgt hn1 htr
   go_upto_region 4 with fail
   go_cut [31] from 24 to 33 (fun tv wx=>tv=.bool false∧Below wr.heap.size wr wx)
   case first =>
    go_region_with (go_at_call 187;refine (HCt.out _ _ [0,2] (by first | exact HBd.out.1 | exact HBd.out.2) (by first | exact ints_new wr [0,2] _ rfl | exact ints_new wr.drew [0,2] _ rfl) (by simp) (by simp)).mono ?_;rintro ee w5 ⟨rfl,rfl⟩;rw [HTq.out])
    all_goals (go_wp2_with fail;go_meet;case rel=>exact ⟨rfl,by first | exact HBd.out.1 | exact HBd.out.2⟩)
   case rest =>
    obtain ⟨rfl,hbx⟩:=hcut
    obtain ⟨Y,hY⟩:∃ Y,Y=A.trim1 X:=⟨_,rfl⟩
    have HYA:Hid (AE e (b+1) Y D wc):=by
     have h:=HA.out.below hbx
     rw [HTr.out,← hY] at h
     exact h
    have HKc:Hid (Keeps D w wc):=HK.out.trans (Keeps.of_below hbx)
    have HYs:Hid (Single Y):=by rw [hY];exact single_b1 HXs.out _
    have HYc:Hid (Y.c=s.c):=by rw [hY];exact HC1.out.1
    have hn3:Y.t1.length+Y.t2.length+Y.b1.length≤2*s.c:=by
     have h1:=HLen.out
     have h2:=HN.out
     rw [hY,← HTr.out]
     show X.t1.length+X.t2.length+(L1.drop j).length≤_
     rw [List.length_drop]
     omega
    have HY:Hid (Y=A.trim1 X):=hY
    have HN3:Hid (Y.t1.length+Y.t2.length+Y.b1.length≤2*s.c):=hn3
    obtain ⟨L2,hL2⟩:∃ L2,L2=Y.b2:=⟨_,rfl⟩
    have HL2:Hid (L2=Y.b2):=hL2
    clear hL2 hY hn3 g1 g2 c1 heo hbx
    go_wp2_with fail
    go_loopg [] (L2.length) (fun n wy=>∃ j2:Nat,n=L2.length - j2∧j2≤Y.t1.length+Y.t2.length+Y.b1.length+L2.length - 2*s.c∧AE e (b+1) { Y with b2:=L2.drop j2 } D wy∧Keeps D w wy)
    case atStart=>exact ⟨0,rfl,Nat.zero_le _,by rw [List.drop_zero,HL2.out];exact HYA.out,HKc.out⟩
    case round =>
     clear HA HK HCt HRm HTq HBd HYA HKc HLen HTr
     obtain ⟨j2,rfl,hj2,hA2,hK2⟩:=hrel
     have HA2:Hid (AE e (b+1) { Y with b2:=L2.drop j2 } D wr):=hA2
     have HK2:Hid (Keeps D w wr):=hK2
     have HCt2:Hid (Counts e { Y with b2:=L2.drop j2 } wr):=hA2.counts (by omega)
     have HRm2:Hid (∀ W:World,Below wr.heap.size wr W→W.cell? ⟨e,0,none⟩=some (.int .i64 (s.c:Nat))∧e<W.heap.size):=fun W hW=>by
      have h:=EN.cells (EN.below hA2 hW)
      rw [← HYc.out]
      exact ⟨h.1,h.2.2.2.1⟩
     obtain ⟨c1,heo⟩:=HRm2.out wr (Below.refl _ _)
     obtain ⟨q2,hq2⟩:∃ q2,q2=Y.t1.length+Y.t2.length+Y.b1.length+(L2.length - j2):=⟨_,rfl⟩
     have HTq2:Hid (total (qs { Y with b2:=L2.drop j2 }) [0,1,2,3]=q2):=by
      show total (qs { Y with b2:=L2.drop j2 }) [0,1,2,3]=q2
      rw [tot4,hq2,← List.length_drop]
      rfl
     have HBe:Hid (Below wr.heap.size wr (wr.alloc (.cells #[.int .i64 0,.int .i64 1,.int .i64 2,.int .i64 3] 3)).drew∧Below wr.heap.size wr (wr.drew.alloc (.cells #[.int .i64 0,.int .i64 1,.int .i64 2,.int .i64 3] 3))):=⟨((Below.refl _ wr).alloc (Nat.le_refl _) _).drew,((Below.refl _ wr).drew).alloc (Nat.le_refl _) _⟩
     have hw2:IntKind.i64.wrap (2*(s.c:Int))=2*(s.c:Int):=by simp [IntKind.wrap_i64];omega
     have hn3:=HN3.out
     by_cases hgt2:2*s.c<q2
     ·have g1:decide (2*(s.c:Int)<(q2:Int))=true:=decide_eq_true (by omega)
      have g2:decide (2*s.c<q2)=true:=decide_eq_true hgt2
      obtain ⟨x,rest,hx⟩:=drop_some (l:=L2) (j:=j2) (by omega)
      have hrest:=drop_more hx
      have HDr2:Hid (∀ W:World,Below wr.heap.size wr W→Calls Tryz.prog 189 #[.pointer (some ⟨e,0,none⟩),.int .i64 3] W fun ee w'=>ee=.returned (.string x)∧AE e (b+1) { Y with b2:=L2.drop (j2+1) } D w'∧Keeps D W w'):=fun W hW=>by
       have ho1:Single { Y with b2:=L2.drop j2 }:=by have:=single_b2 HYs.out j2;rw [HL2.out];exact this
       have h:=drop_b2 (hA2.below hW:AE e (b+1) { Y with b2:=L2.drop j2 } D W) ho1 (fun k h=>HD.out k (Nat.le_trans (Nat.le_trans hK2.size hW.size) h)) (by omega) (k:=x) (r:=rest) hx
       rw [hrest] at h
       exact h
      have HQ2:Hid (2*s.c<q2∧q2=Y.t1.length+Y.t2.length+Y.b1.length+(L2.length - j2)):=⟨hgt2,hq2⟩
      clear hA2 hK2 hx hrest hq2 hgt2 hn3
      go_upto_region 6 with fail
      go_cut [42] from 34 to 44 (fun tv wx=>tv=.bool true∧Below wr.heap.size wr wx)
      case first =>
       go_region_with (go_at_call 187;refine (HCt2.out _ _ [0,1,2,3] (by first | exact HBe.out.1 | exact HBe.out.2) (by first | exact ints_new wr [0,1,2,3] _ rfl | exact ints_new wr.drew [0,1,2,3] _ rfl) (by simp) (by simp)).mono ?_;rintro ee w7 ⟨rfl,rfl⟩;rw [HTq2.out])
       all_goals (go_wp2_with fail;go_meet;case rel=>exact ⟨rfl,by first | exact HBe.out.1 | exact HBe.out.2⟩)
      case rest =>
       obtain ⟨rfl,hbx⟩:=hcut
       have HBx:Hid (Below wr.heap.size wr wc):=hbx
       have hdr:=HDr2.out wc hbx
       clear hbx c1 heo g1 g2
       go_wp2_with (go_at_call 189;refine Calls.mono hdr ?_;clear hdr;rintro ee w8 ⟨rfl,h8,hk8⟩;have H8:Hid (AE e (b+1) { Y with b2:=L2.drop (j2+1) } D w8):=h8;have HK8:Hid (Keeps D w w8):=((HK2.out.trans (Keeps.of_below HBx.out)).trans hk8);clear h8 hk8)
       go_roundg (L2.length - (j2+1))
       case measure=>have:=HQ2.out;have:=HN3.out;omega
       case rel=>exact ⟨j2+1,rfl,by have:=HQ2.out;have:=HN3.out;omega,H8.out,HK8.out⟩
     ·have g1:decide (2*(s.c:Int)<(q2:Int))=false:=decide_eq_false (by omega)
      have g2:decide (2*s.c<q2)=false:=decide_eq_false hgt2
      have htr2:({ Y with b2:=L2.drop j2 }:Stt)=A.trim2 (A.trim1 X):=by
       rw [← HY.out]
       unfold A.trim2
       rw [HYc.out,← HL2.out,show Y.t1.length+Y.t2.length+Y.b1.length+L2.length - 2*s.c=j2 by omega]
      have HTr2:Hid (({ Y with b2:=L2.drop j2 }:Stt)=A.trim2 (A.trim1 X)):=htr2
      clear hA2 hK2 hq2 hgt2 hn3 htr2
      go_upto_region 6 with fail
      go_cut [42] from 34 to 44 (fun tv wx=>tv=.bool false∧Below wr.heap.size wr wx)
      case first =>
       go_region_with (go_at_call 187;refine (HCt2.out _ _ [0,1,2,3] (by first | exact HBe.out.1 | exact HBe.out.2) (by first | exact ints_new wr [0,1,2,3] _ rfl | exact ints_new wr.drew [0,1,2,3] _ rfl) (by simp) (by simp)).mono ?_;rintro ee w7 ⟨rfl,rfl⟩;rw [HTq2.out])
       all_goals (go_wp2_with fail;go_meet;case rel=>exact ⟨rfl,by first | exact HBe.out.1 | exact HBe.out.2⟩)
      case rest =>
       obtain ⟨rfl,hbx⟩:=hcut
       have HBx:Hid (Below wr.heap.size wr wc):=hbx
       clear hbx c1 heo g1 g2
       go_wp2_with fail
       go_ret
       rw [← HTr2.out]
       exact ⟨rfl,HA2.out.below HBx.out,HK2.out.trans (Keeps.of_below HBx.out)⟩
theorem load_any (H:AE e b s D w) (hok:A.Ok s) (hD:∀ k,w.heap.size≤k→D k) (hb:b≤600000) (key:ByteArray) (hk:key.size≤1000) :
 Calls Tryz.prog 175 #[.pointer (some ⟨e,0,none⟩),.string key] w fun ee w'=>ee=.returned (.bool (A.load s key).1)∧AE e (b+1) (A.load s key).2 D w'∧Keeps D w w':=by
 by_cases hin:key∈A.keys s
 ·rw [A.load_no (.inl hin)]
  refine (load_no1 H hb key hk hin).mono ?_
  rintro ee w' ⟨rfl,hb2⟩
  exact ⟨rfl,(H.below hb2).more (Nat.le_succ b),.of_below hb2⟩
 ·rcases Nat.lt_or_ge (A.keys s).length s.c with hl | hl
  ·have e0:A.load s key=(true,A.trim2 (A.trim1 (A.comes s key))):=by
    unfold A.load
    rw [if_neg (by intro h3;rcases h3 with h3 | h3;exact hin h3;omega)]
   rw [e0]
   exact load_yes1 H hok hD hb key hk hin hl
  ·rw [A.load_no (.inr hl)]
   refine (load_no2 H hb key hk hin hl).mono ?_
   rintro ee w' ⟨rfl,hb2⟩
   exact ⟨rfl,(H.below hb2).more (Nat.le_succ b),.of_below hb2⟩
end
end Go.Proofs.YtkkkkiejnmpdkaaGreatDoor.Arc
