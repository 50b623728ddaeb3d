/- Lirs Pu: Pure Bs -/
import Derived.Test.YtkkkkiejnmpdkaaGreatDoorTx
namespace Go.Proofs.YtkkkkiejnmpdkaaGreatDoor.Lirs.A
structure St (κ:Type) where
 t1:List κ
 b1:List κ
 t2:List κ
 c:Nat
section
variable {κ:Type} [DecidableEq κ]
def cut (l:List κ) (k:κ):List κ:=l.filter (fun x=>decide (x≠k))
def one (a b:κ):Nat:=if a=b then 1 else 0
def cnt (k:κ):List κ→Nat
 | []=>0
 | x::l=>one x k+cnt k l
theorem one_self (a:κ):one a a=1:=by simp [one]
theorem one_ne {a b:κ} (h:a≠b):one a b=0:=by simp [one,h]
theorem cnt_cons (k x:κ) (l:List κ):cnt k (x::l)=one x k+cnt k l:=rfl
theorem cnt_append (k:κ) (l m:List κ):cnt k (l++m)=cnt k l+cnt k m:=by
 induction l with
 | nil=>simp [cnt]
 | cons x l ih=>simp [cnt,ih];omega
theorem cnt_snoc (k x:κ) (l:List κ):cnt k (l++[x])=cnt k l+one x k:=by rw [cnt_append];simp [cnt]
theorem cnt_pos {k:κ} {l:List κ}:0<cnt k l↔k∈l:=by
 induction l with
 | nil=>simp [cnt]
 | cons x l ih =>
   rw [cnt_cons,List.mem_cons,← ih]
   unfold one
   by_cases h:x=k
   ·simp [h];omega
   ·simp [h,Ne.symm h]
theorem cnt_zero {k:κ} {l:List κ}:cnt k l=0↔k∉l:=by rw [← cnt_pos];omega
theorem cnt_cut (k j:κ) (l:List κ):cnt k (cut l j)=if k=j then 0 else cnt k l:=by
 induction l with
 | nil=>simp [cut,cnt]
 | cons x l ih =>
   unfold cut at *
   by_cases h:x=j
   ·subst h
    simp only [List.filter_cons]
    by_cases h2:k=x
    ·simp [h2] at *;exact ih
    ·simp [h2,cnt_cons,one,Ne.symm h2] at *;exact ih
   ·simp only [List.filter_cons]
    by_cases h2:k=j
    ·subst h2;simp [h,cnt_cons,one] at *;exact ih
    ·simp [h,h2,cnt_cons] at *;exact ih
theorem cut_same {k:κ} {l:List κ} (h:k∉l):cut l k=l:=by
 unfold cut
 rw [List.filter_eq_self]
 intro x hx
 simp
 rintro rfl
 exact h hx
def Once (l:List κ):Prop:=∀ k,cnt k l≤1
theorem Once.nodup {l:List κ} (h:Once l):l.Nodup:=by
 induction l with
 | nil=>simp
 | cons x l ih =>
   rw [List.nodup_cons]
   refine ⟨fun hx=>?_,ih (fun k=>by have:=h k;rw [cnt_cons] at this;omega)⟩
   have:=h x
   rw [cnt_cons,one_self] at this
   have:=cnt_pos.2 hx
   omega
theorem cnt_count (k:κ) (l:List κ):cnt k l=l.count k:=by
 induction l with
 | nil=>rfl
 | cons x l ih =>
   rw [cnt_cons,List.count_cons,ih]
   by_cases h:x=k
   ·simp [h,one];omega
   ·simp [h,one]
theorem length_of_cnt {l m:List κ} (h:∀ k,cnt k l=cnt k m):l.length=m.length:=by
 apply List.Perm.length_eq
 rw [List.perm_iff_count]
 intro k
 rw [← cnt_count,← cnt_count,h]
theorem length_cut_le (l:List κ) (k:κ):(cut l k).length≤l.length:=List.length_filter_le _ _
theorem cut_head {x:κ} {l:List κ} (h:Once (x::l)):cut (x::l) x=l:=by
 have hx:x∉l:=by
  rw [← cnt_zero]
  have:=h x
  rw [cnt_cons,one_self] at this
  omega
 have:cut (x::l) x=cut l x:=by simp [cut]
 rw [this,cut_same hx]
def lay (l:List κ) (k:κ):List κ:=cut l k++[k]
def isHot (q g:List κ) (k:κ):Bool:=decide (k∉q)&&decide (k∉g)
def hots (s:St κ):List κ:=s.t1.filter (isHot s.b1 s.t2)
def keys (s:St κ):List κ:=s.b1++hots s
def ghosts (s:St κ):List κ:=s.t2
def start (c:Nat):St κ:=⟨[],[],[],c⟩
def most (s:St κ):Nat:=s.c - max 1 (s.c / 10)
def heat (s:St κ) (k:κ):St κ:=⟨lay s.t1 k,cut s.b1 k,cut s.t2 k,s.c⟩
def layCold (s:St κ) (k:κ):St κ:=⟨lay s.t1 k,lay s.b1 k,cut s.t2 k,s.c⟩
def demote (s:St κ):St κ:=match s.t1 with
 | []=>s
 | k::r=>⟨r,s.b1++[k],s.t2,s.c⟩
def cool (s:St κ):St κ:=if most s<(hots s).length then demote s else s
def pr (q:List κ):List κ→List κ→List κ × List κ
 | [],g=>([],g)
 | k::r,g=>if isHot q g k then (k::r,g) else pr q r (cut g k)
def prune (s:St κ):St κ:=⟨(pr s.b1 s.t1 s.t2).1,s.b1,(pr s.b1 s.t1 s.t2).2,s.c⟩
def put (s:St κ) (k:κ):St κ:=if (hots s).length<most s then heat s k else layCold s k
def load (s:St κ) (key:κ):Bool × St κ :=
 if key∈keys s∨s.c≤(keys s).length then (false,s) else (true,prune (put s key))
structure Base (s:St κ):Prop where
 lo:1≤s.c
 hi:s.c≤1024
 ot:∀ k,cnt k s.t1≤1
 oq:∀ k,cnt k s.b1≤1
 og:∀ k,cnt k s.t2≤1
 sub:∀ k,k∈s.t2→k∈s.t1
 dis:∀ k,k∈s.t2→k∉s.b1
 ord:∃ l,s.t1.filter (fun k=>!isHot s.b1 s.t2 k)=s.t2++l∧l.Sublist s.b1
structure Ok (s:St κ):Prop extends Base s where
 res:(keys s).length≤s.c
 hot:(hots s).length≤most s
 bot:∀ k r,s.t1=k::r→isHot s.b1 s.t2 k=true
 gho:s.t2.length≤s.c
theorem start_ok {c:Nat} (h:1≤c) (h2:c≤1024):Ok (start c:St κ) :=
 ⟨⟨h,h2,fun k=>by simp [start,cnt],fun k=>by simp [start,cnt],fun k=>by simp [start,cnt],by simp [start],by simp [start],[],by simp [start],by simp [start]⟩,by simp [start,keys,hots],by simp [start,hots],by simp [start],by simp [start]⟩
theorem isHot_iff {q g:List κ} {k:κ}:isHot q g k=true↔k∉q∧k∉g:=by unfold isHot;simp
theorem isHot_not {q g:List κ} {k:κ}:isHot q g k=false↔k∈q∨k∈g:=by
 rw [← Bool.not_eq_true,isHot_iff]
 by_cases h:k∈q <;> by_cases h2:k∈g <;> simp [h,h2]
theorem mem_cut {j k:κ} {l:List κ}:j∈cut l k↔j∈l∧j≠k:=by unfold cut;simp
theorem mem_lay {j k:κ} {l:List κ}:j∈lay l k↔j∈l∨j=k:=by
 unfold lay
 rw [List.mem_append,mem_cut,List.mem_singleton]
 by_cases h:j=k <;> simp [h]
theorem cnt_lay (j k:κ) (l:List κ):cnt j (lay l k)=if j=k then 1 else cnt j l:=by
 unfold lay
 rw [cnt_snoc,cnt_cut]
 by_cases h:j=k
 ·subst h;simp [one_self]
 ·simp [h,one_ne (Ne.symm h)]
theorem cut_filter (p:κ→Bool) (l:List κ) (k:κ):cut (l.filter p) k=(cut l k).filter p:=by
 unfold cut
 rw [List.filter_filter,List.filter_filter]
 congr 1
 funext x
 exact Bool.and_comm _ _
theorem filter_cut_congr {p p':κ→Bool} {l:List κ} {k:κ} (h:∀ x,x≠k→p x=p' x):(cut l k).filter p=(cut l k).filter p':=by
 apply List.filter_congr
 intro x hx
 exact h x (mem_cut.1 hx).2
theorem cut_append (l m:List κ) (k:κ):cut (l++m) k=cut l k++cut m k:=by unfold cut;exact List.filter_append _ _
theorem cut_sub {l m:List κ} (h:l.Sublist m) (k:κ):(cut l k).Sublist (cut m k):=h.filter _
theorem isHot_cut {q g:List κ} {k x:κ} (h:x≠k):isHot (cut q k) (cut g k) x=isHot q g x:=by
 unfold isHot
 have e1:x∉cut q k↔x∉q:=by rw [mem_cut];simp [h]
 have e2:x∉cut g k↔x∉g:=by rw [mem_cut];simp [h]
 rw [decide_eq_decide.2 e1,decide_eq_decide.2 e2]
theorem isHot_lay {q g:List κ} {k x:κ} (h:x≠k):isHot (lay q k) (cut g k) x=isHot q g x:=by
 unfold isHot
 have e1:x∉lay q k↔x∉q:=by rw [mem_lay];simp [h]
 have e2:x∉cut g k↔x∉g:=by rw [mem_cut];simp [h]
 rw [decide_eq_decide.2 e1,decide_eq_decide.2 e2]
theorem hots_heat (s:St κ) (k:κ):hots (heat s k)=cut (hots s) k++[k]:=by
 unfold hots heat lay
 simp only
 rw [List.filter_append,filter_cut_congr (fun x hx=>isHot_cut hx),cut_filter]
 have:isHot (cut s.b1 k) (cut s.t2 k) k=true:=isHot_iff.2 ⟨fun h=>(mem_cut.1 h).2 rfl,fun h=>(mem_cut.1 h).2 rfl⟩
 simp [this]
theorem hots_cold (s:St κ) (k:κ):hots (layCold s k)=cut (hots s) k:=by
 unfold hots layCold
 show (cut s.t1 k++[k]).filter _=_
 rw [List.filter_append,filter_cut_congr (fun x hx=>isHot_lay hx),cut_filter]
 have:isHot (lay s.b1 k) (cut s.t2 k) k=false:=isHot_not.2 (.inl (mem_lay.2 (.inr rfl)))
 simp [this]
theorem keys_heat (s:St κ) (k:κ):keys (heat s k)=cut (keys s) k++[k]:=by
 unfold keys
 rw [hots_heat,cut_append,List.append_assoc]
 rfl
theorem keys_cold (s:St κ) (k:κ):keys (layCold s k)=cut s.b1 k++k::cut (hots s) k:=by
 unfold keys
 rw [hots_cold]
 show (cut s.b1 k++[k])++_=_
 simp
theorem mem_hots {s:St κ} {k:κ}:k∈hots s↔k∈s.t1∧k∉s.b1∧k∉s.t2:=by
 unfold hots
 rw [List.mem_filter,isHot_iff]
theorem cnt_filter_le (p:κ→Bool) (k:κ) (l:List κ):cnt k (l.filter p)≤cnt k l:=by
 rw [cnt_count,cnt_count]
 exact List.Sublist.count_le k List.filter_sublist
theorem mem_keys {s:St κ} {k:κ}:k∈keys s↔k∈s.b1∨k∈hots s:=by unfold keys;exact List.mem_append
theorem keys_cnt (s:St κ) (k:κ):cnt k (keys s)=cnt k s.b1+cnt k (hots s):=cnt_append _ _ _
theorem Base.once {s:St κ} (h:Base s) (k:κ):cnt k (keys s)≤1:=by
 rw [keys_cnt]
 have h1:=h.oq k
 have h2:=Nat.le_trans (cnt_filter_le (isHot s.b1 s.t2) k s.t1) (h.ot k)
 by_cases e:k∈hots s
 ·have:=cnt_zero.2 (mem_hots.1 e).2.1
  unfold hots
  omega
 ·have:=cnt_zero.2 e
  omega
theorem Base.ghost {s:St κ} (h:Base s) {k:κ} (hk:k∈s.t2):k∉keys s:=by
 rw [mem_keys]
 rintro (h1 | h1)
 ·exact h.dis k hk h1
 ·exact (mem_hots.1 h1).2.2 hk
structure Lt (s s':St κ):Prop where
 base:Base s'
 hots:hots s'=hots s
 b1:s'.b1=s.b1
 c:s'.c=s.c
 gl:s'.t2.length≤s.t2.length
 gs:∀ k,k∈s'.t2→k∈s.t2
theorem Lt.refl {s:St κ} (h:Base s):Lt s s:=⟨h,rfl,rfl,rfl,Nat.le_refl _,fun _ h=>h⟩
theorem Lt.trans {a b c:St κ} (h:Lt a b) (k:Lt b c):Lt a c :=
 ⟨k.base,k.hots.trans h.hots,k.b1.trans h.b1,k.c.trans h.c,Nat.le_trans k.gl h.gl,fun x hx=>h.gs x (k.gs x hx)⟩
theorem Lt.keys {s s':St κ} (h:Lt s s'):keys s'=keys s:=by unfold A.keys;rw [h.b1,h.hots]
theorem cut_tail {k:κ} {r:List κ} (h:∀ j,cnt j (k::r)≤1):cut r k=r:=by
 apply cut_same
 have:=h k
 rw [cnt_cons,one_self] at this
 exact cnt_zero.1 (by omega)
theorem drop_bottom {s:St κ} {k:κ} {r:List κ} (h:Base s) (ht:s.t1=k::r) (hn:isHot s.b1 s.t2 k=false):Lt s ⟨r,s.b1,cut s.t2 k,s.c⟩:=by
 obtain ⟨t,q,g,c⟩:=s
 simp only at ht hn ⊢
 subst ht
 have hr:cut r k=r:=cut_tail h.ot
 have hcg:∀ x,x≠k→isHot q (cut g k) x=isHot q g x:=by
  intro x hx
  unfold isHot
  have e2:x∉cut g k↔x∉g:=by rw [mem_cut];simp [hx]
  rw [decide_eq_decide.2 e2]
 have e1:r.filter (isHot q (cut g k))=r.filter (isHot q g):=by rw [← hr];exact filter_cut_congr hcg
 have e2:r.filter (fun x=>!isHot q (cut g k) x)=r.filter (fun x=>!isHot q g x):=by rw [← hr];exact filter_cut_congr (fun x hx=>by rw [hcg x hx])
 refine ⟨⟨h.lo,h.hi,fun j=>?_,h.oq,fun j=>?_,fun j hj=>?_,fun j hj=>h.dis j (mem_cut.1 hj).1,?_⟩,?_,rfl,rfl,length_cut_le _ _,fun j hj=>(mem_cut.1 hj).1⟩
 ·have:=h.ot j;rw [cnt_cons] at this;simp only;omega
 ·have:=h.og j;simp only [cnt_cut] at this ⊢;split <;> omega
 ·obtain ⟨h1,h2⟩:=mem_cut.1 hj
  have:=h.sub j h1
  simp only [List.mem_cons] at this
  exact this.resolve_left h2
 ·obtain ⟨l,hl,hs⟩:=h.ord
  simp only [List.filter_cons,hn,Bool.not_false,if_true] at hl
  simp only [e2]
  cases g with
  | nil =>
    simp only [List.nil_append] at hl
    refine ⟨r.filter (fun x=>!isHot q [] x),by simp [cut],?_⟩
    rw [← hl] at hs
    exact (List.sublist_cons_self _ _).trans hs
  | cons x g =>
    simp only [List.cons_append,List.cons.injEq] at hl
    obtain ⟨rfl,hl⟩:=hl
    refine ⟨l,?_,hs⟩
    rw [cut_head h.og]
    exact hl
 ·unfold A.hots
  simp only [List.filter_cons,hn,e1]
  rfl
def Bot (s:St κ):Prop:=∀ k r,s.t1=k::r→isHot s.b1 s.t2 k=true
theorem prune_step {s:St κ} {k:κ} {r:List κ} (h:s.t1=k::r) (hn:isHot s.b1 s.t2 k=false):prune ⟨r,s.b1,cut s.t2 k,s.c⟩=prune s:=by
 obtain ⟨t,q,g,c⟩:=s
 simp only at h hn
 subst h
 simp [prune,pr,hn]
theorem prune_stop {s:St κ} (h:Bot s):prune s=s:=by
 obtain ⟨t,q,g,c⟩:=s
 cases t with
 | nil=>rfl
 | cons k r =>
   have:=h k r rfl
   simp only at this
   simp [prune,pr,this]
theorem prune_lt {s:St κ} (h:Base s):Lt s (prune s)∧Bot (prune s):=by
 obtain ⟨t,q,g,c⟩:=s
 induction t generalizing g with
 | nil=>exact ⟨Lt.refl h,fun k r e=>by cases e⟩
 | cons k r ih =>
   cases hn:isHot q g k with
   | true =>
     have hb:Bot (⟨k::r,q,g,c⟩:St κ):=fun k' r' e=>by cases e;exact hn
     rw [prune_stop hb]
     exact ⟨Lt.refl h,hb⟩
   | false =>
     have hl:=drop_bottom h (k:=k) (r:=r) rfl hn
     have:=ih _ hl.base
     rw [← prune_step (s:=⟨k::r,q,g,c⟩) rfl hn]
     exact ⟨hl.trans this.1,this.2⟩
theorem heat_base {s:St κ} (h:Base s) (k:κ):Base (heat s k):=by
 refine ⟨h.lo,h.hi,fun j=>?_,fun j=>?_,fun j=>?_,fun j hj=>?_,fun j hj=>?_,?_⟩
 ·have:=h.ot j;simp only [heat,cnt_lay];split <;> omega
 ·have:=h.oq j;simp only [heat,cnt_cut];split <;> omega
 ·have:=h.og j;simp only [heat,cnt_cut];split <;> omega
 ·exact mem_lay.2 (.inl (h.sub j (mem_cut.1 hj).1))
 ·exact fun h2=>h.dis j (mem_cut.1 hj).1 (mem_cut.1 h2).1
 ·obtain ⟨l,hl,hs⟩:=h.ord
  refine ⟨cut l k,?_,cut_sub hs k⟩
  show (cut s.t1 k++[k]).filter _=cut s.t2 k++cut l k
  have e:(!isHot (heat s k).b1 (heat s k).t2 k)=false:=by
   rw [Bool.not_eq_false']
   exact isHot_iff.2 ⟨fun h=>(mem_cut.1 h).2 rfl,fun h=>(mem_cut.1 h).2 rfl⟩
  rw [List.filter_append,List.filter_cons,e,if_neg Bool.false_ne_true,List.filter_nil,List.append_nil,filter_cut_congr (p':=fun x=>!isHot s.b1 s.t2 x) (fun x hx=>by rw [show isHot (heat s k).b1 (heat s k).t2 x=isHot s.b1 s.t2 x from isHot_cut hx]),← cut_filter,hl,cut_append]
theorem cold_base {s:St κ} (h:Base s) (k:κ):Base (layCold s k):=by
 refine ⟨h.lo,h.hi,fun j=>?_,fun j=>?_,fun j=>?_,fun j hj=>?_,fun j hj=>?_,?_⟩
 ·have:=h.ot j;simp only [layCold,cnt_lay];split <;> omega
 ·have:=h.oq j;simp only [layCold,cnt_lay];split <;> omega
 ·have:=h.og j;simp only [layCold,cnt_cut];split <;> omega
 ·exact mem_lay.2 (.inl (h.sub j (mem_cut.1 hj).1))
 ·intro h2
  rcases mem_lay.1 h2 with h3 | h3
  ·exact h.dis j (mem_cut.1 hj).1 h3
  ·exact (mem_cut.1 hj).2 h3
 ·obtain ⟨l,hl,hs⟩:=h.ord
  refine ⟨cut l k++[k],?_,(cut_sub hs k).append (List.Sublist.refl _)⟩
  show (cut s.t1 k++[k]).filter _=cut s.t2 k++(cut l k++[k])
  have e:(!isHot (layCold s k).b1 (layCold s k).t2 k)=true:=by
   rw [Bool.not_eq_true']
   exact isHot_not.2 (.inl (mem_lay.2 (.inr rfl)))
  rw [List.filter_append,List.filter_cons,e,if_pos rfl,List.filter_nil,filter_cut_congr (p':=fun x=>!isHot s.b1 s.t2 x) (fun x hx=>by rw [show isHot (layCold s k).b1 (layCold s k).t2 x=isHot s.b1 s.t2 x from isHot_lay hx]),← cut_filter,hl,cut_append,List.append_assoc]
theorem demote_is {s:St κ} {k:κ} {r:List κ} (h:Base s) (ht:s.t1=k::r) (hk:isHot s.b1 s.t2 k=true) :
 demote s=⟨r,s.b1++[k],s.t2,s.c⟩∧Base (demote s)∧hots s=k::hots (demote s)∧keys (demote s)=keys s:=by
 obtain ⟨t,q,g,c⟩:=s
 simp only at ht hk
 subst ht
 obtain ⟨hq,hg⟩:=isHot_iff.1 hk
 have hr:cut r k=r:=cut_tail h.ot
 have hcg:∀ x,x≠k→isHot (q++[k]) g x=isHot q g x:=by
  intro x hx
  unfold isHot
  have e2:x∉q++[k]↔x∉q:=by simp [hx]
  rw [decide_eq_decide.2 e2]
 have e1:r.filter (isHot (q++[k]) g)=r.filter (isHot q g):=by rw [← hr];exact filter_cut_congr hcg
 have e2:r.filter (fun x=>!isHot (q++[k]) g x)=r.filter (fun x=>!isHot q g x):=by rw [← hr];exact filter_cut_congr (fun x hx=>by rw [hcg x hx])
 have hh:hots (⟨k::r,q,g,c⟩:St κ)=k::hots (⟨r,q++[k],g,c⟩:St κ):=by
  unfold hots
  simp only [List.filter_cons,hk,if_true,e1]
 refine ⟨rfl,⟨h.lo,h.hi,fun j=>?_,fun j=>?_,h.og,fun j hj=>?_,fun j hj=>?_,?_⟩,hh,?_⟩
 ·have:=h.ot j;rw [cnt_cons] at this;simp only [demote];omega
 ·have:=h.oq j
  simp only [demote,cnt_snoc] at this ⊢
  by_cases e:k=j
  ·subst e;have:=cnt_zero.2 hq;rw [one_self];omega
  ·rw [one_ne e];omega
 ·have h1:=h.sub j hj
  simp only [List.mem_cons] at h1
  rcases h1 with rfl | h1
  ·exact absurd hj hg
  ·exact h1
 ·simp only [demote]
  rw [List.mem_append,List.mem_singleton]
  rintro (h1 | rfl)
  ·exact h.dis j hj h1
  ·exact hg hj
 ·obtain ⟨l,hl,hs⟩:=h.ord
  refine ⟨l,?_,hs.trans (List.sublist_append_left _ _)⟩
  simp only [List.filter_cons,hk,Bool.not_true] at hl
  simp only [demote,e2]
  exact hl
 ·unfold keys
  rw [hh]
  simp [demote]
end
theorem most_of {κ:Type} {s s':St κ} (h:s'.c=s.c):most s'=most s:=by unfold most;rw [h]
section
variable {κ:Type} [DecidableEq κ]
theorem keys_length (s:St κ):(keys s).length=s.b1.length+(hots s).length:=by simp [keys]
theorem bot_heat {s:St κ} {k:κ} (h:Bot s) (hk:k∈s.t1) (hn:isHot s.b1 s.t2 k=false):Bot (heat s k):=by
 cases ht:s.t1 with
 | nil=>rw [ht] at hk;cases hk
 | cons x r =>
   have hx:=h x r ht
   have hne:x≠k:=by rintro rfl;rw [hn] at hx;cases hx
   intro k' r' e
   have:(heat s k).t1=x::(cut r k++[k]):=by
    show cut s.t1 k++[k]=_
    rw [ht]
    simp [cut,hne]
   rw [this] at e
   cases e
   exact (isHot_cut hne).trans hx
theorem cool_is {s:St κ} (h:Base s) (hb:(hots s).length≤most s∨Bot s) :
 Base (cool s)∧keys (cool s)=keys s∧(cool s).c=s.c∧(cool s).t2=s.t2∧((hots s).length≤most s+1→(hots (cool s)).length≤most s):=by
 unfold cool
 by_cases hl:most s<(hots s).length
 ·rw [if_pos hl]
  have hbot:Bot s:=hb.resolve_left (by omega)
  cases ht:s.t1 with
  | nil=>unfold hots at hl;rw [ht] at hl;simp at hl
  | cons k r =>
    obtain ⟨e,h1,h2,h3⟩:=demote_is h ht (hbot k r ht)
    refine ⟨h1,h3,by rw [e],by rw [e],fun h4=>?_⟩
    rw [h2,List.length_cons] at h4
    omega
 ·rw [if_neg hl]
  exact ⟨h,rfl,rfl,rfl,fun _=>by omega⟩
theorem heated_ok {s:St κ} {k:κ} (h:Ok s) (hb:(hots (heat s k)).length≤most s∨(k∈s.t1∧isHot s.b1 s.t2 k=false)) (hres:(keys (heat s k)).length≤s.c) :
 Ok (prune (cool (heat s k)))∧keys (prune (cool (heat s k)))=cut (keys s) k++[k]∧(prune (cool (heat s k))).c=s.c∧∀ j,j∈(prune (cool (heat s k))).t2→j∈s.t2:=by
 have hB:=heat_base h.toBase k
 obtain ⟨c1,c2,c3,c4,c5⟩:=cool_is hB (hb.imp (fun x=>x) (fun x=>bot_heat h.bot x.1 x.2))
 obtain ⟨p1,p2⟩:=prune_lt c1
 have hc:(prune (cool (heat s k))).c=s.c:=p1.c.trans c3
 have hhot:(hots (heat s k)).length≤most s+1:=by
  rw [hots_heat]
  have:=length_cut_le (hots s) k
  have:=h.hot
  simp
  omega
 have hk:keys (prune (cool (heat s k)))=keys (heat s k):=by rw [p1.keys,c2]
 refine ⟨⟨p1.base,by rw [hk,hc];exact hres,?_,p2,?_⟩,by rw [hk,keys_heat],hc,fun j hj=>?_⟩
 ·rw [most_of hc,p1.hots]
  exact c5 hhot
 ·rw [hc]
  refine Nat.le_trans p1.gl ?_
  rw [c4]
  exact Nat.le_trans (length_cut_le _ _) h.gho
 ·have:=p1.gs j hj
  rw [c4] at this
  exact (mem_cut.1 this).1
theorem cold_ok {s:St κ} {k:κ} (h:Ok s) (hres:(keys (layCold s k)).length≤s.c) :
 Ok (prune (layCold s k))∧keys (prune (layCold s k))=cut s.b1 k++k::cut (hots s) k∧(prune (layCold s k)).c=s.c∧(∀ j,j∈(prune (layCold s k)).t2→j∈s.t2)∧hots (prune (layCold s k))=cut (hots s) k:=by
 have hB:=cold_base h.toBase k
 obtain ⟨p1,p2⟩:=prune_lt hB
 have hc:(prune (layCold s k)).c=s.c:=p1.c
 refine ⟨⟨p1.base,by rw [p1.keys,hc];exact hres,?_,p2,?_⟩,by rw [p1.keys,keys_cold],hc,fun j hj=>(mem_cut.1 (p1.gs j hj)).1,by rw [p1.hots,hots_cold]⟩
 ·rw [most_of hc,p1.hots,hots_cold]
  exact Nat.le_trans (length_cut_le _ _) h.hot
 ·rw [hc]
  exact Nat.le_trans p1.gl (Nat.le_trans (length_cut_le _ _) h.gho)
theorem cnt_cold (s:St κ) (k j:κ):cnt j (cut s.b1 k++k::cut (hots s) k)=cnt j (cut (keys s) k++[k]):=by
 unfold keys
 rw [cut_append,cnt_append,cnt_cons,cnt_snoc,cnt_append]
 omega
theorem cnt_come {l:List κ} {k:κ} (hk:k∉l) (j:κ):cnt j (cut l k++[k])=cnt j l+one k j:=by rw [cnt_snoc,cut_same hk]
theorem come_len {l:List κ} {k:κ} (hk:k∉l):(cut l k++[k]).length=l.length+1:=by rw [cut_same hk];simp
theorem cool_room {s:St κ} (h:(hots s).length≤most s):cool s=s:=by unfold cool;rw [if_neg (by omega)]
theorem put_ok {s:St κ} {key:κ} (h:Ok s) (hk:key∉keys s) (hl:(keys s).length<s.c):Ok (prune (put s key))∧(prune (put s key)).c=s.c∧(∀ k,cnt k (keys (prune (put s key)))=cnt k (keys s)+one key k):=by
 have hm:=fun j=>cnt_come hk j
 have hle:=come_len hk
 unfold put
 by_cases hc:(hots s).length<most s
 ·rw [if_pos hc]
  have hb:(hots (heat s key)).length≤most s:=by
   rw [hots_heat]
   have:=length_cut_le (hots s) key
   simp
   omega
  have e:=cool_room (s:=heat s key) (by show (hots (heat s key)).length≤most s;exact hb)
  obtain ⟨a,b,c,-⟩:=heated_ok h (.inl hb) (by rw [keys_heat];omega)
  rw [e] at a b c
  exact ⟨a,c,fun k=>by rw [b];exact hm k⟩
 ·rw [if_neg hc]
  obtain ⟨a,b,c,-,-⟩:=cold_ok (k:=key) h (by rw [keys_cold,length_of_cnt (cnt_cold s key)];omega)
  exact ⟨a,c,fun k=>by rw [b,cnt_cold];exact hm k⟩
theorem len_more {l m:List κ} {key:κ} (h:∀ k,cnt k m=cnt k l+one key k):m.length=l.length+1:=by
 have:m.length=(key::l).length:=length_of_cnt (fun k=>by rw [h,cnt_cons];omega)
 simpa using this
theorem load_no {s:St κ} {key:κ} (h:key∈keys s∨s.c≤(keys s).length):load s key=(false,s):=by unfold load;rw [if_pos h]
theorem load_yes {s:St κ} {key:κ} (h:Ok s) (hk:key∉keys s) (hl:(keys s).length<s.c) :
 (load s key).1=true∧Ok (load s key).2∧(load s key).2.c=s.c∧(∀ k,cnt k (keys (load s key).2)=cnt k (keys s)+one key k)∧(keys (load s key).2).length=(keys s).length+1:=by
 unfold load
 rw [if_neg (by intro h2;rcases h2 with h2 | h2;exact hk h2;omega)]
 obtain ⟨a,b,c⟩:=put_ok h hk hl
 exact ⟨rfl,a,b,c,len_more c⟩
theorem load_any {s:St κ} (h:Ok s) (key:κ):Ok (load s key).2∧(load s key).2.c=s.c:=by
 by_cases hk:key∈keys s
 ·rw [load_no (.inl hk)];exact ⟨h,rfl⟩
 ·rcases Nat.lt_or_ge (keys s).length s.c with hl | hl
  ·have:=load_yes h hk hl;exact ⟨this.2.1,this.2.2.1⟩
  ·rw [load_no (.inr hl)];exact ⟨h,rfl⟩
theorem Base.small {s:St κ} (h:Base s):s.t1.length≤(hots s).length+s.t2.length+s.b1.length:=by
 obtain ⟨l,hl,hs⟩:=h.ord
 have h1:=hs.length_le
 have h2:(hots s).length+(s.t1.filter (fun k=>!isHot s.b1 s.t2 k)).length=s.t1.length:=by
  unfold hots
  rw [← List.countP_eq_length_filter,← List.countP_eq_length_filter,List.length_eq_countP_add_countP (isHot s.b1 s.t2)]
  congr 1
  exact List.countP_congr (fun x _=>by simp)
 rw [hl,List.length_append] at h2
 omega
end
end Go.Proofs.YtkkkkiejnmpdkaaGreatDoor.Lirs.A
namespace Go.Proofs.YtkkkkiejnmpdkaaGreatDoor.Lirs
open Go.RowKit
abbrev Stt:=A.St ByteArray
end Go.Proofs.YtkkkkiejnmpdkaaGreatDoor.Lirs
