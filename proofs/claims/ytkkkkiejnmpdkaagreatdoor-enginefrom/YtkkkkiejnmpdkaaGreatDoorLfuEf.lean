/- Lfu Ef: Ee Eg Rg Eh Ei Ej -/
import Derived.Test.YtkkkkiejnmpdkaaGreatDoorLfuEn
import Derived.Test.YtkkkkiejnmpdkaaGreatDoorTx
import Derived.StillTail
import Derived.WalkKit
namespace Go.Proofs.YtkkkkiejnmpdkaaGreatDoor.Lfu
open Go.RowKit
section
variable {D:Nat→Prop} {w:World} {e c:Nat} {Q:Nat→List ByteArray} {m:ByteArray→Option Ix.Sp} {b:Nat} {z:Dk}
theorem lay_any (H:EM D w e c Q m b z) (hD:∀ k,w.heap.size≤k→D k) (hb:b≤900000) (k:ByteArray) (hk:k.size≤1000) (hn:m k=none) (i:Nat) (hi:i<3) (hf:(Q 0).length+(Q 1).length+(Q 2).length+1≤b) :
 Calls Tryz.prog 331 #[.pointer (some ⟨e,0,none⟩),.string k,.int .i64 (i:Nat)] w fun ee w'=>ee=.returned (.tuple #[])∧(∃ h,EM D w' e c (laid Q k i) (Ix.put m k (some (i,h))) b z)∧Keeps D w w':=by
 obtain ⟨L,R,x,h,r⟩:=H
 refine (lay_in h hD hb k hk i hi (by have:=r.few i hi;omega) (fun l h1 h2=>by have:=r.fits l h1 h2;omega)).mono ?_
 rintro ee w' ⟨rfl,⟨L',h'⟩,hk'⟩
 have hq:(Q i).length+1≤b:=by
  have:i=0∨i=1∨i=2:=by omega
  rcases this with e | e | e <;> subst e <;> omega
 exact ⟨rfl,⟨_,L',_,x,h',r.push hn hi hk (Ls.LA.hand (h.li i hi)).1 (Ls.LA.lens (h.li i hi)) hq⟩,hk'⟩
set_option maxHeartbeats 1000000 in
theorem admit_any (H:EM D w e c Q m b z) (hD:∀ k,w.heap.size≤k→D k) (hb:b≤900000) (k:ByteArray) (hk:k.size≤1000) (hn:m k=none) (i:Nat) (hi:i<3) (hf:(Q 0).length+(Q 1).length+(Q 2).length+1≤b) :
 Calls Tryz.prog 316 #[.pointer (some ⟨e,0,none⟩),.string k,.int .i64 (i:Nat)] w fun ee w'=>ee=.returned (.tuple #[])∧(∃ h,EM D w' e c (laid Q k i) (Ix.put m k (some (i,h))) b z)∧Keeps D w w':=by
 have HE:Hid (EM D w e c Q m b z):=H
 have HD:Hid (∀ k,w.heap.size≤k→D k):=hD
 have HN:Hid (m k=none):=hn
 clear H hD hn
 go_enter Tryz.func316,Tryz.ntmps316
 go_wp2_with (first
  | (go_at_call 197;refine (Ix.clone_any k hk _).mono ?_;rintro ee w2 ⟨rfl,hb2⟩;have H2:Hid (EM D w2 e c Q m b z):=HE.out.below hb2;have HK2:Hid (Keeps D w w2):=(.of_below hb2);clear hb2)
  | (go_at_call 331;refine (lay_any H2.out (fun k h=>HD.out k (Nat.le_trans HK2.out.size h)) hb k hk HN.out i hi hf).mono ?_;rintro ee w3 ⟨rfl,h3,hk3⟩))
 go_end0
 exact ⟨rfl,h3,HK2.out.trans hk3⟩
end
end Go.Proofs.YtkkkkiejnmpdkaaGreatDoor.Lfu
namespace Go.Proofs.YtkkkkiejnmpdkaaGreatDoor.Lfu
open Go.RowKit
def qs (s:Stt):Nat→List ByteArray:=fun i=>if i=0 then s.t1 else if i=1 then s.b1 else s.t2
theorem three {P:Nat→Prop} (h0:P 0) (h1:P 1) (h2:P 2):∀ i,i<3→P i:=by
 intro i hi
 have:i=0∨i=1∨i=2:=by omega
 rcases this with e | e | e <;> subst e <;> assumption
theorem Single.of {s:Stt} (h:A.Ok s):Single s:=fun k=>by have:=h.one k;omega
def used (s:Stt) (k:ByteArray):Stt:={ s with b1:=A.cut s.b1 k,t2:=A.cut s.t2 k++[k] }
section
variable {D:Nat→Prop} {w:World} {e:Nat} {s:Stt} {m:ByteArray→Option Ix.Sp} {z:Dk}
abbrev MA (e:Nat) (z:Dk) (s:Stt) (m:ByteArray→Option Ix.Sp) (D:Nat→Prop) (w:World):Prop:=EM D w e s.c (qs s) m 20000 z
end
end Go.Proofs.YtkkkkiejnmpdkaaGreatDoor.Lfu
namespace Go.Proofs.YtkkkkiejnmpdkaaGreatDoor.Lfu.Rg
open Go.RowKit
section
variable {P:Program} {ops:Array Oper} {Q:Exit→Act→World→Prop}
def unl (m:Nat) (listed:Array Bool):Nat:=(List.range m).countP (fun i=>!listed.getD i true)
theorem unl_set {m i:Nat} {listed:Array Bool} (hi:i<m) (h:listed.getD i true=false):unl m (listed.setIfInBounds i true)<unl m listed:=by
 have hs:i<listed.size:=by
  rcases Nat.lt_or_ge i listed.size with h1 | h1
  ·exact h1
  ·simp [Array.getElem?_eq_none h1] at h
 have e1:(listed.setIfInBounds i true).getD i true=true:=by simp [hs]
 unfold unl
 obtain ⟨a,b,hab⟩:=List.append_of_mem (List.mem_range.2 hi)
 have hnd:(List.range m).Nodup:=List.nodup_range
 rw [hab] at hnd ⊢
 have hperm:=List.perm_middle.nodup_iff.1 hnd
 rw [List.nodup_cons] at hperm
 have hsame:∀ l:List Nat,i∉l→l.countP (fun j=>!(listed.setIfInBounds i true).getD j true)=l.countP (fun j=>!listed.getD j true):=by
  intro l hl
  apply List.countP_congr
  intro j hj
  rw [getD_set_ne true (by rintro rfl;exact hl hj)]
 have ha:i∉a:=fun h=>hperm.1 (by simp [h])
 have hb:i∉b:=fun h=>hperm.1 (by simp [h])
 rw [List.countP_append,List.countP_cons,List.countP_append,List.countP_cons,hsame a ha,hsame b hb,e1,h]
 simp
def Iv (dst:Nat→Nat) (F:Nat→Value→World→Prop) (C:Act→World→Prop) (listed:Array Bool) (a:Act) (w:World):Prop :=
 C a w∧∀ j,listed.getD j false=true→F j (a.tmps.getD (dst j) undef) w
def Shutd (ops:Array Oper) (listed:Array Bool):Prop:=∀ k,listed.getD k false=true→∀ j,Region.waitsFor .any ops k j=true→listed.getD j false=true
theorem put_far {a:Act} {d k:Nat} {v:Value} (h:d≠k):(a.put (some d) v).tmps.getD k undef=a.tmps.getD k undef:=by
 simp [Act.put,Array.getElem?_setIfInBounds_ne h]
theorem put_here {a:Act} {d:Nat} {v:Value} (h:d<a.tmps.size):(a.put (some d) v).tmps.getD d undef=v:=by
 simp [Act.put,h]
theorem lex_of (h:((List.range ops.size).all fun i=>match ops[i]? with | some o=>o.after.all (fun e=>!Region.binds .any e || decide (e.on<i)) | none=>true)=true) :
 ∀ (i:Nat) (o:Oper),ops[i]? = some o→∀ e∈o.after,Region.binds .any e=true→e.on<i:=by
 intro i o ho e he hb
 have h1:=List.all_eq_true.1 h i (List.mem_range.2 (Array.getElem?_eq_some_iff.1 ho).1)
 rw [ho] at h1
 have h2:=Array.all_eq_true'.1 h1 e he
 rw [hb] at h2
 simpa using h2
theorem wait_of {m:Nat} (h:Region.sinkB .any ops m=true):∀ i,i<m→∃ j,i<j∧j≤m∧Region.waitsFor .any ops j i=true:=by
 intro i hi
 unfold Region.sinkB at h
 have h1:=List.all_eq_true.1 h i (List.mem_range.2 hi)
 obtain ⟨j,hj,hb⟩:=List.any_eq_true.1 h1
 simp only [Bool.and_eq_true,decide_eq_true_eq] at hb
 have:=List.mem_range.1 hj
 exact ⟨j,hb.1,by omega,hb.2⟩
end
section
variable {P:Program} {ops:Array Oper} {Q:Exit→Act→World→Prop}
def fillA (b:Nat) (val:Nat→Value):Nat→Act→Act
 | 0,a=>a
 | n+1,a=>(fillA b val n a).put (some (b+n)) (val n)
theorem fillA_defers (b:Nat) (val:Nat→Value) (n:Nat) (a:Act):(fillA b val n a).defers=a.defers:=by
 induction n with
 | zero=>rfl
 | succ n ih=>simpa [fillA,Act.put] using ih
theorem fillA_size (b:Nat) (val:Nat→Value) (n:Nat) (a:Act):(fillA b val n a).tmps.size=a.tmps.size:=by
 induction n with
 | zero=>rfl
 | succ n ih=>simpa [fillA,Act.put] using ih
theorem fillA_at (b:Nat) (val:Nat→Value) (n:Nat) (a:Act) (k:Nat) (hk:b+n≤a.tmps.size):(fillA b val n a).tmps.getD k undef=if b≤k∧k<b+n then val (k - b) else a.tmps.getD k undef:=by
 induction n with
 | zero=>rw [if_neg (by omega)];rfl
 | succ n ih =>
   by_cases e:b+n=k
   ·subst e
    show ((fillA b val n a).put (some (b+n)) (val n)).tmps.getD (b+n) undef=_
    rw [put_here (by rw [fillA_size];omega),if_pos (by omega)]
    congr 1;omega
   ·show ((fillA b val n a).put (some (b+n)) (val n)).tmps.getD k undef=_
    rw [put_far e,ih (by omega)]
    by_cases h:b≤k∧k<b+n
    ·rw [if_pos h,if_pos (by omega)]
    ·rw [if_neg h,if_neg (by omega)]
def Still (b m:Nat) (a0 a:Act):Prop:=a.defers=a0.defers∧a.tmps.size=a0.tmps.size∧∀ k,k<b∨b+m<k→a.tmps.getD k undef=a0.tmps.getD k undef
theorem Still.put {b m i:Nat} {a0 a:Act} {v:Value} (h:Still b m a0 a) (hi:i≤m):Still b m a0 (a.put (some (b+i)) v) :=
 ⟨by simpa [Act.put] using h.1,by simpa [Act.put] using h.2.1,fun k hk=>by rw [put_far (by omega)];exact h.2.2 k hk⟩
theorem act_ext {a b:Act} (h1:a.tmps.size=b.tmps.size) (h2:∀ k,k<a.tmps.size→a.tmps.getD k undef=b.tmps.getD k undef) (h3:a.defers=b.defers):a=b:=by
 obtain ⟨t,d⟩:=a
 obtain ⟨t',d'⟩:=b
 simp only at h1 h2 h3
 subst h3
 congr 1
 apply Array.ext h1
 intro i hi hj
 have:=h2 i hi
 simpa [hi,hj] using this
end
theorem still_op {P:Program} {ops:Array Oper} {Q:Exit→Act→World→Prop} {i:Nat} {o:Oper} {K:Act→World→Prop} {a:Act} {W:World} (ho:ops[i]? = some o) (hg:o.guard=none) (h:o.wp P a W K Q):wpOp P ops Q i K a W:=by
 unfold wpOp
 rw [ho]
 simp only [Region.wanted,hg,if_true]
 exact .inl h
theorem still_on {P:Program} {ops:Array Oper} {Q:Exit→Act→World→Prop} {i j d:Nat} {b:Bool} {o oj:Oper} {K:Act→World→Prop} {a:Act} {W:World} (ho:ops[i]? = some o) (hg:o.guard=some (j,b)) (hj:ops[j]? = some oj) (hd:oj.dst=some d) (hv:a.tmps.getD d undef=.bool b) (h:o.wp P a W K Q):wpOp P ops Q i K a W:=by
 unfold wpOp
 rw [ho]
 have:Region.wanted o (yielded ops a.tmps)=true:=by
  simp only [Region.wanted,hg,yielded,hj,hd,Option.bind_some]
  cases hx:a.tmps[d]? with
  | none=>rw [Array.getD_eq_getD_getElem?,hx] at hv;cases hv
  | some v=>rw [Array.getD_eq_getD_getElem?,hx] at hv;simp at hv;subst hv;simp
 simp only [this,if_true]
 exact .inl h
theorem still_off {P:Program} {ops:Array Oper} {Q:Exit→Act→World→Prop} {i j d di:Nat} {b:Bool} {o oj:Oper} {K:Act→World→Prop} {a:Act} {W:World} (ho:ops[i]? = some o) (hg:o.guard=some (j,b)) (hj:ops[j]? = some oj) (hd:oj.dst=some d) (hv:a.tmps.getD d undef=.bool (!b)) (hdi:o.dst=some di) (h:K (a.put (some di) undef) W):wpOp P ops Q i K a W:=by
 unfold wpOp
 rw [ho]
 have:Region.wanted o (yielded ops a.tmps)=false:=by
  simp only [Region.wanted,hg,yielded,hj,hd,Option.bind_some]
  cases hx:a.tmps[d]? with
  | none=>rw [Array.getD_eq_getD_getElem?,hx] at hv;cases hv
  | some v=>rw [Array.getD_eq_getD_getElem?,hx] at hv;simp at hv;subst hv;cases b <;> simp
 simp only [this,Bool.false_eq_true,if_false]
 rw [hdi]
 exact h
theorem Still.at {b m:Nat} {a0 a:Act} (h:Still b m a0 a) (k:Nat) (hk:k<b∨b+m<k):a.tmps[k]?.getD undef=a0.tmps[k]?.getD undef:=by
 have:=h.2.2 k hk
 simpa using this
section
variable {P:Program} {ops:Array Oper} {Q:Exit→Act→World→Prop}
theorem wpAny_low (m:Nat) (hn:ops.size=m+1) (dst:Nat→Nat) (F:Nat→Value→World→Prop) (C:Act→World→Prop)
 (hlex:∀ (i:Nat) (o:Oper),ops[i]? = some o→∀ e∈o.after,Region.binds .any e=true→e.on<i)
 (hwait:∀ i,i<m→∃ j,i<j∧j≤m∧Region.waitsFor .any ops j i=true)
 (hinj:∀ i j,i<m→j<m→i≠j→dst i≠dst j) (hlt:∀ a w,C a w→∀ i,i<m→dst i<a.tmps.size)
 (hstep:∀ i,i<m→∀ a w,C a w→(∀ j,Region.waitsFor .any ops i j=true→F j (a.tmps.getD (dst j) undef) w) →
   wpOp P ops Q i (fun a1 w1=>∃ v,a1=a.put (some (dst i)) v∧C a1 w1∧F i v w1∧∀ j u,F j u w→F j u w1) a w)
 (hlast:∀ a w,C a w→(∀ j,j<m→F j (a.tmps.getD (dst j) undef) w)→wpOp P ops Q m (fun a' w'=>Q .normal a' w') a w) :
 ∀ (fuel:Nat) (listed:Array Bool) (a:Act) (w:World),listed.size=m+1→unl (m+1) listed≤fuel→listed.getD m true=false→Shutd ops listed→Iv dst F C listed a w→wpAny P .any ops Q fuel listed a w
 | 0,listed,a,w,hsz,hf,hm,_,_=>by
   exfalso
   unfold unl at hf
   have:=List.countP_eq_zero.1 (Nat.le_zero.1 hf) m (by simp)
   rw [hm] at this
   simp at this
 | fuel+1,listed,a,w,hsz,hf,hm,hS,hI=>by
   refine ⟨fun h0=>?_,fun i hi=>?_⟩
   ·exfalso
    obtain ⟨i,hi,hmin⟩:∃ i,listed.getD i true=false∧∀ k,k<i→listed.getD k true=true:=by
     have:∀ n,listed.getD n true=false→∃ i,listed.getD i true=false∧∀ k,k<i→listed.getD k true=true:=by
      intro n
      induction n using Nat.strongRecOn with
      | _ n ih =>
        intro h
        by_cases hx:∃ k,k<n∧listed.getD k true=false
        ·obtain ⟨k,h1,h2⟩:=hx
         exact ih k h1 h2
        ·refine ⟨n,h,fun k hk=>?_⟩
         cases hv:listed.getD k true with
         | true=>rfl
         | false=>exact absurd ⟨k,hk,hv⟩ hx
     exact this m hm
    have hil:i<listed.size:=by
     rcases Nat.lt_or_ge i listed.size with h1 | h1
     ·exact h1
     ·simp [Array.getElem?_eq_none h1] at hi
    have hio:ops[i]? = some ops[i]:=Array.getElem?_eq_getElem (by omega)
    have:i∈Region.ready .any ops listed:=mem_ready.2 ⟨hi,_,hio,fun e he hb=>by
     have h1:=hlex i _ hio e he hb
     have h2:=hmin e.on h1
     have h3:e.on<listed.size:=by omega
     simp [h3] at h2 ⊢
     exact h2⟩
    rw [h0] at this
    cases this
   ·obtain ⟨hi0,oi,hoi,hall⟩:=mem_ready.1 hi
    have him:i<m+1:=by
     have:=(Array.getElem?_eq_some_iff.1 hoi).1
     omega
    have hdep:∀ j,Region.waitsFor .any ops i j=true→listed.getD j false=true:=fun j hj=>by
     obtain ⟨oj,hoj,e,he,hb,rfl⟩:=Region.waitsFor_spec hj
     have:oj=oi:=Option.some.inj (hoj.symm.trans hoi)
     subst this
     exact hall e he hb
    rcases Nat.lt_or_ge i m with h1 | h1
    ·refine wpOp_mono ?_ (hstep i h1 a w hI.1 (fun j hj=>hI.2 j (hdep j hj)))
     rintro _ w' ⟨v,rfl,hC,hF,hmo⟩
     refine wpAny_low m hn dst F C hlex hwait hinj hlt hstep hlast fuel _ _ _ (by simpa using hsz) ?_ ?_ ?_ ⟨hC,fun j hj=>?_⟩
     ·have:=unl_set him hi0
      omega
     ·rw [getD_set_ne true (by omega)]
      exact hm
     ·intro k hk j hj
      by_cases hik:i=k
      ·subst hik
       exact getD_set_true (hdep j hj)
      ·rw [getD_set_ne false hik] at hk
       exact getD_set_true (hS k hk j hj)
     ·by_cases hji:i=j
      ·subst hji
       rw [put_here (hlt a w hI.1 i h1)]
       exact hF
      ·rw [getD_set_ne false hji] at hj
       have hjm:j<m:=by
        rcases Nat.lt_or_ge j m with h2 | h2
        ·exact h2
        ·exfalso
         rcases Nat.lt_or_ge m j with h3 | h3
         ·simp [Array.getElem?_eq_none (show listed.size≤j by omega)] at hj
         ·have:j=m:=by omega
          subst this
          rw [getD_both hm] at hj
          cases hj
       rw [put_far (hinj i j h1 hjm hji)]
       exact hmo _ _ (hI.2 j hj)
    ·have e1:i=m:=by omega
     subst e1
     have hdown:∀ n j,j<i→i - j≤n→listed.getD j false=true:=by
      intro n
      induction n with
      | zero=>intro j h2 h3;omega
      | succ n ih =>
        intro j h2 h3
        obtain ⟨k,h4,h5,h6⟩:=hwait j h2
        rcases Nat.lt_or_ge k i with h7 | h7
        ·exact hS k (ih k h7 (by omega)) j h6
        ·have:k=i:=by omega
         subst this
         exact hdep j h6
     have hlisted:∀ j,j<i→listed.getD j false=true:=fun j hj=>hdown i j hj (by omega)
     refine wpOp_mono (fun a' w' hq=>?_) (hlast a w hI.1 (fun j hj=>hI.2 j (hlisted j hj)))
     have hall1:∀ j,j<i+1→(listed.setIfInBounds i true).getD j true=true:=by
      intro j hj
      by_cases hji:i=j
      ·subst hji
       simp [show i<listed.size by omega]
      ·rw [getD_set_ne true hji]
       have:=hlisted j (by omega)
       have h3:j<listed.size:=by omega
       simp [h3] at this ⊢
       exact this
     have hr:Region.ready .any ops (listed.setIfInBounds i true)=[]:=by
      rw [List.eq_nil_iff_forall_not_mem]
      intro j hj
      obtain ⟨h2,o,ho,_⟩:=mem_ready.1 hj
      have h3:=(Array.getElem?_eq_some_iff.1 ho).1
      rw [hall1 j (by omega)] at h2
      cases h2
     cases fuel with
     | zero=>exact ⟨hr,hq⟩
     | succ f=>exact ⟨fun _=>hq,by rw [hr];simp⟩
theorem region_low {id:Nat} {a:Act} {w:World} (hmx:P.follows .mixedOrders=true) (m b:Nat) (hn:ops.size=m+1) (F:Nat→Value→World→Prop) (C:World→Prop)
 (hlex:∀ (i:Nat) (o:Oper),ops[i]? = some o→∀ e∈o.after,Region.binds .any e=true→e.on<i)
 (hwait:∀ i,i<m→∃ j,i<j∧j≤m∧Region.waitsFor .any ops j i=true)
 (hsz:b+m<a.tmps.size) (hC0:C w.drew)
 (hstep:∀ i,i≤m→∀ a' W,C W→Still b m a a'→(∀ j,Region.waitsFor .any ops i j=true→F j (a'.tmps.getD (b+j) undef) W) →
   wpOp P ops Q i (fun a1 w1=>∃ v,a1=a'.put (some (b+i)) v∧C w1∧F i v w1∧∀ j u,F j u W→F j u w1) a' W)
 (hQ:∀ (vs:Nat→Value) W,C W→(∀ j,j≤m→F j (vs j) W)→Q .normal (fillA b vs (m+1) a) W):(Code.region id ops true).wp P Q a w:=by
 have hlt:∀ i,i<m→∀ j,j<m→i≠j→b+i≠b+j:=by omega
 refine wp_region_any hmx (wpAny_low m hn (fun j=>b+j) F (fun a' W=>C W∧Still b m a a') hlex hwait (fun i j hi hj h=>hlt i hi j hj h) ?_ ?_ ?_ ops.size _ _ _ (by simp [hn]) ?_ (by simp [hn]) (fun k hk=>by rw [getD_replicate_false] at hk;cases hk) ⟨⟨hC0,rfl,rfl,fun _ _=>rfl⟩,fun j hj=>?_⟩)
 ·rintro a' W ⟨_,h⟩ i hi
  rw [h.2.1]
  omega
 ·rintro i hi a' W ⟨hc,h⟩ hdep
  refine wpOp_mono ?_ (hstep i (by omega) a' W hc h hdep)
  rintro a1 w1 ⟨v,rfl,h1,h2,h3⟩
  exact ⟨v,rfl,⟨h1,h.put (by omega)⟩,h2,h3⟩
 ·rintro a' W ⟨hc,h⟩ hall
  refine wpOp_mono ?_ (hstep m (Nat.le_refl _) a' W hc h (fun j hj=>hall j ?_))
  ·rintro a1 w1 ⟨v,rfl,h1,h2,h3⟩
   have hp:=h.put (v:=v) (Nat.le_refl m)
   have e1:a'.put (some (b+m)) v=fillA b (fun j=>if j=m then v else a'.tmps.getD (b+j) undef) (m+1) a:=by
    refine act_ext (by rw [fillA_size];exact hp.2.1) (fun k hk=>?_) (by rw [fillA_defers];exact hp.1)
    rw [fillA_at _ _ _ _ _ (by omega)]
    by_cases hr:b≤k∧k<b+(m+1)
    ·rw [if_pos hr]
     by_cases e:b+m=k
     ·subst e
      rw [put_here (by rw [h.2.1];omega),if_pos (by omega)]
     ·rw [put_far e,if_neg (by omega),show b+(k - b)=k by omega]
    ·rw [if_neg hr,hp.2.2 k (by omega)]
   rw [e1]
   refine hQ _ _ h1 (fun j hj=>?_)
   by_cases e:j=m
   ·subst e
    simp only [if_true]
    exact h2
   ·simp only [if_neg e]
    exact h3 _ _ (hall j (by omega))
  ·obtain ⟨oj,hoj,e,he,hb,rfl⟩:=Region.waitsFor_spec hj
   exact hlex m oj hoj e he hb
 ·unfold unl
  refine Nat.le_trans List.countP_le_length ?_
  simp [hn]
 ·rw [getD_replicate_false] at hj
  cases hj
end
section
variable {P:Program} {ops:Array Oper} {Q:Exit→Act→World→Prop} {i d:Nat} {F:Nat→Value→World→Prop} {C:World→Prop} {a':Act} {W:World}
theorem low_same {v:Value} (h:∀ K:Act→World→Prop,K (a'.put (some d) v) W→wpOp P ops Q i K a' W) (hC:C W) (hF:F i v W) :
 wpOp P ops Q i (fun a1 w1=>∃ v,a1=a'.put (some d) v∧C w1∧F i v w1∧∀ j u,F j u W→F j u w1) a' W:=h _ ⟨v,rfl,hC,hF,fun _ _ h=>h⟩
theorem low_new (R:Value→World→Prop) (h:∀ K:Act→World→Prop,(∀ v w1,R v w1→K (a'.put (some d) v) w1)→wpOp P ops Q i K a' W) (hR:∀ v w1,R v w1→C w1∧F i v w1∧∀ j u,F j u W→F j u w1) :
 wpOp P ops Q i (fun a1 w1=>∃ v,a1=a'.put (some d) v∧C w1∧F i v w1∧∀ j u,F j u W→F j u w1) a' W:=h _ (fun v w1 hr=>⟨v,rfl,hR v w1 hr⟩)
end
def Is (val:Nat→Value) (j:Nat) (v:Value) (_:World):Prop:=v=val j
theorem Is.mk {val:Nat→Value} {j:Nat} {W:World}:Is val j (val j) W:=rfl
theorem Is.is {val:Nat→Value} {j:Nat} {v:Value} {W:World} (h:Is val j v W):v=val j:=h
end Go.Proofs.YtkkkkiejnmpdkaaGreatDoor.Lfu.Rg
namespace Go.Proofs.YtkkkkiejnmpdkaaGreatDoor.Lfu
open Go.RowKit
def MB (e:Nat) (z:Dk) (s:Stt) (D:Nat→Prop) (w:World):Prop:=∃ m,MA e z s m D w
section
variable {D D':Nat→Prop} {w w':World} {e:Nat} {s:Stt} {m:ByteArray→Option Ix.Sp} {z:Dk}
theorem MB.below (H:MB e z s D w) (hb:Below w.heap.size w w'):MB e z s D w':=by obtain ⟨m,h⟩:=H;exact ⟨m,h.below hb⟩
end
end Go.Proofs.YtkkkkiejnmpdkaaGreatDoor.Lfu
namespace Go.Proofs.YtkkkkiejnmpdkaaGreatDoor.Lfu
open Go.RowKit
section
variable {D:Nat→Prop} {w w':World} {e:Nat} {s:Stt} {m:ByteArray→Option Ix.Sp} {z:Dk}
theorem keys_in {k:ByteArray}:k∈A.keys s↔∃ i,i<3∧k∈qs s i:=by
 unfold A.keys
 rw [List.mem_append,List.mem_append]
 constructor
 ·rintro (h | h | h)
  ·exact ⟨0,by omega,h⟩
  ·exact ⟨1,by omega,h⟩
  ·exact ⟨2,by omega,h⟩
 ·rintro ⟨i,hi,h⟩
  have:i=0∨i=1∨i=2:=by omega
  rcases this with e | e | e <;> subst e
  ·exact .inl h
  ·exact .inr (.inl h)
  ·exact .inr (.inr h)
theorem MA.found (H:MA e z s m D w) {k:ByteArray} (h:k∈A.keys s):∃ i hh,i<3∧m k=some (i,hh):=by
 obtain ⟨i,hi,hk⟩:=keys_in.1 h
 obtain ⟨hh,hm⟩:=H.has hi hk
 exact ⟨i,hh,hi,hm⟩
theorem MA.lost (H:MA e z s m D w) {k:ByteArray} (h:k∉A.keys s):m k=none :=
 H.out.2 (fun i hi hk=>h (keys_in.2 ⟨i,hi,hk⟩))
theorem lens_ok (hok:A.Ok s):s.t1.length+s.b1.length+s.t2.length≤1024:=by
 have h1:=hok.res
 have h2:=hok.hi
 rw [A.keys_length] at h1
 omega
theorem come_rows {key:ByteArray} (hin:key∉A.keys s):∀ j,j<3→qs { s with t1:=s.t1++[key] } j=laid (qs s) key 0 j:=by
 have h:∀ i,i<3→key∉qs s i:=fun i hi hk=>hin (keys_in.2 ⟨i,hi,hk⟩)
 refine three ?_ ?_ ?_
 ·simp [qs,laid,A.cut_same (show key∉s.t1 from h 0 (by omega))]
 ·simp [qs,laid,A.cut_same (show key∉s.b1 from h 1 (by omega))]
 ·simp [qs,laid,A.cut_same (show key∉s.t2 from h 2 (by omega))]
end
end Go.Proofs.YtkkkkiejnmpdkaaGreatDoor.Lfu
namespace Go.Proofs.YtkkkkiejnmpdkaaGreatDoor.Lfu
open Go.RowKit
def inb (key:ByteArray) (zs:List ByteArray):Bool:=decide (0<A.cnt key zs)
theorem inb_yes {key:ByteArray} {zs:List ByteArray} (h:key∈zs):inb key zs=true:=by
 unfold inb
 rw [decide_eq_true_eq]
 exact A.cnt_pos.2 h
theorem inb_no {key:ByteArray} {zs:List ByteArray} (h:key∉zs):inb key zs=false:=by
 unfold inb
 rw [decide_eq_false_iff_not,A.cnt_zero.2 h]
 omega
section
variable {D:Nat→Prop} {w:World} {e:Nat} {s:Stt} {m:ByteArray→Option Ix.Sp} {z:Dk}
theorem IX_len {te tl:TypeId} {p b:Nat} {m:ByteArray→Option Ix.Sp} (H:Ix.IX te tl D w p m b):∃ n:Nat,w.cell? ⟨p,3,none⟩=some (.int .i64 (n:Nat))∧n≤b∧∀ l:List ByteArray,l.Nodup→(∀ k,k∈l↔m k≠none)→l.length=n:=by
 obtain ⟨seed,sl,used,count,ad,hs0,H,o⟩:=H
 refine ⟨count,H.top.2.2.2.1,o.few,fun l h1 h2=>?_⟩
 obtain ⟨l',h3,h4,h5⟩:=Ix.Ok.keys o
 have a:=nodup_len h1 (m:=(sl.filter (fun s=>s.st==2)).map (·.key)) (fun k hk=>by
  cases hm:m k with
  | none=>exact absurd hm ((h2 k).1 hk)
  | some v =>
    obtain ⟨i,t,hi,ht,hk',-⟩:=(o.map k v).1 hm
    exact List.mem_map.2 ⟨t,List.mem_filter.2 ⟨List.mem_of_getElem? hi,by simp [ht]⟩,hk'⟩)
 have b:=nodup_len h3 (m:=l) (fun k hk=>(h2 k).2 (h5 k hk))
 rw [List.length_map,← List.countP_eq_length_filter,o.count_] at a
 omega
theorem xlen_any {p n:Nat} (h:w.cell? ⟨p,3,none⟩=some (.int .i64 (n:Nat))):Calls Tryz.prog 322 #[.pointer (some ⟨p,0,none⟩)] w fun ee w'=>ee=.returned (.int .i64 (n:Nat))∧w'=w:=by
 go_enter Tryz.func322,Tryz.ntmps322
 go_wp2
 go_ret
 exact ⟨rfl,rfl⟩
theorem keys_nodup (ho:Single s):(A.keys s).Nodup:=A.Once.nodup (fun k=>by
 have:=ho k
 unfold A.keys
 rw [A.cnt_append,A.cnt_append]
 omega)
set_option maxHeartbeats 1000000 in
theorem lenM (H:MA e z s m D w) (ho:Single s):Calls Tryz.prog 307 #[.pointer (some ⟨e,0,none⟩)] w fun ee w'=>ee=.returned (.int .i64 ((A.keys s).length:Nat))∧w'=w:=by
 have HE:Hid (MA e z s m D w):=H
 have hx:∃ x:Nat,w.cell? ⟨e,4,none⟩=some (.pointer (some ⟨x,0,none⟩))∧w.cell? ⟨x,3,none⟩=some (.int .i64 ((A.keys s).length:Nat)):=by
  have hout:∀ k,m k=none↔∀ i,i<3→k∉qs s i:=fun k=>H.out
  obtain ⟨L,R,x,h,r⟩:=H
  obtain ⟨n',h1,h2,h3⟩:=IX_len h.ix
  have:=h3 (A.keys s) (keys_nodup ho) (fun k=>by
   rw [ne_eq,hout,keys_in]
   constructor
   ·rintro ⟨i,hi,hk⟩ h4
    exact h4 i hi hk
   ·intro h4
    rcases Classical.em (∃ i,i<3∧k∈qs s i) with h5 | h5
    ·exact h5
    ·exact absurd (fun i hi hk=>h5 ⟨i,hi,hk⟩) h4)
  rw [this]
  exact ⟨x,h.cells.2.2.1,h1⟩
 obtain ⟨x,c4,c3⟩:=hx
 have hxl:=xlen_any c3
 have heo:=H.cells.2.2.2.1
 clear H ho c3
 generalize (A.keys s).length=n at *
 go_enter Tryz.func307,Tryz.ntmps307
 go_wp2_with (first
  | (go_at_call 312;refine (blank_any HE.out).mono ?_;rintro ee w1 ⟨rfl,rfl⟩)
  | (go_at_call 322;refine Calls.mono hxl ?_;clear hxl;rintro ee w1 ⟨rfl,rfl⟩))
 go_ret
 exact ⟨rfl,rfl⟩
theorem MA.found_any (H:MA e z s m D w) (key:ByteArray):(m key).isSome=inb key (A.keys s):=by
 by_cases hin:key∈A.keys s
 ·obtain ⟨i,h,-,hm⟩:=H.found hin
  rw [inb_yes hin,hm];rfl
 ·rw [inb_no hin,H.lost hin];rfl
set_option maxHeartbeats 1000000 in
theorem hasM (H:MA e z s m D w) (key:ByteArray) (hk:key.size≤1000) :
 Calls Tryz.prog 305 #[.pointer (some ⟨e,0,none⟩),.string key] w fun ee w'=>ee=.returned (.bool (inb key (A.keys s)))∧Below w.heap.size w w':=by
 have HE:Hid (MA e z s m D w):=H
 obtain ⟨x,c4,hget⟩:=H.get (by omega) key hk
 rw [H.found_any key] at hget
 have heo:=H.cells.2.2.2.1
 clear H
 generalize (m key).getD (0,0)=v at *
 generalize inb key (A.keys s)=t at *
 go_enter Tryz.func305,Tryz.ntmps305
 go_wp2_with (first
  | (go_at_call 312;refine (blank_any HE.out).mono ?_;rintro ee w1 ⟨rfl,rfl⟩)
  | (go_at_call 314;refine Calls.mono hget ?_;clear hget;rintro ee w3 ⟨rfl,hb3⟩))
 go_ret
 first
  | exact ⟨rfl,hb3⟩
  | exact ⟨rfl,hb3.alloc hb3.size _⟩
theorem load_main {key:ByteArray} (hin:key∉A.keys s):∀ j,j<3→qs { s with b1:=s.b1++[key] } j=laid (qs s) key 1 j:=by
 have h:∀ i,i<3→key∉qs s i:=fun i hi hk=>hin (keys_in.2 ⟨i,hi,hk⟩)
 refine three ?_ ?_ ?_
 ·simp [qs,laid,A.cut_same (show key∉s.t1 from h 0 (by omega))]
 ·simp [qs,laid,A.cut_same (show key∉s.b1 from h 1 (by omega))]
 ·simp [qs,laid,A.cut_same (show key∉s.t2 from h 2 (by omega))]
set_option maxHeartbeats 2000000 in
theorem loadM (H:MA e z s m D w) (hok:A.Ok s) (hD:∀ k,w.heap.size≤k→D k) (key:ByteArray) (hk:key.size≤1000) :
 Calls Tryz.prog 308 #[.pointer (some ⟨e,0,none⟩),.string key] w fun ee w'=>ee=.returned (.bool (A.load s key).1)∧MB e z (A.load s key).2 D w'∧Keeps D w w':=by
 have HE:Hid (MA e z s m D w):=H
 have HD:Hid (∀ k,w.heap.size≤k→D k):=hD
 have HO:Hid (Single s):=Single.of hok
 have heo:=H.cells.2.2.2.1
 have hc1:=hok.hi
 have hlo:=hok.lo
 have hll:=lens_ok hok
 have HTot:Hid ((qs s 0).length+(qs s 1).length+(qs s 2).length+1≤20000):=by show s.t1.length+s.b1.length+s.t2.length+1≤20000;omega
 obtain ⟨n,hn⟩:∃ n,n=(A.keys s).length:=⟨_,rfl⟩
 obtain ⟨c,hc⟩:∃ c,c=s.c:=⟨_,rfl⟩
 obtain ⟨t,ht⟩:∃ t,t=inb key (A.keys s):=⟨_,rfl⟩
 have HBl:Hid (∀ W,Below w.heap.size w W→Calls Tryz.prog 312 #[.pointer (some ⟨e,0,none⟩)] W fun ee w'=>ee=.returned (.bool false)∧Below W.heap.size W w'):=fun W hW=>(blank_any (HE.out.below hW)).mono (by rintro ee w' ⟨rfl,rfl⟩;exact ⟨rfl,Below.refl _ _⟩)
 have HHa:Hid (∀ W,Below w.heap.size w W→Calls Tryz.prog 305 #[.pointer (some ⟨e,0,none⟩),.string key] W fun ee w'=>ee=.returned (.bool t)∧Below W.heap.size W w'):=fun W hW=>by rw [ht];exact hasM (HE.out.below hW) key hk
 have HLe:Hid (∀ W,Below w.heap.size w W→Calls Tryz.prog 307 #[.pointer (some ⟨e,0,none⟩)] W fun ee w'=>ee=.returned (.int .i64 (n:Nat))∧Below W.heap.size W w'):=fun W hW=>by
  rw [hn]
  exact (lenM (HE.out.below hW) HO.out).mono (by rintro ee w' ⟨rfl,rfl⟩;exact ⟨rfl,Below.refl _ _⟩)
 have HC0:Hid (∀ W,Below w.heap.size w W→W.cell? ⟨e,0,none⟩=some (.int .i64 (c:Nat))):=fun W hW=>by rw [hc];exact (HE.out.below hW).cells.1
 by_cases hin:key∈A.keys s
 ·rw [A.load_no (.inl hin)]
  have ht2:t=true:=ht.trans (inb_yes hin)
  subst ht2
  clear H hD hok hin ht hn hc
  go_enter Tryz.func308,Tryz.ntmps308
  go_wp2_with fail
  refine Rg.region_low (by kernel_rfl) 15 5 rfl (Rg.Is (fun slot=>[(.pointer (some ⟨e,0,none⟩):Value),(.bool false:Value),(.bool false:Value),(.pointer (some ⟨e,0,none⟩):Value),(.string key:Value),(.bool true:Value),(.bool true:Value),(.bool true:Value),(undef:Value),(undef:Value),(undef:Value),(undef:Value),(undef:Value),(undef:Value),(undef:Value),(.bool true:Value)].getD slot undef)) (fun W=>Below w.heap.size w W) (Rg.lex_of (by kernel_rfl)) (Rg.wait_of (by kernel_rfl)) (by simp) (Below.refl _ _).drew ?_ ?_
  ·intro i hi a' W hC hst hdep
   have hcase:i=0∨i=1∨i=2∨i=3∨i=4∨i=5∨i=6∨i=7∨i=8∨i=9∨i=10∨i=11∨i=12∨i=13∨i=14∨i=15:=by omega
   rcases hcase with e1 | e1 | e1 | e1 | e1 | e1 | e1 | e1 | e1 | e1 | e1 | e1 | e1 | e1 | e1 | e1
   ·subst e1
    have o0:=Rg.Still.at hst 0 (by omega)
    simp at o0
    refine Rg.low_same (v:=.pointer (some ⟨e,0,none⟩)) ?_ hC (Rg.Is.mk (j:=0))
    intro Kc hKc
    refine Rg.still_op rfl rfl ?_
    simp [Oper.wp,execOp,Act.eval,go_sem,o0]
    exact hKc
   ·subst e1
    have d0:a'.tmps[5]?.getD undef=.pointer (some ⟨e,0,none⟩):=by simpa using (Rg.Is.is (hdep 0 (by kernel_rfl)))
    refine Rg.low_new (fun v w1=>v=.bool false∧Below W.heap.size W w1) ?_ ?_
    ·intro Kc hKc
     refine Rg.still_op rfl rfl ?_
     simp [Oper.wp,execOp,Act.eval,go_sem,d0]
     refine Calls.mono (HBl.out W hC) ?_
     rintro ee w5 ⟨rfl,hb5⟩
     exact hKc _ _ ⟨rfl,hb5⟩
    ·rintro v w1 ⟨rfl,hb1⟩
     exact ⟨below_trans hC hb1,Rg.Is.mk (j:=1),fun _ _ h=>h⟩
   ·subst e1
    have d1:a'.tmps[6]?.getD undef=.bool false:=by simpa using (Rg.Is.is (hdep 1 (by kernel_rfl)))
    refine Rg.low_same (v:=.bool false) ?_ hC (Rg.Is.mk (j:=2))
    intro Kc hKc
    refine Rg.still_op rfl rfl ?_
    simp [Oper.wp,execOp,Act.eval,go_sem,d1]
    exact hKc
   ·subst e1
    have o0:=Rg.Still.at hst 0 (by omega)
    simp at o0
    refine Rg.low_same (v:=.pointer (some ⟨e,0,none⟩)) ?_ hC (Rg.Is.mk (j:=3))
    intro Kc hKc
    refine Rg.still_on rfl rfl rfl rfl (Rg.Is.is (hdep 2 (by kernel_rfl))) ?_
    simp [Oper.wp,execOp,Act.eval,go_sem,o0]
    exact hKc
   ·subst e1
    have o1:=Rg.Still.at hst 1 (by omega)
    simp at o1
    refine Rg.low_same (v:=.string key) ?_ hC (Rg.Is.mk (j:=4))
    intro Kc hKc
    refine Rg.still_on rfl rfl rfl rfl (Rg.Is.is (hdep 2 (by kernel_rfl))) ?_
    simp [Oper.wp,execOp,Act.eval,go_sem,o1]
    exact hKc
   ·subst e1
    have d3:a'.tmps[8]?.getD undef=.pointer (some ⟨e,0,none⟩):=by simpa using (Rg.Is.is (hdep 3 (by kernel_rfl)))
    have d4:a'.tmps[9]?.getD undef=.string key:=by simpa using (Rg.Is.is (hdep 4 (by kernel_rfl)))
    refine Rg.low_new (fun v w1=>v=.bool true∧Below W.heap.size W w1) ?_ ?_
    ·intro Kc hKc
     refine Rg.still_on rfl rfl rfl rfl (Rg.Is.is (hdep 2 (by kernel_rfl))) ?_
     simp [Oper.wp,execOp,Act.eval,go_sem,d3,d4]
     refine Calls.mono (HHa.out W hC) ?_
     rintro ee w5 ⟨rfl,hb5⟩
     exact hKc _ _ ⟨rfl,hb5⟩
    ·rintro v w1 ⟨rfl,hb1⟩
     exact ⟨below_trans hC hb1,Rg.Is.mk (j:=5),fun _ _ h=>h⟩
   ·subst e1
    have d2:a'.tmps[7]?.getD undef=.bool false:=by simpa using (Rg.Is.is (hdep 2 (by kernel_rfl)))
    have d5:a'.tmps[10]?.getD undef=.bool true:=by simpa using (Rg.Is.is (hdep 5 (by kernel_rfl)))
    refine Rg.low_same (v:=.bool true) ?_ hC (Rg.Is.mk (j:=6))
    intro Kc hKc
    refine Rg.still_op rfl rfl ?_
    simp [Oper.wp,execOp,Act.eval,go_sem,d2,d5]
    exact hKc
   ·subst e1
    have d6:a'.tmps[11]?.getD undef=.bool true:=by simpa using (Rg.Is.is (hdep 6 (by kernel_rfl)))
    refine Rg.low_same (v:=.bool true) ?_ hC (Rg.Is.mk (j:=7))
    intro Kc hKc
    refine Rg.still_op rfl rfl ?_
    simp [Oper.wp,execOp,Act.eval,go_sem,d6]
    exact hKc
   ·subst e1
    refine Rg.low_same (v:=undef) ?_ hC (Rg.Is.mk (j:=8))
    intro Kc hKc
    exact Rg.still_off rfl rfl rfl rfl (Rg.Is.is (hdep 7 (by kernel_rfl))) rfl hKc
   ·subst e1
    refine Rg.low_same (v:=undef) ?_ hC (Rg.Is.mk (j:=9))
    intro Kc hKc
    exact Rg.still_off rfl rfl rfl rfl (Rg.Is.is (hdep 7 (by kernel_rfl))) rfl hKc
   ·subst e1
    refine Rg.low_same (v:=undef) ?_ hC (Rg.Is.mk (j:=10))
    intro Kc hKc
    exact Rg.still_off rfl rfl rfl rfl (Rg.Is.is (hdep 7 (by kernel_rfl))) rfl hKc
   ·subst e1
    refine Rg.low_same (v:=undef) ?_ hC (Rg.Is.mk (j:=11))
    intro Kc hKc
    exact Rg.still_off rfl rfl rfl rfl (Rg.Is.is (hdep 7 (by kernel_rfl))) rfl hKc
   ·subst e1
    refine Rg.low_same (v:=undef) ?_ hC (Rg.Is.mk (j:=12))
    intro Kc hKc
    exact Rg.still_off rfl rfl rfl rfl (Rg.Is.is (hdep 7 (by kernel_rfl))) rfl hKc
   ·subst e1
    refine Rg.low_same (v:=undef) ?_ hC (Rg.Is.mk (j:=13))
    intro Kc hKc
    exact Rg.still_off rfl rfl rfl rfl (Rg.Is.is (hdep 7 (by kernel_rfl))) rfl hKc
   ·subst e1
    refine Rg.low_same (v:=undef) ?_ hC (Rg.Is.mk (j:=14))
    intro Kc hKc
    exact Rg.still_off rfl rfl rfl rfl (Rg.Is.is (hdep 7 (by kernel_rfl))) rfl hKc
   ·subst e1
    have d7:a'.tmps[12]?.getD undef=.bool true:=by simpa using (Rg.Is.is (hdep 7 (by kernel_rfl)))
    refine Rg.low_same (v:=.bool true) ?_ hC (Rg.Is.mk (j:=15))
    intro Kc hKc
    refine Rg.still_op rfl rfl ?_
    simp [Oper.wp,execOp,Act.eval,go_sem,d7]
    exact hKc
  intro vs W hC hF
  have hv0:vs 0=.pointer (some ⟨e,0,none⟩):=Rg.Is.is (hF 0 (by omega))
  have hv1:vs 1=.bool false:=Rg.Is.is (hF 1 (by omega))
  have hv2:vs 2=.bool false:=Rg.Is.is (hF 2 (by omega))
  have hv3:vs 3=.pointer (some ⟨e,0,none⟩):=Rg.Is.is (hF 3 (by omega))
  have hv4:vs 4=.string key:=Rg.Is.is (hF 4 (by omega))
  have hv5:vs 5=.bool true:=Rg.Is.is (hF 5 (by omega))
  have hv6:vs 6=.bool true:=Rg.Is.is (hF 6 (by omega))
  have hv7:vs 7=.bool true:=Rg.Is.is (hF 7 (by omega))
  have hv8:vs 8=undef:=Rg.Is.is (hF 8 (by omega))
  have hv9:vs 9=undef:=Rg.Is.is (hF 9 (by omega))
  have hv10:vs 10=undef:=Rg.Is.is (hF 10 (by omega))
  have hv11:vs 11=undef:=Rg.Is.is (hF 11 (by omega))
  have hv12:vs 12=undef:=Rg.Is.is (hF 12 (by omega))
  have hv13:vs 13=undef:=Rg.Is.is (hF 13 (by omega))
  have hv14:vs 14=undef:=Rg.Is.is (hF 14 (by omega))
  have hv15:vs 15=.bool true:=Rg.Is.is (hF 15 (by omega))
  simp only [Rg.fillA,Act.put,List.setIfInBounds_toArray,List.set_cons_succ,List.set_cons_zero,Nat.reduceAdd,Nat.add_zero]
  rw [hv0,hv1,hv2,hv3,hv4,hv5,hv6,hv7,hv8,hv9,hv10,hv11,hv12,hv13,hv14,hv15]
  go_wp2_with fail
  go_ret
  exact ⟨rfl,⟨_,HE.out.below hC⟩,.of_below hC⟩
 ·have ht2:t=false:=ht.trans (inb_no hin)
  subst ht2
  by_cases hfull:c≤n
  ·rw [A.load_no (.inr (by omega))]
   clear H hD hok hin ht hn hc
   go_enter Tryz.func308,Tryz.ntmps308
   go_wp2_with fail
   refine Rg.region_low (by kernel_rfl) 15 5 rfl (Rg.Is (fun slot=>[(.pointer (some ⟨e,0,none⟩):Value),(.bool false:Value),(.bool false:Value),(.pointer (some ⟨e,0,none⟩):Value),(.string key:Value),(.bool false:Value),(.bool false:Value),(.bool false:Value),(.pointer (some ⟨e,0,none⟩):Value),(.int .i64 (n:Nat):Value),(.pointer (some ⟨e,0,none⟩):Value),(.pointer (some ⟨e,0,none⟩):Value),(.pointer (some ⟨e,0,none⟩):Value),(.int .i64 (c:Nat):Value),(.bool true:Value),(.bool true:Value)].getD slot undef)) (fun W=>Below w.heap.size w W) (Rg.lex_of (by kernel_rfl)) (Rg.wait_of (by kernel_rfl)) (by simp) (Below.refl _ _).drew ?_ ?_
   ·intro i hi a' W hC hst hdep
    have hcase:i=0∨i=1∨i=2∨i=3∨i=4∨i=5∨i=6∨i=7∨i=8∨i=9∨i=10∨i=11∨i=12∨i=13∨i=14∨i=15:=by omega
    rcases hcase with e1 | e1 | e1 | e1 | e1 | e1 | e1 | e1 | e1 | e1 | e1 | e1 | e1 | e1 | e1 | e1
    ·subst e1
     have o0:=Rg.Still.at hst 0 (by omega)
     simp at o0
     refine Rg.low_same (v:=.pointer (some ⟨e,0,none⟩)) ?_ hC (Rg.Is.mk (j:=0))
     intro Kc hKc
     refine Rg.still_op rfl rfl ?_
     simp [Oper.wp,execOp,Act.eval,go_sem,o0]
     exact hKc
    ·subst e1
     have d0:a'.tmps[5]?.getD undef=.pointer (some ⟨e,0,none⟩):=by simpa using (Rg.Is.is (hdep 0 (by kernel_rfl)))
     refine Rg.low_new (fun v w1=>v=.bool false∧Below W.heap.size W w1) ?_ ?_
     ·intro Kc hKc
      refine Rg.still_op rfl rfl ?_
      simp [Oper.wp,execOp,Act.eval,go_sem,d0]
      refine Calls.mono (HBl.out W hC) ?_
      rintro ee w5 ⟨rfl,hb5⟩
      exact hKc _ _ ⟨rfl,hb5⟩
     ·rintro v w1 ⟨rfl,hb1⟩
      exact ⟨below_trans hC hb1,Rg.Is.mk (j:=1),fun _ _ h=>h⟩
    ·subst e1
     have d1:a'.tmps[6]?.getD undef=.bool false:=by simpa using (Rg.Is.is (hdep 1 (by kernel_rfl)))
     refine Rg.low_same (v:=.bool false) ?_ hC (Rg.Is.mk (j:=2))
     intro Kc hKc
     refine Rg.still_op rfl rfl ?_
     simp [Oper.wp,execOp,Act.eval,go_sem,d1]
     exact hKc
    ·subst e1
     have o0:=Rg.Still.at hst 0 (by omega)
     simp at o0
     refine Rg.low_same (v:=.pointer (some ⟨e,0,none⟩)) ?_ hC (Rg.Is.mk (j:=3))
     intro Kc hKc
     refine Rg.still_on rfl rfl rfl rfl (Rg.Is.is (hdep 2 (by kernel_rfl))) ?_
     simp [Oper.wp,execOp,Act.eval,go_sem,o0]
     exact hKc
    ·subst e1
     have o1:=Rg.Still.at hst 1 (by omega)
     simp at o1
     refine Rg.low_same (v:=.string key) ?_ hC (Rg.Is.mk (j:=4))
     intro Kc hKc
     refine Rg.still_on rfl rfl rfl rfl (Rg.Is.is (hdep 2 (by kernel_rfl))) ?_
     simp [Oper.wp,execOp,Act.eval,go_sem,o1]
     exact hKc
    ·subst e1
     have d3:a'.tmps[8]?.getD undef=.pointer (some ⟨e,0,none⟩):=by simpa using (Rg.Is.is (hdep 3 (by kernel_rfl)))
     have d4:a'.tmps[9]?.getD undef=.string key:=by simpa using (Rg.Is.is (hdep 4 (by kernel_rfl)))
     refine Rg.low_new (fun v w1=>v=.bool false∧Below W.heap.size W w1) ?_ ?_
     ·intro Kc hKc
      refine Rg.still_on rfl rfl rfl rfl (Rg.Is.is (hdep 2 (by kernel_rfl))) ?_
      simp [Oper.wp,execOp,Act.eval,go_sem,d3,d4]
      refine Calls.mono (HHa.out W hC) ?_
      rintro ee w5 ⟨rfl,hb5⟩
      exact hKc _ _ ⟨rfl,hb5⟩
     ·rintro v w1 ⟨rfl,hb1⟩
      exact ⟨below_trans hC hb1,Rg.Is.mk (j:=5),fun _ _ h=>h⟩
    ·subst e1
     have d2:a'.tmps[7]?.getD undef=.bool false:=by simpa using (Rg.Is.is (hdep 2 (by kernel_rfl)))
     have d5:a'.tmps[10]?.getD undef=.bool false:=by simpa using (Rg.Is.is (hdep 5 (by kernel_rfl)))
     refine Rg.low_same (v:=.bool false) ?_ hC (Rg.Is.mk (j:=6))
     intro Kc hKc
     refine Rg.still_op rfl rfl ?_
     simp [Oper.wp,execOp,Act.eval,go_sem,d2,d5]
     exact hKc
    ·subst e1
     have d6:a'.tmps[11]?.getD undef=.bool false:=by simpa using (Rg.Is.is (hdep 6 (by kernel_rfl)))
     refine Rg.low_same (v:=.bool false) ?_ hC (Rg.Is.mk (j:=7))
     intro Kc hKc
     refine Rg.still_op rfl rfl ?_
     simp [Oper.wp,execOp,Act.eval,go_sem,d6]
     exact hKc
    ·subst e1
     have o0:=Rg.Still.at hst 0 (by omega)
     simp at o0
     refine Rg.low_same (v:=.pointer (some ⟨e,0,none⟩)) ?_ hC (Rg.Is.mk (j:=8))
     intro Kc hKc
     refine Rg.still_on rfl rfl rfl rfl (Rg.Is.is (hdep 7 (by kernel_rfl))) ?_
     simp [Oper.wp,execOp,Act.eval,go_sem,o0]
     exact hKc
    ·subst e1
     have d8:a'.tmps[13]?.getD undef=.pointer (some ⟨e,0,none⟩):=by simpa using (Rg.Is.is (hdep 8 (by kernel_rfl)))
     refine Rg.low_new (fun v w1=>v=.int .i64 (n:Nat)∧Below W.heap.size W w1) ?_ ?_
     ·intro Kc hKc
      refine Rg.still_on rfl rfl rfl rfl (Rg.Is.is (hdep 7 (by kernel_rfl))) ?_
      simp [Oper.wp,execOp,Act.eval,go_sem,d8]
      refine Calls.mono (HLe.out W hC) ?_
      rintro ee w5 ⟨rfl,hb5⟩
      exact hKc _ _ ⟨rfl,hb5⟩
     ·rintro v w1 ⟨rfl,hb1⟩
      exact ⟨below_trans hC hb1,Rg.Is.mk (j:=9),fun _ _ h=>h⟩
    ·subst e1
     have o0:=Rg.Still.at hst 0 (by omega)
     simp at o0
     refine Rg.low_same (v:=.pointer (some ⟨e,0,none⟩)) ?_ hC (Rg.Is.mk (j:=10))
     intro Kc hKc
     refine Rg.still_on rfl rfl rfl rfl (Rg.Is.is (hdep 7 (by kernel_rfl))) ?_
     simp [Oper.wp,execOp,Act.eval,go_sem,o0]
     exact hKc
    ·subst e1
     have d10:a'.tmps[15]?.getD undef=.pointer (some ⟨e,0,none⟩):=by simpa using (Rg.Is.is (hdep 10 (by kernel_rfl)))
     refine Rg.low_same (v:=.pointer (some ⟨e,0,none⟩)) ?_ hC (Rg.Is.mk (j:=11))
     intro Kc hKc
     refine Rg.still_on rfl rfl rfl rfl (Rg.Is.is (hdep 7 (by kernel_rfl))) ?_
     simp [Oper.wp,execOp,Act.eval,go_sem,d10]
     exact hKc
    ·subst e1
     have d11:a'.tmps[16]?.getD undef=.pointer (some ⟨e,0,none⟩):=by simpa using (Rg.Is.is (hdep 11 (by kernel_rfl)))
     refine Rg.low_same (v:=.pointer (some ⟨e,0,none⟩)) ?_ hC (Rg.Is.mk (j:=12))
     intro Kc hKc
     refine Rg.still_on rfl rfl rfl rfl (Rg.Is.is (hdep 7 (by kernel_rfl))) ?_
     simp [Oper.wp,execOp,Act.eval,go_sem,d11]
     exact hKc
    ·subst e1
     have d12:a'.tmps[17]?.getD undef=.pointer (some ⟨e,0,none⟩):=by simpa using (Rg.Is.is (hdep 12 (by kernel_rfl)))
     have c0':=HC0.out W hC
     refine Rg.low_same (v:=.int .i64 (c:Nat)) ?_ hC (Rg.Is.mk (j:=13))
     intro Kc hKc
     refine Rg.still_on rfl rfl rfl rfl (Rg.Is.is (hdep 7 (by kernel_rfl))) ?_
     simp [Oper.wp,execOp,Act.eval,go_sem,d12,c0']
     exact hKc
    ·subst e1
     have d9:a'.tmps[14]?.getD undef=.int .i64 (n:Nat):=by simpa using (Rg.Is.is (hdep 9 (by kernel_rfl)))
     have d13:a'.tmps[18]?.getD undef=.int .i64 (c:Nat):=by simpa using (Rg.Is.is (hdep 13 (by kernel_rfl)))
     refine Rg.low_same (v:=.bool true) ?_ hC (Rg.Is.mk (j:=14))
     intro Kc hKc
     refine Rg.still_on rfl rfl rfl rfl (Rg.Is.is (hdep 7 (by kernel_rfl))) ?_
     simp [Oper.wp,execOp,Act.eval,go_sem,d9,d13,hfull]
     exact hKc
    ·subst e1
     have d7:a'.tmps[12]?.getD undef=.bool false:=by simpa using (Rg.Is.is (hdep 7 (by kernel_rfl)))
     have d14:a'.tmps[19]?.getD undef=.bool true:=by simpa using (Rg.Is.is (hdep 14 (by kernel_rfl)))
     refine Rg.low_same (v:=.bool true) ?_ hC (Rg.Is.mk (j:=15))
     intro Kc hKc
     refine Rg.still_op rfl rfl ?_
     simp [Oper.wp,execOp,Act.eval,go_sem,d7,d14]
     exact hKc
   intro vs W hC hF
   have hv0:vs 0=.pointer (some ⟨e,0,none⟩):=Rg.Is.is (hF 0 (by omega))
   have hv1:vs 1=.bool false:=Rg.Is.is (hF 1 (by omega))
   have hv2:vs 2=.bool false:=Rg.Is.is (hF 2 (by omega))
   have hv3:vs 3=.pointer (some ⟨e,0,none⟩):=Rg.Is.is (hF 3 (by omega))
   have hv4:vs 4=.string key:=Rg.Is.is (hF 4 (by omega))
   have hv5:vs 5=.bool false:=Rg.Is.is (hF 5 (by omega))
   have hv6:vs 6=.bool false:=Rg.Is.is (hF 6 (by omega))
   have hv7:vs 7=.bool false:=Rg.Is.is (hF 7 (by omega))
   have hv8:vs 8=.pointer (some ⟨e,0,none⟩):=Rg.Is.is (hF 8 (by omega))
   have hv9:vs 9=.int .i64 (n:Nat):=Rg.Is.is (hF 9 (by omega))
   have hv10:vs 10=.pointer (some ⟨e,0,none⟩):=Rg.Is.is (hF 10 (by omega))
   have hv11:vs 11=.pointer (some ⟨e,0,none⟩):=Rg.Is.is (hF 11 (by omega))
   have hv12:vs 12=.pointer (some ⟨e,0,none⟩):=Rg.Is.is (hF 12 (by omega))
   have hv13:vs 13=.int .i64 (c:Nat):=Rg.Is.is (hF 13 (by omega))
   have hv14:vs 14=.bool true:=Rg.Is.is (hF 14 (by omega))
   have hv15:vs 15=.bool true:=Rg.Is.is (hF 15 (by omega))
   simp only [Rg.fillA,Act.put,List.setIfInBounds_toArray,List.set_cons_succ,List.set_cons_zero,Nat.reduceAdd,Nat.add_zero]
   rw [hv0,hv1,hv2,hv3,hv4,hv5,hv6,hv7,hv8,hv9,hv10,hv11,hv12,hv13,hv14,hv15]
   go_wp2_with fail
   go_ret
   exact ⟨rfl,⟨_,HE.out.below hC⟩,.of_below hC⟩
  ·have HM:Hid (m key=none):=H.lost hin
   have hmf:∀ W,Below w.heap.size w W→Calls Tryz.prog 323 #[.pointer (some ⟨e,0,none⟩)] W fun ee w'=>ee=.returned (.bool (decide (mr s.c≤s.b1.length+s.t2.length)))∧Below W.heap.size W w':=fun W hW=>full_any (HE.out.below hW) hlo hc1 (by omega)
   by_cases hm:mr s.c≤s.b1.length+s.t2.length
   ·have e0:A.load s key=(true,{ s with t1:=s.t1++[key] }):=by
     unfold A.load
     rw [if_neg (by intro h3;rcases h3 with h3 | h3;exact hin h3;omega),if_pos (show A.mroom s≤_ from hm)]
    rw [e0]
    rw [decide_eq_true hm] at hmf
    have HMf:Hid _:=hmf
    have HU:Hid (∀ j,j<3→qs { s with t1:=s.t1++[key] } j=laid (qs s) key 0 j):=come_rows hin
    clear H hD hok hin ht hn hc e0 hm hmf hll
    go_enter Tryz.func308,Tryz.ntmps308
    go_wp2_with fail
    refine Rg.region_low (by kernel_rfl) 15 5 rfl (Rg.Is (fun slot=>[(.pointer (some ⟨e,0,none⟩):Value),(.bool false:Value),(.bool false:Value),(.pointer (some ⟨e,0,none⟩):Value),(.string key:Value),(.bool false:Value),(.bool false:Value),(.bool false:Value),(.pointer (some ⟨e,0,none⟩):Value),(.int .i64 (n:Nat):Value),(.pointer (some ⟨e,0,none⟩):Value),(.pointer (some ⟨e,0,none⟩):Value),(.pointer (some ⟨e,0,none⟩):Value),(.int .i64 (c:Nat):Value),(.bool false:Value),(.bool false:Value)].getD slot undef)) (fun W=>Below w.heap.size w W) (Rg.lex_of (by kernel_rfl)) (Rg.wait_of (by kernel_rfl)) (by simp) (Below.refl _ _).drew ?_ ?_
    ·intro i hi a' W hC hst hdep
     have hcase:i=0∨i=1∨i=2∨i=3∨i=4∨i=5∨i=6∨i=7∨i=8∨i=9∨i=10∨i=11∨i=12∨i=13∨i=14∨i=15:=by omega
     rcases hcase with e1 | e1 | e1 | e1 | e1 | e1 | e1 | e1 | e1 | e1 | e1 | e1 | e1 | e1 | e1 | e1
     ·subst e1
      have o0:=Rg.Still.at hst 0 (by omega)
      simp at o0
      refine Rg.low_same (v:=.pointer (some ⟨e,0,none⟩)) ?_ hC (Rg.Is.mk (j:=0))
      intro Kc hKc
      refine Rg.still_op rfl rfl ?_
      simp [Oper.wp,execOp,Act.eval,go_sem,o0]
      exact hKc
     ·subst e1
      have d0:a'.tmps[5]?.getD undef=.pointer (some ⟨e,0,none⟩):=by simpa using (Rg.Is.is (hdep 0 (by kernel_rfl)))
      refine Rg.low_new (fun v w1=>v=.bool false∧Below W.heap.size W w1) ?_ ?_
      ·intro Kc hKc
       refine Rg.still_op rfl rfl ?_
       simp [Oper.wp,execOp,Act.eval,go_sem,d0]
       refine Calls.mono (HBl.out W hC) ?_
       rintro ee w5 ⟨rfl,hb5⟩
       exact hKc _ _ ⟨rfl,hb5⟩
      ·rintro v w1 ⟨rfl,hb1⟩
       exact ⟨below_trans hC hb1,Rg.Is.mk (j:=1),fun _ _ h=>h⟩
     ·subst e1
      have d1:a'.tmps[6]?.getD undef=.bool false:=by simpa using (Rg.Is.is (hdep 1 (by kernel_rfl)))
      refine Rg.low_same (v:=.bool false) ?_ hC (Rg.Is.mk (j:=2))
      intro Kc hKc
      refine Rg.still_op rfl rfl ?_
      simp [Oper.wp,execOp,Act.eval,go_sem,d1]
      exact hKc
     ·subst e1
      have o0:=Rg.Still.at hst 0 (by omega)
      simp at o0
      refine Rg.low_same (v:=.pointer (some ⟨e,0,none⟩)) ?_ hC (Rg.Is.mk (j:=3))
      intro Kc hKc
      refine Rg.still_on rfl rfl rfl rfl (Rg.Is.is (hdep 2 (by kernel_rfl))) ?_
      simp [Oper.wp,execOp,Act.eval,go_sem,o0]
      exact hKc
     ·subst e1
      have o1:=Rg.Still.at hst 1 (by omega)
      simp at o1
      refine Rg.low_same (v:=.string key) ?_ hC (Rg.Is.mk (j:=4))
      intro Kc hKc
      refine Rg.still_on rfl rfl rfl rfl (Rg.Is.is (hdep 2 (by kernel_rfl))) ?_
      simp [Oper.wp,execOp,Act.eval,go_sem,o1]
      exact hKc
     ·subst e1
      have d3:a'.tmps[8]?.getD undef=.pointer (some ⟨e,0,none⟩):=by simpa using (Rg.Is.is (hdep 3 (by kernel_rfl)))
      have d4:a'.tmps[9]?.getD undef=.string key:=by simpa using (Rg.Is.is (hdep 4 (by kernel_rfl)))
      refine Rg.low_new (fun v w1=>v=.bool false∧Below W.heap.size W w1) ?_ ?_
      ·intro Kc hKc
       refine Rg.still_on rfl rfl rfl rfl (Rg.Is.is (hdep 2 (by kernel_rfl))) ?_
       simp [Oper.wp,execOp,Act.eval,go_sem,d3,d4]
       refine Calls.mono (HHa.out W hC) ?_
       rintro ee w5 ⟨rfl,hb5⟩
       exact hKc _ _ ⟨rfl,hb5⟩
      ·rintro v w1 ⟨rfl,hb1⟩
       exact ⟨below_trans hC hb1,Rg.Is.mk (j:=5),fun _ _ h=>h⟩
     ·subst e1
      have d2:a'.tmps[7]?.getD undef=.bool false:=by simpa using (Rg.Is.is (hdep 2 (by kernel_rfl)))
      have d5:a'.tmps[10]?.getD undef=.bool false:=by simpa using (Rg.Is.is (hdep 5 (by kernel_rfl)))
      refine Rg.low_same (v:=.bool false) ?_ hC (Rg.Is.mk (j:=6))
      intro Kc hKc
      refine Rg.still_op rfl rfl ?_
      simp [Oper.wp,execOp,Act.eval,go_sem,d2,d5]
      exact hKc
     ·subst e1
      have d6:a'.tmps[11]?.getD undef=.bool false:=by simpa using (Rg.Is.is (hdep 6 (by kernel_rfl)))
      refine Rg.low_same (v:=.bool false) ?_ hC (Rg.Is.mk (j:=7))
      intro Kc hKc
      refine Rg.still_op rfl rfl ?_
      simp [Oper.wp,execOp,Act.eval,go_sem,d6]
      exact hKc
     ·subst e1
      have o0:=Rg.Still.at hst 0 (by omega)
      simp at o0
      refine Rg.low_same (v:=.pointer (some ⟨e,0,none⟩)) ?_ hC (Rg.Is.mk (j:=8))
      intro Kc hKc
      refine Rg.still_on rfl rfl rfl rfl (Rg.Is.is (hdep 7 (by kernel_rfl))) ?_
      simp [Oper.wp,execOp,Act.eval,go_sem,o0]
      exact hKc
     ·subst e1
      have d8:a'.tmps[13]?.getD undef=.pointer (some ⟨e,0,none⟩):=by simpa using (Rg.Is.is (hdep 8 (by kernel_rfl)))
      refine Rg.low_new (fun v w1=>v=.int .i64 (n:Nat)∧Below W.heap.size W w1) ?_ ?_
      ·intro Kc hKc
       refine Rg.still_on rfl rfl rfl rfl (Rg.Is.is (hdep 7 (by kernel_rfl))) ?_
       simp [Oper.wp,execOp,Act.eval,go_sem,d8]
       refine Calls.mono (HLe.out W hC) ?_
       rintro ee w5 ⟨rfl,hb5⟩
       exact hKc _ _ ⟨rfl,hb5⟩
      ·rintro v w1 ⟨rfl,hb1⟩
       exact ⟨below_trans hC hb1,Rg.Is.mk (j:=9),fun _ _ h=>h⟩
     ·subst e1
      have o0:=Rg.Still.at hst 0 (by omega)
      simp at o0
      refine Rg.low_same (v:=.pointer (some ⟨e,0,none⟩)) ?_ hC (Rg.Is.mk (j:=10))
      intro Kc hKc
      refine Rg.still_on rfl rfl rfl rfl (Rg.Is.is (hdep 7 (by kernel_rfl))) ?_
      simp [Oper.wp,execOp,Act.eval,go_sem,o0]
      exact hKc
     ·subst e1
      have d10:a'.tmps[15]?.getD undef=.pointer (some ⟨e,0,none⟩):=by simpa using (Rg.Is.is (hdep 10 (by kernel_rfl)))
      refine Rg.low_same (v:=.pointer (some ⟨e,0,none⟩)) ?_ hC (Rg.Is.mk (j:=11))
      intro Kc hKc
      refine Rg.still_on rfl rfl rfl rfl (Rg.Is.is (hdep 7 (by kernel_rfl))) ?_
      simp [Oper.wp,execOp,Act.eval,go_sem,d10]
      exact hKc
     ·subst e1
      have d11:a'.tmps[16]?.getD undef=.pointer (some ⟨e,0,none⟩):=by simpa using (Rg.Is.is (hdep 11 (by kernel_rfl)))
      refine Rg.low_same (v:=.pointer (some ⟨e,0,none⟩)) ?_ hC (Rg.Is.mk (j:=12))
      intro Kc hKc
      refine Rg.still_on rfl rfl rfl rfl (Rg.Is.is (hdep 7 (by kernel_rfl))) ?_
      simp [Oper.wp,execOp,Act.eval,go_sem,d11]
      exact hKc
     ·subst e1
      have d12:a'.tmps[17]?.getD undef=.pointer (some ⟨e,0,none⟩):=by simpa using (Rg.Is.is (hdep 12 (by kernel_rfl)))
      have c0':=HC0.out W hC
      refine Rg.low_same (v:=.int .i64 (c:Nat)) ?_ hC (Rg.Is.mk (j:=13))
      intro Kc hKc
      refine Rg.still_on rfl rfl rfl rfl (Rg.Is.is (hdep 7 (by kernel_rfl))) ?_
      simp [Oper.wp,execOp,Act.eval,go_sem,d12,c0']
      exact hKc
     ·subst e1
      have d9:a'.tmps[14]?.getD undef=.int .i64 (n:Nat):=by simpa using (Rg.Is.is (hdep 9 (by kernel_rfl)))
      have d13:a'.tmps[18]?.getD undef=.int .i64 (c:Nat):=by simpa using (Rg.Is.is (hdep 13 (by kernel_rfl)))
      refine Rg.low_same (v:=.bool false) ?_ hC (Rg.Is.mk (j:=14))
      intro Kc hKc
      refine Rg.still_on rfl rfl rfl rfl (Rg.Is.is (hdep 7 (by kernel_rfl))) ?_
      simp [Oper.wp,execOp,Act.eval,go_sem,d9,d13,hfull]
      exact hKc
     ·subst e1
      have d7:a'.tmps[12]?.getD undef=.bool false:=by simpa using (Rg.Is.is (hdep 7 (by kernel_rfl)))
      have d14:a'.tmps[19]?.getD undef=.bool false:=by simpa using (Rg.Is.is (hdep 14 (by kernel_rfl)))
      refine Rg.low_same (v:=.bool false) ?_ hC (Rg.Is.mk (j:=15))
      intro Kc hKc
      refine Rg.still_op rfl rfl ?_
      simp [Oper.wp,execOp,Act.eval,go_sem,d7,d14]
      exact hKc
    intro vs W hC hF
    have hv0:vs 0=.pointer (some ⟨e,0,none⟩):=Rg.Is.is (hF 0 (by omega))
    have hv1:vs 1=.bool false:=Rg.Is.is (hF 1 (by omega))
    have hv2:vs 2=.bool false:=Rg.Is.is (hF 2 (by omega))
    have hv3:vs 3=.pointer (some ⟨e,0,none⟩):=Rg.Is.is (hF 3 (by omega))
    have hv4:vs 4=.string key:=Rg.Is.is (hF 4 (by omega))
    have hv5:vs 5=.bool false:=Rg.Is.is (hF 5 (by omega))
    have hv6:vs 6=.bool false:=Rg.Is.is (hF 6 (by omega))
    have hv7:vs 7=.bool false:=Rg.Is.is (hF 7 (by omega))
    have hv8:vs 8=.pointer (some ⟨e,0,none⟩):=Rg.Is.is (hF 8 (by omega))
    have hv9:vs 9=.int .i64 (n:Nat):=Rg.Is.is (hF 9 (by omega))
    have hv10:vs 10=.pointer (some ⟨e,0,none⟩):=Rg.Is.is (hF 10 (by omega))
    have hv11:vs 11=.pointer (some ⟨e,0,none⟩):=Rg.Is.is (hF 11 (by omega))
    have hv12:vs 12=.pointer (some ⟨e,0,none⟩):=Rg.Is.is (hF 12 (by omega))
    have hv13:vs 13=.int .i64 (c:Nat):=Rg.Is.is (hF 13 (by omega))
    have hv14:vs 14=.bool false:=Rg.Is.is (hF 14 (by omega))
    have hv15:vs 15=.bool false:=Rg.Is.is (hF 15 (by omega))
    simp only [Rg.fillA,Act.put,List.setIfInBounds_toArray,List.set_cons_succ,List.set_cons_zero,Nat.reduceAdd,Nat.add_zero]
    rw [hv0,hv1,hv2,hv3,hv4,hv5,hv6,hv7,hv8,hv9,hv10,hv11,hv12,hv13,hv14,hv15]
    have HCw:Hid (Below w.heap.size w W):=hC
    clear hC hF
    go_wp2_with (first
     | (go_at_call 323;refine (HMf.out W HCw.out).mono ?_;rintro ee w3 ⟨rfl,hb3⟩;have HB3:Hid (Below w.heap.size w w3):=below_trans HCw.out hb3;clear hb3)
     | (go_at_call 316;refine (admit_any (HE.out.below HB3.out) (fun k hk=>HD.out k (Nat.le_trans HB3.out.size hk)) (by omega) key hk HM.out 0 (by omega) HTot.out).mono ?_;rintro ee w4 ⟨rfl,⟨h',h4⟩,hk4⟩;have H4:Hid (MB e z { s with t1:=s.t1++[key] } D w4):=⟨_,h4.congr HU.out⟩;clear h4))
    go_ret
    exact ⟨rfl,H4.out,(Keeps.of_below HB3.out).trans hk4⟩
   ·have e0:A.load s key=(true,{ s with b1:=s.b1++[key] }):=by
     unfold A.load
     rw [if_neg (by intro h3;rcases h3 with h3 | h3;exact hin h3;omega),if_neg (show ¬ A.mroom s≤_ from hm)]
    rw [e0]
    rw [decide_eq_false hm] at hmf
    have HMf:Hid _:=hmf
    have HU:Hid (∀ j,j<3→qs { s with b1:=s.b1++[key] } j=laid (qs s) key 1 j):=load_main hin
    clear H hD hok hin ht hn hc e0 hm hmf hll
    go_enter Tryz.func308,Tryz.ntmps308
    go_wp2_with fail
    refine Rg.region_low (by kernel_rfl) 15 5 rfl (Rg.Is (fun slot=>[(.pointer (some ⟨e,0,none⟩):Value),(.bool false:Value),(.bool false:Value),(.pointer (some ⟨e,0,none⟩):Value),(.string key:Value),(.bool false:Value),(.bool false:Value),(.bool false:Value),(.pointer (some ⟨e,0,none⟩):Value),(.int .i64 (n:Nat):Value),(.pointer (some ⟨e,0,none⟩):Value),(.pointer (some ⟨e,0,none⟩):Value),(.pointer (some ⟨e,0,none⟩):Value),(.int .i64 (c:Nat):Value),(.bool false:Value),(.bool false:Value)].getD slot undef)) (fun W=>Below w.heap.size w W) (Rg.lex_of (by kernel_rfl)) (Rg.wait_of (by kernel_rfl)) (by simp) (Below.refl _ _).drew ?_ ?_
    ·intro i hi a' W hC hst hdep
     have hcase:i=0∨i=1∨i=2∨i=3∨i=4∨i=5∨i=6∨i=7∨i=8∨i=9∨i=10∨i=11∨i=12∨i=13∨i=14∨i=15:=by omega
     rcases hcase with e1 | e1 | e1 | e1 | e1 | e1 | e1 | e1 | e1 | e1 | e1 | e1 | e1 | e1 | e1 | e1
     ·subst e1
      have o0:=Rg.Still.at hst 0 (by omega)
      simp at o0
      refine Rg.low_same (v:=.pointer (some ⟨e,0,none⟩)) ?_ hC (Rg.Is.mk (j:=0))
      intro Kc hKc
      refine Rg.still_op rfl rfl ?_
      simp [Oper.wp,execOp,Act.eval,go_sem,o0]
      exact hKc
     ·subst e1
      have d0:a'.tmps[5]?.getD undef=.pointer (some ⟨e,0,none⟩):=by simpa using (Rg.Is.is (hdep 0 (by kernel_rfl)))
      refine Rg.low_new (fun v w1=>v=.bool false∧Below W.heap.size W w1) ?_ ?_
      ·intro Kc hKc
       refine Rg.still_op rfl rfl ?_
       simp [Oper.wp,execOp,Act.eval,go_sem,d0]
       refine Calls.mono (HBl.out W hC) ?_
       rintro ee w5 ⟨rfl,hb5⟩
       exact hKc _ _ ⟨rfl,hb5⟩
      ·rintro v w1 ⟨rfl,hb1⟩
       exact ⟨below_trans hC hb1,Rg.Is.mk (j:=1),fun _ _ h=>h⟩
     ·subst e1
      have d1:a'.tmps[6]?.getD undef=.bool false:=by simpa using (Rg.Is.is (hdep 1 (by kernel_rfl)))
      refine Rg.low_same (v:=.bool false) ?_ hC (Rg.Is.mk (j:=2))
      intro Kc hKc
      refine Rg.still_op rfl rfl ?_
      simp [Oper.wp,execOp,Act.eval,go_sem,d1]
      exact hKc
     ·subst e1
      have o0:=Rg.Still.at hst 0 (by omega)
      simp at o0
      refine Rg.low_same (v:=.pointer (some ⟨e,0,none⟩)) ?_ hC (Rg.Is.mk (j:=3))
      intro Kc hKc
      refine Rg.still_on rfl rfl rfl rfl (Rg.Is.is (hdep 2 (by kernel_rfl))) ?_
      simp [Oper.wp,execOp,Act.eval,go_sem,o0]
      exact hKc
     ·subst e1
      have o1:=Rg.Still.at hst 1 (by omega)
      simp at o1
      refine Rg.low_same (v:=.string key) ?_ hC (Rg.Is.mk (j:=4))
      intro Kc hKc
      refine Rg.still_on rfl rfl rfl rfl (Rg.Is.is (hdep 2 (by kernel_rfl))) ?_
      simp [Oper.wp,execOp,Act.eval,go_sem,o1]
      exact hKc
     ·subst e1
      have d3:a'.tmps[8]?.getD undef=.pointer (some ⟨e,0,none⟩):=by simpa using (Rg.Is.is (hdep 3 (by kernel_rfl)))
      have d4:a'.tmps[9]?.getD undef=.string key:=by simpa using (Rg.Is.is (hdep 4 (by kernel_rfl)))
      refine Rg.low_new (fun v w1=>v=.bool false∧Below W.heap.size W w1) ?_ ?_
      ·intro Kc hKc
       refine Rg.still_on rfl rfl rfl rfl (Rg.Is.is (hdep 2 (by kernel_rfl))) ?_
       simp [Oper.wp,execOp,Act.eval,go_sem,d3,d4]
       refine Calls.mono (HHa.out W hC) ?_
       rintro ee w5 ⟨rfl,hb5⟩
       exact hKc _ _ ⟨rfl,hb5⟩
      ·rintro v w1 ⟨rfl,hb1⟩
       exact ⟨below_trans hC hb1,Rg.Is.mk (j:=5),fun _ _ h=>h⟩
     ·subst e1
      have d2:a'.tmps[7]?.getD undef=.bool false:=by simpa using (Rg.Is.is (hdep 2 (by kernel_rfl)))
      have d5:a'.tmps[10]?.getD undef=.bool false:=by simpa using (Rg.Is.is (hdep 5 (by kernel_rfl)))
      refine Rg.low_same (v:=.bool false) ?_ hC (Rg.Is.mk (j:=6))
      intro Kc hKc
      refine Rg.still_op rfl rfl ?_
      simp [Oper.wp,execOp,Act.eval,go_sem,d2,d5]
      exact hKc
     ·subst e1
      have d6:a'.tmps[11]?.getD undef=.bool false:=by simpa using (Rg.Is.is (hdep 6 (by kernel_rfl)))
      refine Rg.low_same (v:=.bool false) ?_ hC (Rg.Is.mk (j:=7))
      intro Kc hKc
      refine Rg.still_op rfl rfl ?_
      simp [Oper.wp,execOp,Act.eval,go_sem,d6]
      exact hKc
     ·subst e1
      have o0:=Rg.Still.at hst 0 (by omega)
      simp at o0
      refine Rg.low_same (v:=.pointer (some ⟨e,0,none⟩)) ?_ hC (Rg.Is.mk (j:=8))
      intro Kc hKc
      refine Rg.still_on rfl rfl rfl rfl (Rg.Is.is (hdep 7 (by kernel_rfl))) ?_
      simp [Oper.wp,execOp,Act.eval,go_sem,o0]
      exact hKc
     ·subst e1
      have d8:a'.tmps[13]?.getD undef=.pointer (some ⟨e,0,none⟩):=by simpa using (Rg.Is.is (hdep 8 (by kernel_rfl)))
      refine Rg.low_new (fun v w1=>v=.int .i64 (n:Nat)∧Below W.heap.size W w1) ?_ ?_
      ·intro Kc hKc
       refine Rg.still_on rfl rfl rfl rfl (Rg.Is.is (hdep 7 (by kernel_rfl))) ?_
       simp [Oper.wp,execOp,Act.eval,go_sem,d8]
       refine Calls.mono (HLe.out W hC) ?_
       rintro ee w5 ⟨rfl,hb5⟩
       exact hKc _ _ ⟨rfl,hb5⟩
      ·rintro v w1 ⟨rfl,hb1⟩
       exact ⟨below_trans hC hb1,Rg.Is.mk (j:=9),fun _ _ h=>h⟩
     ·subst e1
      have o0:=Rg.Still.at hst 0 (by omega)
      simp at o0
      refine Rg.low_same (v:=.pointer (some ⟨e,0,none⟩)) ?_ hC (Rg.Is.mk (j:=10))
      intro Kc hKc
      refine Rg.still_on rfl rfl rfl rfl (Rg.Is.is (hdep 7 (by kernel_rfl))) ?_
      simp [Oper.wp,execOp,Act.eval,go_sem,o0]
      exact hKc
     ·subst e1
      have d10:a'.tmps[15]?.getD undef=.pointer (some ⟨e,0,none⟩):=by simpa using (Rg.Is.is (hdep 10 (by kernel_rfl)))
      refine Rg.low_same (v:=.pointer (some ⟨e,0,none⟩)) ?_ hC (Rg.Is.mk (j:=11))
      intro Kc hKc
      refine Rg.still_on rfl rfl rfl rfl (Rg.Is.is (hdep 7 (by kernel_rfl))) ?_
      simp [Oper.wp,execOp,Act.eval,go_sem,d10]
      exact hKc
     ·subst e1
      have d11:a'.tmps[16]?.getD undef=.pointer (some ⟨e,0,none⟩):=by simpa using (Rg.Is.is (hdep 11 (by kernel_rfl)))
      refine Rg.low_same (v:=.pointer (some ⟨e,0,none⟩)) ?_ hC (Rg.Is.mk (j:=12))
      intro Kc hKc
      refine Rg.still_on rfl rfl rfl rfl (Rg.Is.is (hdep 7 (by kernel_rfl))) ?_
      simp [Oper.wp,execOp,Act.eval,go_sem,d11]
      exact hKc
     ·subst e1
      have d12:a'.tmps[17]?.getD undef=.pointer (some ⟨e,0,none⟩):=by simpa using (Rg.Is.is (hdep 12 (by kernel_rfl)))
      have c0':=HC0.out W hC
      refine Rg.low_same (v:=.int .i64 (c:Nat)) ?_ hC (Rg.Is.mk (j:=13))
      intro Kc hKc
      refine Rg.still_on rfl rfl rfl rfl (Rg.Is.is (hdep 7 (by kernel_rfl))) ?_
      simp [Oper.wp,execOp,Act.eval,go_sem,d12,c0']
      exact hKc
     ·subst e1
      have d9:a'.tmps[14]?.getD undef=.int .i64 (n:Nat):=by simpa using (Rg.Is.is (hdep 9 (by kernel_rfl)))
      have d13:a'.tmps[18]?.getD undef=.int .i64 (c:Nat):=by simpa using (Rg.Is.is (hdep 13 (by kernel_rfl)))
      refine Rg.low_same (v:=.bool false) ?_ hC (Rg.Is.mk (j:=14))
      intro Kc hKc
      refine Rg.still_on rfl rfl rfl rfl (Rg.Is.is (hdep 7 (by kernel_rfl))) ?_
      simp [Oper.wp,execOp,Act.eval,go_sem,d9,d13,hfull]
      exact hKc
     ·subst e1
      have d7:a'.tmps[12]?.getD undef=.bool false:=by simpa using (Rg.Is.is (hdep 7 (by kernel_rfl)))
      have d14:a'.tmps[19]?.getD undef=.bool false:=by simpa using (Rg.Is.is (hdep 14 (by kernel_rfl)))
      refine Rg.low_same (v:=.bool false) ?_ hC (Rg.Is.mk (j:=15))
      intro Kc hKc
      refine Rg.still_op rfl rfl ?_
      simp [Oper.wp,execOp,Act.eval,go_sem,d7,d14]
      exact hKc
    intro vs W hC hF
    have hv0:vs 0=.pointer (some ⟨e,0,none⟩):=Rg.Is.is (hF 0 (by omega))
    have hv1:vs 1=.bool false:=Rg.Is.is (hF 1 (by omega))
    have hv2:vs 2=.bool false:=Rg.Is.is (hF 2 (by omega))
    have hv3:vs 3=.pointer (some ⟨e,0,none⟩):=Rg.Is.is (hF 3 (by omega))
    have hv4:vs 4=.string key:=Rg.Is.is (hF 4 (by omega))
    have hv5:vs 5=.bool false:=Rg.Is.is (hF 5 (by omega))
    have hv6:vs 6=.bool false:=Rg.Is.is (hF 6 (by omega))
    have hv7:vs 7=.bool false:=Rg.Is.is (hF 7 (by omega))
    have hv8:vs 8=.pointer (some ⟨e,0,none⟩):=Rg.Is.is (hF 8 (by omega))
    have hv9:vs 9=.int .i64 (n:Nat):=Rg.Is.is (hF 9 (by omega))
    have hv10:vs 10=.pointer (some ⟨e,0,none⟩):=Rg.Is.is (hF 10 (by omega))
    have hv11:vs 11=.pointer (some ⟨e,0,none⟩):=Rg.Is.is (hF 11 (by omega))
    have hv12:vs 12=.pointer (some ⟨e,0,none⟩):=Rg.Is.is (hF 12 (by omega))
    have hv13:vs 13=.int .i64 (c:Nat):=Rg.Is.is (hF 13 (by omega))
    have hv14:vs 14=.bool false:=Rg.Is.is (hF 14 (by omega))
    have hv15:vs 15=.bool false:=Rg.Is.is (hF 15 (by omega))
    simp only [Rg.fillA,Act.put,List.setIfInBounds_toArray,List.set_cons_succ,List.set_cons_zero,Nat.reduceAdd,Nat.add_zero]
    rw [hv0,hv1,hv2,hv3,hv4,hv5,hv6,hv7,hv8,hv9,hv10,hv11,hv12,hv13,hv14,hv15]
    have HCw:Hid (Below w.heap.size w W):=hC
    clear hC hF
    go_wp2_with (first
     | (go_at_call 323;refine (HMf.out W HCw.out).mono ?_;rintro ee w3 ⟨rfl,hb3⟩;have HB3:Hid (Below w.heap.size w w3):=below_trans HCw.out hb3;clear hb3)
     | (go_at_call 316;refine (admit_any (HE.out.below HB3.out) (fun k hk=>HD.out k (Nat.le_trans HB3.out.size hk)) (by omega) key hk HM.out 1 (by omega) HTot.out).mono ?_;rintro ee w4 ⟨rfl,⟨h',h4⟩,hk4⟩;have H4:Hid (MB e z { s with b1:=s.b1++[key] } D w4):=⟨_,h4.congr HU.out⟩;clear h4))
    go_ret
    exact ⟨rfl,H4.out,(Keeps.of_below HB3.out).trans hk4⟩
end
end Go.Proofs.YtkkkkiejnmpdkaaGreatDoor.Lfu
