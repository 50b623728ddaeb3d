/- Lfu Pu: Pure Bs -/
import Derived.Test.YtkkkkiejnmpdkaaGreatDoorTx
namespace Go.Proofs.YtkkkkiejnmpdkaaGreatDoor.Lfu.A
structure St (κ:Type) where
 t1:List κ
 b1:List κ
 t2:List κ
 c:Nat
section
variable {κ:Type} [DecidableEq κ]
def cut (l:List κ) (k:κ):List κ:=l.filter (fun x=>decide (x≠k))
def one (a b:κ):Nat:=if a=b then 1 else 0
def cnt (k:κ):List κ→Nat
 | []=>0
 | x::l=>one x k+cnt k l
theorem one_self (a:κ):one a a=1:=by simp [one]
theorem one_ne {a b:κ} (h:a≠b):one a b=0:=by simp [one,h]
theorem cnt_cons (k x:κ) (l:List κ):cnt k (x::l)=one x k+cnt k l:=rfl
theorem cnt_append (k:κ) (l m:List κ):cnt k (l++m)=cnt k l+cnt k m:=by
 induction l with
 | nil=>simp [cnt]
 | cons x l ih=>simp [cnt,ih];omega
theorem cnt_snoc (k x:κ) (l:List κ):cnt k (l++[x])=cnt k l+one x k:=by rw [cnt_append];simp [cnt]
theorem cnt_pos {k:κ} {l:List κ}:0<cnt k l↔k∈l:=by
 induction l with
 | nil=>simp [cnt]
 | cons x l ih =>
   rw [cnt_cons,List.mem_cons,← ih]
   unfold one
   by_cases h:x=k
   ·simp [h];omega
   ·simp [h,Ne.symm h]
theorem cnt_zero {k:κ} {l:List κ}:cnt k l=0↔k∉l:=by rw [← cnt_pos];omega
theorem cut_same {k:κ} {l:List κ} (h:k∉l):cut l k=l:=by
 unfold cut
 rw [List.filter_eq_self]
 intro x hx
 simp
 rintro rfl
 exact h hx
def Once (l:List κ):Prop:=∀ k,cnt k l≤1
theorem Once.nodup {l:List κ} (h:Once l):l.Nodup:=by
 induction l with
 | nil=>simp
 | cons x l ih =>
   rw [List.nodup_cons]
   refine ⟨fun hx=>?_,ih (fun k=>by have:=h k;rw [cnt_cons] at this;omega)⟩
   have:=h x
   rw [cnt_cons,one_self] at this
   have:=cnt_pos.2 hx
   omega
def keys (s:St κ):List κ:=s.t1++(s.b1++s.t2)
def start (c:Nat):St κ:=⟨[],[],[],c⟩
def wroom (s:St κ):Nat:=max (s.c / 8) 1
def mroom (s:St κ):Nat:=s.c - wroom s
def proom (s:St κ):Nat:=mroom s*4 / 5
def load (s:St κ) (key:κ):Bool × St κ :=
 if key∈keys s∨s.c≤(keys s).length then (false,s)
 else if mroom s≤s.b1.length+s.t2.length then (true,{ s with t1:=s.t1++[key] }) else (true,{ s with b1:=s.b1++[key] })
structure Ok (s:St κ):Prop where
 lo:1≤s.c
 hi:s.c≤1024
 one:∀ k,cnt k s.t1+cnt k s.b1+cnt k s.t2≤1
 win:s.t1.length≤wroom s
 main:s.b1.length+s.t2.length≤mroom s
 prot:s.t2.length≤proom s
theorem keys_cnt (s:St κ) (k:κ):cnt k (keys s)=cnt k s.t1+cnt k s.b1+cnt k s.t2:=by unfold keys;rw [cnt_append,cnt_append];omega
omit [DecidableEq κ] in
theorem keys_length (s:St κ):(keys s).length=s.t1.length+s.b1.length+s.t2.length:=by simp [keys];omega
omit [DecidableEq κ] in
theorem wroom_le {s:St κ} (h:1≤s.c):1≤wroom s∧wroom s≤s.c:=by unfold wroom;omega
theorem Ok.res {s:St κ} (h:Ok s):(keys s).length≤s.c:=by
 have h1:=h.win;have h2:=h.main;have h3:=wroom_le h.lo
 rw [keys_length]
 unfold mroom at h2
 omega
theorem start_ok {c:Nat} (h:1≤c) (h2:c≤1024):Ok (start c:St κ) :=
 ⟨h,h2,fun k=>by simp [start,cnt],by simp [start],by simp [start],by simp [start]⟩
theorem cnt_nokey {s:St κ} {key:κ} (hk:key∉keys s):cnt key s.t1=0∧cnt key s.b1=0∧cnt key s.t2=0:=by
 have:=cnt_zero.2 hk
 rw [keys_cnt] at this
 omega
theorem load_no {s:St κ} {key:κ} (h:key∈keys s∨s.c≤(keys s).length):load s key=(false,s):=by unfold load;rw [if_pos h]
theorem load_yes {s:St κ} {key:κ} (h:Ok s) (hk:key∉keys s) (hl:(keys s).length<s.c) :
 (load s key).1=true∧Ok (load s key).2∧(load s key).2.c=s.c∧(∀ k,cnt k (keys (load s key).2)=cnt k (keys s)+one key k)∧(keys (load s key).2).length=(keys s).length+1:=by
 obtain ⟨k1,k2,k3⟩:=cnt_nokey hk
 have hkl:=keys_length s
 have h1:=h.win;have h2:=h.main;have h3:=h.prot
 have hw:=wroom_le h.lo
 have hmr:mroom s=s.c - wroom s:=rfl
 unfold load
 rw [if_neg (by rintro (e | e);exact hk e;omega)]
 by_cases hm:mroom s≤s.b1.length+s.t2.length
 ·rw [if_pos hm]
  refine ⟨rfl,⟨h.lo,h.hi,fun k=>?_,?_,h2,h3⟩,rfl,fun k=>?_,?_⟩
  ·show cnt k (s.t1++[key])+cnt k s.b1+cnt k s.t2≤1
   have:=h.one k
   rw [cnt_snoc]
   by_cases e:key=k
   ·subst e;rw [one_self];omega
   ·rw [one_ne e];omega
  ·show (s.t1++[key]).length≤wroom s;simp;omega
  ·rw [keys_cnt,keys_cnt]
   show cnt k (s.t1++[key])+cnt k s.b1+cnt k s.t2=_
   rw [cnt_snoc];omega
  ·rw [keys_length,keys_length]
   show (s.t1++[key]).length+s.b1.length+s.t2.length=_
   simp;omega
 ·rw [if_neg hm]
  refine ⟨rfl,⟨h.lo,h.hi,fun k=>?_,h1,?_,h3⟩,rfl,fun k=>?_,?_⟩
  ·show cnt k s.t1+cnt k (s.b1++[key])+cnt k s.t2≤1
   have:=h.one k
   rw [cnt_snoc]
   by_cases e:key=k
   ·subst e;rw [one_self];omega
   ·rw [one_ne e];omega
  ·show (s.b1++[key]).length+s.t2.length≤mroom s;simp;omega
  ·rw [keys_cnt,keys_cnt]
   show cnt k s.t1+cnt k (s.b1++[key])+cnt k s.t2=_
   rw [cnt_snoc];omega
  ·rw [keys_length,keys_length]
   show s.t1.length+(s.b1++[key]).length+s.t2.length=_
   simp;omega
theorem load_any {s:St κ} (h:Ok s) (key:κ):Ok (load s key).2∧(load s key).2.c=s.c:=by
 by_cases hh:key∈keys s∨s.c≤(keys s).length
 ·rw [load_no hh];exact ⟨h,rfl⟩
 ·have:=load_yes h (fun e=>hh (.inl e)) (by rcases Nat.lt_or_ge (keys s).length s.c with e | e;exact e;exact absurd (.inr e) hh)
  exact ⟨this.2.1,this.2.2.1⟩
end
end Go.Proofs.YtkkkkiejnmpdkaaGreatDoor.Lfu.A
namespace Go.Proofs.YtkkkkiejnmpdkaaGreatDoor.Lfu
open Go.RowKit
abbrev Stt:=A.St ByteArray
def Single (s:Stt):Prop:=∀ k,A.cnt k s.t1+A.cnt k s.t2+A.cnt k s.b1≤1
end Go.Proofs.YtkkkkiejnmpdkaaGreatDoor.Lfu
