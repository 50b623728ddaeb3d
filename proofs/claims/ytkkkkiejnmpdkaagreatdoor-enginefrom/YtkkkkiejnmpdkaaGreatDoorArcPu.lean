/- Arc Pu: Pure Bs -/
import Derived.Test.YtkkkkiejnmpdkaaGreatDoorTx
namespace Go.Proofs.YtkkkkiejnmpdkaaGreatDoor.Arc.A
structure St (κ:Type) where
 t1:List κ
 t2:List κ
 b1:List κ
 b2:List κ
 p:Nat
 c:Nat
section
variable {κ:Type} [DecidableEq κ]
def cut (l:List κ) (k:κ):List κ:=l.filter (fun x=>decide (x≠k))
def one (a b:κ):Nat:=if a=b then 1 else 0
def cnt (k:κ):List κ→Nat
 | []=>0
 | x::l=>one x k+cnt k l
theorem one_self (a:κ):one a a=1:=by simp [one]
theorem one_ne {a b:κ} (h:a≠b):one a b=0:=by simp [one,h]
theorem cnt_cons (k x:κ) (l:List κ):cnt k (x::l)=one x k+cnt k l:=rfl
theorem cnt_append (k:κ) (l m:List κ):cnt k (l++m)=cnt k l+cnt k m:=by
 induction l with
 | nil=>simp [cnt]
 | cons x l ih=>simp [cnt,ih];omega
theorem cnt_snoc (k x:κ) (l:List κ):cnt k (l++[x])=cnt k l+one x k:=by rw [cnt_append];simp [cnt]
theorem cnt_pos {k:κ} {l:List κ}:0<cnt k l↔k∈l:=by
 induction l with
 | nil=>simp [cnt]
 | cons x l ih =>
   rw [cnt_cons,List.mem_cons,← ih]
   unfold one
   by_cases h:x=k
   ·simp [h];omega
   ·simp [h,Ne.symm h]
theorem cnt_zero {k:κ} {l:List κ}:cnt k l=0↔k∉l:=by rw [← cnt_pos];omega
theorem cnt_cut (k j:κ) (l:List κ):cnt k (cut l j)=if k=j then 0 else cnt k l:=by
 induction l with
 | nil=>simp [cut,cnt]
 | cons x l ih =>
   unfold cut at *
   by_cases h:x=j
   ·subst h
    simp only [List.filter_cons]
    by_cases h2:k=x
    ·simp [h2] at *;exact ih
    ·simp [h2,cnt_cons,one,Ne.symm h2] at *;exact ih
   ·simp only [List.filter_cons]
    by_cases h2:k=j
    ·subst h2;simp [h,cnt_cons,one] at *;exact ih
    ·simp [h,h2,cnt_cons] at *;exact ih
theorem cut_same {k:κ} {l:List κ} (h:k∉l):cut l k=l:=by
 unfold cut
 rw [List.filter_eq_self]
 intro x hx
 simp
 rintro rfl
 exact h hx
def Once (l:List κ):Prop:=∀ k,cnt k l≤1
theorem length_cut_le (l:List κ) (k:κ):(cut l k).length≤l.length:=List.length_filter_le _ _
theorem cut_head {x:κ} {l:List κ} (h:Once (x::l)):cut (x::l) x=l:=by
 have hx:x∉l:=by
  rw [← cnt_zero]
  have:=h x
  rw [cnt_cons,one_self] at this
  omega
 have:cut (x::l) x=cut l x:=by simp [cut]
 rw [this,cut_same hx]
def keys (s:St κ):List κ:=s.t1++s.t2
def ghosts (s:St κ):List κ:=s.b1++s.b2
def start (c:Nat):St κ:=⟨[],[],[],[],0,c⟩
def trim1 (s:St κ):St κ:={ s with b1:=s.b1.drop (s.t1.length+s.b1.length - s.c) }
def trim2 (s:St κ):St κ:={ s with b2:=s.b2.drop (s.t1.length+s.t2.length+s.b1.length+s.b2.length - 2*s.c) }
def comes (s:St κ) (key:κ):St κ:={ s with b1:=cut s.b1 key,b2:=cut s.b2 key,t1:=s.t1++[key] }
def load (s:St κ) (key:κ):Bool × St κ :=
 if key∈keys s∨s.c≤(keys s).length then (false,s) else (true,trim2 (trim1 (comes s key)))
structure Ok (s:St κ):Prop where
 lo:1≤s.c
 hi:s.c≤1024
 pc:s.p≤s.c
 one:∀ k,cnt k s.t1+cnt k s.t2+cnt k s.b1+cnt k s.b2≤1
 res:s.t1.length+s.t2.length≤s.c
 low:s.t1.length+s.b1.length≤s.c
 all:s.t1.length+s.t2.length+s.b1.length+s.b2.length≤2*s.c
theorem start_ok {c:Nat} (h:1≤c) (h2:c≤1024):Ok (start c:St κ) :=
 ⟨h,h2,by simp [start],fun k=>by simp [start,cnt],by simp [start],by simp [start],by simp [start]⟩
theorem keys_cnt (s:St κ) (k:κ):cnt k (keys s)=cnt k s.t1+cnt k s.t2:=cnt_append _ _ _
end
theorem keys_length {κ:Type} (s:St κ):(keys s).length=s.t1.length+s.t2.length:=by simp [keys]
section
variable {κ:Type} [DecidableEq κ]
theorem drop_cnt (k:κ) (l:List κ):∀ n,cnt k (l.drop n)≤cnt k l:=by
 induction l with
 | nil=>intro n;simp
 | cons x l ih =>
   intro n
   cases n with
   | zero=>simp
   | succ n=>rw [List.drop_succ_cons,cnt_cons];have:=ih n;omega
theorem load_no {s:St κ} {key:κ} (h:key∈keys s∨s.c≤(keys s).length):load s key=(false,s):=by unfold load;rw [if_pos h]
theorem load_yes {s:St κ} {key:κ} (h:Ok s) (hk:key∉keys s) (hl:(keys s).length<s.c) :
 (load s key).1=true∧Ok (load s key).2∧(load s key).2.c=s.c∧keys (load s key).2=s.t1++[key]++s.t2∧(∀ k,cnt k (keys (load s key).2)=cnt k (keys s)+one key k)∧(keys (load s key).2).length=(keys s).length+1:=by
 unfold load
 rw [if_neg (by intro h2;rcases h2 with h2 | h2;exact hk h2;omega)]
 have hc:=cnt_zero.2 hk
 rw [keys_cnt] at hc
 rw [keys_length] at hl
 have hlo:=h.lo;have hhi:=h.hi;have hpc:=h.pc;have hres:=h.res;have hlow:=h.low;have hall:=h.all
 have l1:=length_cut_le s.b1 key
 have l2:=length_cut_le s.b2 key
 refine ⟨rfl,⟨hlo,hhi,hpc,fun k=>?_,?_,?_,?_⟩,rfl,rfl,fun k=>?_,?_⟩
 ·have a:=h.one k
  have d1:=drop_cnt k (cut s.b1 key) ((s.t1++[key]).length+(cut s.b1 key).length - s.c)
  have d2:=drop_cnt k (cut s.b2 key) ((s.t1++[key]).length+s.t2.length+((cut s.b1 key).drop ((s.t1++[key]).length+(cut s.b1 key).length - s.c)).length+(cut s.b2 key).length - 2*s.c)
  simp only [trim2,trim1,comes,cnt_snoc] at *
  rw [cnt_cut] at d1 d2
  by_cases e:k=key
  ·subst e
   simp at d1 d2
   rw [one_self]
   simp at *
   omega
  ·rw [one_ne (Ne.symm e)]
   simp [e] at d1 d2
   simp at *
   omega
 ·simp [trim2,trim1,comes];omega
 ·simp [trim2,trim1,comes];omega
 ·simp [trim2,trim1,comes];omega
 ·rw [keys_cnt,keys_cnt];simp only [trim2,trim1,comes,cnt_snoc];omega
 ·rw [keys_length,keys_length];simp [trim2,trim1,comes];omega
end
end Go.Proofs.YtkkkkiejnmpdkaaGreatDoor.Arc.A
namespace Go.Proofs.YtkkkkiejnmpdkaaGreatDoor.Arc
open Go.RowKit
abbrev Stt:=A.St ByteArray
def Single (s:Stt):Prop:=∀ k,A.cnt k s.t1+A.cnt k s.t2+A.cnt k s.b1+A.cnt k s.b2≤1
end Go.Proofs.YtkkkkiejnmpdkaaGreatDoor.Arc
