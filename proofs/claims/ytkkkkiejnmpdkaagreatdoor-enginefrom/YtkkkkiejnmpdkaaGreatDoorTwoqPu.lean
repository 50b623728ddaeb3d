/- Twoq Pu: Pure Bs -/
import Derived.Test.YtkkkkiejnmpdkaaGreatDoorTx
namespace Go.Proofs.YtkkkkiejnmpdkaaGreatDoor.Twoq.A
structure St (κ:Type) where
 t1:List κ
 b1:List κ
 t2:List κ
 c:Nat
section
variable {κ:Type} [DecidableEq κ]
def cut (l:List κ) (k:κ):List κ:=l.filter (fun x=>decide (x≠k))
def one (a b:κ):Nat:=if a=b then 1 else 0
def cnt (k:κ):List κ→Nat
 | []=>0
 | x::l=>one x k+cnt k l
theorem one_self (a:κ):one a a=1:=by simp [one]
theorem one_ne {a b:κ} (h:a≠b):one a b=0:=by simp [one,h]
theorem cnt_cons (k x:κ) (l:List κ):cnt k (x::l)=one x k+cnt k l:=rfl
theorem cnt_append (k:κ) (l m:List κ):cnt k (l++m)=cnt k l+cnt k m:=by
 induction l with
 | nil=>simp [cnt]
 | cons x l ih=>simp [cnt,ih];omega
theorem cnt_snoc (k x:κ) (l:List κ):cnt k (l++[x])=cnt k l+one x k:=by rw [cnt_append];simp [cnt]
theorem cnt_pos {k:κ} {l:List κ}:0<cnt k l↔k∈l:=by
 induction l with
 | nil=>simp [cnt]
 | cons x l ih =>
   rw [cnt_cons,List.mem_cons,← ih]
   unfold one
   by_cases h:x=k
   ·simp [h];omega
   ·simp [h,Ne.symm h]
theorem cnt_zero {k:κ} {l:List κ}:cnt k l=0↔k∉l:=by rw [← cnt_pos];omega
theorem cnt_cut (k j:κ) (l:List κ):cnt k (cut l j)=if k=j then 0 else cnt k l:=by
 induction l with
 | nil=>simp [cut,cnt]
 | cons x l ih =>
   unfold cut at *
   by_cases h:x=j
   ·subst h
    simp only [List.filter_cons]
    by_cases h2:k=x
    ·simp [h2] at *;exact ih
    ·simp [h2,cnt_cons,one,Ne.symm h2] at *;exact ih
   ·simp only [List.filter_cons]
    by_cases h2:k=j
    ·subst h2;simp [h,cnt_cons,one] at *;exact ih
    ·simp [h,h2,cnt_cons] at *;exact ih
theorem cut_same {k:κ} {l:List κ} (h:k∉l):cut l k=l:=by
 unfold cut
 rw [List.filter_eq_self]
 intro x hx
 simp
 rintro rfl
 exact h hx
theorem length_cut_le (l:List κ) (k:κ):(cut l k).length≤l.length:=List.length_filter_le _ _
def keys (s:St κ):List κ:=s.t1++s.t2
def ghosts (s:St κ):List κ:=s.b1
def start (c:Nat):St κ:=⟨[],[],[],c⟩
def kout (s:St κ):Nat:=max 1 (s.c / 2)
def noGhost (s:St κ) (key:κ):St κ:={ s with b1:=cut s.b1 key }
def again (s:St κ) (key:κ):St κ:={ s with t2:=s.t2++[key] }
def load (s:St κ) (key:κ):Bool × St κ :=
 if key∈keys s∨s.c≤(keys s).length then (false,s) else (true,again (noGhost s key) key)
structure Ok (s:St κ):Prop where
 lo:1≤s.c
 hi:s.c≤1024
 one:∀ k,cnt k s.t1+cnt k s.t2+cnt k s.b1≤1
 res:s.t1.length+s.t2.length≤s.c
 out:s.b1.length≤kout s
theorem start_ok {c:Nat} (h:1≤c) (h2:c≤1024):Ok (start c:St κ) :=
 ⟨h,h2,fun k=>by simp [start,cnt],by simp [start],by simp [start]⟩
theorem keys_cnt (s:St κ) (k:κ):cnt k (keys s)=cnt k s.t1+cnt k s.t2:=cnt_append _ _ _
end
theorem keys_length {κ:Type} (s:St κ):(keys s).length=s.t1.length+s.t2.length:=by simp [keys]
section
variable {κ:Type} [DecidableEq κ]
theorem load_no {s:St κ} {key:κ} (h:key∈keys s∨s.c≤(keys s).length):load s key=(false,s):=by unfold load;rw [if_pos h]
theorem load_yes {s:St κ} {key:κ} (h:Ok s) (hk:key∉keys s) (hl:(keys s).length<s.c) :
 (load s key).1=true∧Ok (load s key).2∧(load s key).2.c=s.c∧keys (load s key).2=s.t1++(s.t2++[key])∧(∀ k,cnt k (keys (load s key).2)=cnt k (keys s)+one key k)∧(keys (load s key).2).length=(keys s).length+1:=by
 unfold load
 rw [if_neg (by intro h2;rcases h2 with h2 | h2;exact hk h2;omega)]
 have hc:=cnt_zero.2 hk
 rw [keys_cnt] at hc
 rw [keys_length] at hl
 have hcnt:∀ k,cnt k (keys (again (noGhost s key) key))=cnt k (keys s)+A.one key k:=fun k=>by
  rw [keys_cnt,keys_cnt];simp only [again,noGhost,cnt_snoc];omega
 refine ⟨rfl,(?_:Ok (again (noGhost s key) key)),rfl,rfl,hcnt,?_⟩
 ·refine ⟨h.lo,h.hi,fun k=>?_,?_,Nat.le_trans (length_cut_le _ _) h.out⟩
  ·have a:=hcnt k
   rw [keys_cnt,keys_cnt] at a
   have b:=h.one k
   have e1:(again (noGhost s key) key).b1=cut s.b1 key:=rfl
   rw [e1,cnt_cut]
   by_cases e:key=k
   ·subst e
    rw [one_self] at a
    simp
    omega
   ·rw [one_ne e] at a
    simp [Ne.symm e]
    omega
  ·simp only [again,noGhost,List.length_append,List.length_cons,List.length_nil];omega
 ·rw [keys_length,keys_length];simp only [again,noGhost,List.length_append,List.length_cons,List.length_nil];omega
end
end Go.Proofs.YtkkkkiejnmpdkaaGreatDoor.Twoq.A
namespace Go.Proofs.YtkkkkiejnmpdkaaGreatDoor.Twoq
open Go.RowKit
abbrev Stt:=A.St ByteArray
end Go.Proofs.YtkkkkiejnmpdkaaGreatDoor.Twoq
