/- Sfifo Pu: Pure Bs -/
import Derived.Test.YtkkkkiejnmpdkaaGreatDoorTx
namespace Go.Proofs.YtkkkkiejnmpdkaaGreatDoor.Sfifo.A
structure It (κ:Type) where
 key:κ
 n:Nat
structure St (κ:Type) where
 t1:List (It κ)
 t2:List (It κ)
 b1:List (It κ)
 c:Nat
section
variable {κ:Type} [DecidableEq κ]
def cut (l:List κ) (k:κ):List κ:=l.filter (fun x=>decide (x≠k))
def one (a b:κ):Nat:=if a=b then 1 else 0
def cnt (k:κ):List κ→Nat
 | []=>0
 | x::l=>one x k+cnt k l
theorem one_self (a:κ):one a a=1:=by simp [one]
theorem one_ne {a b:κ} (h:a≠b):one a b=0:=by simp [one,h]
theorem cnt_cons (k x:κ) (l:List κ):cnt k (x::l)=one x k+cnt k l:=rfl
theorem cnt_append (k:κ) (l m:List κ):cnt k (l++m)=cnt k l+cnt k m:=by
 induction l with
 | nil=>simp [cnt]
 | cons x l ih=>simp [cnt,ih];omega
theorem cnt_snoc (k x:κ) (l:List κ):cnt k (l++[x])=cnt k l+one x k:=by rw [cnt_append];simp [cnt]
theorem cnt_pos {k:κ} {l:List κ}:0<cnt k l↔k∈l:=by
 induction l with
 | nil=>simp [cnt]
 | cons x l ih =>
   rw [cnt_cons,List.mem_cons,← ih]
   unfold one
   by_cases h:x=k
   ·simp [h];omega
   ·simp [h,Ne.symm h]
theorem cnt_zero {k:κ} {l:List κ}:cnt k l=0↔k∉l:=by rw [← cnt_pos];omega
theorem cnt_cut (k j:κ) (l:List κ):cnt k (cut l j)=if k=j then 0 else cnt k l:=by
 induction l with
 | nil=>simp [cut,cnt]
 | cons x l ih =>
   unfold cut at *
   by_cases h:x=j
   ·subst h
    simp only [List.filter_cons]
    by_cases h2:k=x
    ·simp [h2] at *;exact ih
    ·simp [h2,cnt_cons,one,Ne.symm h2] at *;exact ih
   ·simp only [List.filter_cons]
    by_cases h2:k=j
    ·subst h2;simp [h,cnt_cons,one] at *;exact ih
    ·simp [h,h2,cnt_cons] at *;exact ih
theorem cut_same {k:κ} {l:List κ} (h:k∉l):cut l k=l:=by
 unfold cut
 rw [List.filter_eq_self]
 intro x hx
 simp
 rintro rfl
 exact h hx
theorem length_cut_le (l:List κ) (k:κ):(cut l k).length≤l.length:=List.length_filter_le _ _
end
section
variable {κ:Type}
def ks (l:List (It κ)):List κ:=l.map It.key
theorem ks_snoc (l:List (It κ)) (x:It κ):ks (l++[x])=ks l++[x.key]:=List.map_append
theorem ks_len (l:List (It κ)):(ks l).length=l.length:=List.length_map _
theorem ks_mem {l:List (It κ)} {k:κ}:k∈ks l↔∃ x∈l,x.key=k:=List.mem_map
def keys (s:St κ):List κ:=ks s.t1++ks s.t2
def ghosts (s:St κ):List κ:=ks s.b1
def start (c:Nat):St κ:=⟨[],[],[],c⟩
def small (s:St κ):Nat:=max 1 (s.c / 10)
def gmax (s:St κ):Nat:=max 1 (s.c - small s)
def again (s:St κ) (key:κ):St κ:={ s with t2:=s.t2++[⟨key,0⟩] }
end
section
variable {κ:Type} [DecidableEq κ]
def less (l:List (It κ)) (k:κ):List (It κ):=l.filter (fun x=>decide (x.key≠k))
theorem ks_less (l:List (It κ)) (k:κ):ks (less l k)=cut (ks l) k:=by
 unfold ks less cut
 rw [List.filter_map]
 rfl
def noGhost (s:St κ) (key:κ):St κ:={ s with b1:=less s.b1 key }
def load (s:St κ) (key:κ):Bool × St κ :=
 if key∈keys s∨s.c≤(keys s).length then (false,s) else (true,again (noGhost s key) key)
structure Ok (s:St κ):Prop where
 lo:1≤s.c
 hi:s.c≤1024
 one:∀ k,cnt k (ks s.t1)+cnt k (ks s.t2)+cnt k (ks s.b1)≤1
 res:s.t1.length+s.t2.length≤s.c
 out:s.b1.length≤gmax s
 few:∀ x∈s.t1++s.t2,x.n≤3
theorem start_ok {c:Nat} (h:1≤c) (h2:c≤1024):Ok (start c:St κ) :=
 ⟨h,h2,fun k=>by simp [start,cnt,ks],by simp [start],by simp [start],by simp [start]⟩
theorem keys_cnt (s:St κ) (k:κ):cnt k (keys s)=cnt k (ks s.t1)+cnt k (ks s.t2):=cnt_append _ _ _
end
theorem keys_length {κ:Type} (s:St κ):(keys s).length=s.t1.length+s.t2.length:=by simp [keys,ks]
section
variable {κ:Type} [DecidableEq κ]
theorem gmax_c {κ:Type} {s s':St κ} (h:s'.c=s.c):gmax s'=gmax s:=by unfold gmax small;rw [h]
structure Came (s s':St κ) (key:κ):Prop where
 cs:s'.c=s.c
 all:∀ k,cnt k (ks s'.t1)+cnt k (ks s'.t2)=cnt k (ks s.t1)+cnt k (ks s.t2)+A.one key k
 gho:∀ k,cnt k (ks s'.b1)≤cnt k (ks s.b1)
 not:cnt key (ks s'.b1)=0
 lr:s'.t1.length+s'.t2.length=s.t1.length+s.t2.length+1
 out:s'.b1.length≤s.b1.length
 few:(∀ x∈s.t1++s.t2,x.n≤3)→∀ x∈s'.t1++s'.t2,x.n≤3
theorem again_came (s:St κ) (key:κ):Came s (again (noGhost s key) key) key:=by
 refine ⟨rfl,fun k=>?_,fun k=>?_,?_,?_,List.length_filter_le _ _,fun h x hx=>?_⟩
 ·simp only [again,noGhost,ks_snoc,cnt_snoc];omega
 ·simp only [again,noGhost,ks_less,cnt_cut];split <;> omega
 ·simp only [again,noGhost,ks_less,cnt_cut];simp
 ·simp only [again,noGhost,List.length_append,List.length_cons,List.length_nil];omega
 ·simp only [again,noGhost,List.mem_append,List.mem_singleton] at hx h
  rcases hx with hx | hx | hx
  ·exact h x (.inl hx)
  ·exact h x (.inr hx)
  ·subst hx;simp
theorem Came.ok {s s':St κ} {key:κ} (hc:Came s s' key) (h:Ok s) (hn:cnt key (ks s.t1)+cnt key (ks s.t2)=0) (hr:s.t1.length+s.t2.length<s.c):Ok s':=by
 have w3:=hc.lr;have w4:=hc.cs;have h1:=h.lo;have h2:=h.hi
 refine ⟨by omega,by omega,fun k=>?_,by omega,?_,hc.few h.few⟩
 ·have a:=h.one k;have b:=hc.all k;have d:=hc.gho k
  by_cases e:key=k
  ·subst e
   have:=hc.not
   rw [one_self] at b
   omega
  ·rw [one_ne e] at b
   omega
 ·rw [gmax_c w4];exact Nat.le_trans hc.out h.out
end
section
variable {κ:Type} [DecidableEq κ]
theorem load_no {s:St κ} {key:κ} (h:key∈keys s∨s.c≤(keys s).length):load s key=(false,s):=by unfold load;rw [if_pos h]
theorem load_yes {s:St κ} {key:κ} (h:Ok s) (hk:key∉keys s) (hl:(keys s).length<s.c) :
 (load s key).1=true∧Ok (load s key).2∧(load s key).2.c=s.c∧keys (load s key).2=ks s.t1++(ks s.t2++[key])∧(∀ k,cnt k (keys (load s key).2)=cnt k (keys s)+one key k)∧(keys (load s key).2).length=(keys s).length+1:=by
 unfold load
 rw [if_neg (by intro h2;rcases h2 with h2 | h2;exact hk h2;omega)]
 have hc:=cnt_zero.2 hk
 rw [keys_cnt] at hc
 rw [keys_length] at hl
 have hw:=again_came s key
 refine ⟨rfl,hw.ok h hc hl,rfl,by simp [keys,again,noGhost,ks],fun k=>?_,?_⟩
 ·rw [keys_cnt,keys_cnt];exact hw.all k
 ·rw [keys_length,keys_length];exact hw.lr
end
end Go.Proofs.YtkkkkiejnmpdkaaGreatDoor.Sfifo.A
namespace Go.Proofs.YtkkkkiejnmpdkaaGreatDoor.Sfifo
open Go.RowKit
abbrev Stt:=A.St ByteArray
end Go.Proofs.YtkkkkiejnmpdkaaGreatDoor.Sfifo
