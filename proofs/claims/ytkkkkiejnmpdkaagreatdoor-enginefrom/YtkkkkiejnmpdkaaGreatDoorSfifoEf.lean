/- Sfifo Ef: Ef Ei Ek En1 -/
import Derived.Test.YtkkkkiejnmpdkaaGreatDoorSfifoEn
import Derived.Test.YtkkkkiejnmpdkaaGreatDoorSfifoLs
import Derived.Deep.LoopGhost
import Derived.StillTailTactics
namespace Go.Proofs.YtkkkkiejnmpdkaaGreatDoor.Sfifo
open Go.RowKit
section
variable {D:Nat→Prop} {w w':World} {e b:Nat} {s:Stt}
theorem fullA (H:AE e b s D w) (hb:b≤800000):Calls Tryz.prog 371 #[.pointer (some ⟨e,0,none⟩)] w fun ee w'=>ee=.returned (.bool (decide (s.c≤s.t1.length+s.t2.length)))∧Below w.heap.size w w':=full_any H (by omega)
end
end Go.Proofs.YtkkkkiejnmpdkaaGreatDoor.Sfifo
namespace Go.Proofs.YtkkkkiejnmpdkaaGreatDoor.Sfifo
open Go.RowKit
section
variable {D:Nat→Prop} {w w':World} {e b c:Nat} {Q:Nat→List Ls.It}
def Finds (x:Nat) (key:ByteArray) (v:Ix.Sp) (known:Bool) (w:World):Prop :=
 ∀ W:World,Below w.heap.size w W→Calls Tryz.prog 363 #[.pointer (some ⟨x,0,none⟩),.string key] W fun ee w'=>ee=.returned (.tuple #[Ix.V v,.bool known])∧Below W.heap.size W w'
theorem EN.get (H:EN D w e c Q b) (hb:b≤900000) (key:ByteArray) (hk:key.size≤1000) :
 ∃ x,w.cell? ⟨e,4,none⟩=some (.pointer (some ⟨x,0,none⟩))∧(((∀ i,i<3→key∉A.ks (Q i))∧Finds x key (0,0) false w)∨∃ i h,i<3∧key∈A.ks (Q i)∧(∀ j,j<3→j≠i→key∉A.ks (Q j))∧Finds x key (i,h) true w):=by
 obtain ⟨L,R,x,m,H,r⟩:=H
 refine ⟨x,H.cells.2.2.1,?_⟩
 cases hm:m key with
 | none=>exact .inl ⟨r.none.1 hm,fun W hW=>Ix.get_miss (H.below hW).index (by omega) key (by unfold maxLen;omega) hm⟩
 | some v =>
   obtain ⟨i,h⟩:=v
   obtain ⟨h1,h2,h3⟩:=r.some hm
   exact .inr ⟨i,h,h1,h2,h3,fun W hW=>Ix.get_hit (H.below hW).index (by omega) key (by unfold maxLen;omega) hm⟩
end
end Go.Proofs.YtkkkkiejnmpdkaaGreatDoor.Sfifo
namespace Go.Proofs.YtkkkkiejnmpdkaaGreatDoor.Sfifo
open Go.RowKit
section
variable {D:Nat→Prop} {w w':World} {e b c:Nat} {Q:Nat→List Ls.It} {s:Stt}
theorem Ok.sizes {s:Stt} (h:A.Ok s):s.t1.length+s.t2.length+s.b1.length≤2900:=by
 have h1:=h.res
 have h2:=h.out
 have h3:=h.hi
 unfold A.gmax at h2
 omega
theorem laid_again {key:ByteArray} (h1:key∉A.ks s.t1) (h2:key∉A.ks s.t2):∀ i,i<3→qs (A.again (A.noGhost s key) key) i=laid (qs s) key 1 i:=by
 refine three ?_ ?_ ?_
 ·simp [qs,laid,A.again,A.noGhost,less_same h1]
 ·simp [qs,laid,A.again,A.noGhost,less_same h2]
 ·simp [qs,laid,A.again,A.noGhost]
end
end Go.Proofs.YtkkkkiejnmpdkaaGreatDoor.Sfifo
namespace Go.Proofs.YtkkkkiejnmpdkaaGreatDoor.Sfifo
open Go.RowKit
def heldC (n:Int):Nat:=(max 1 (min n 1024)).toNat
theorem heldC_in (n:Int):1≤heldC n∧heldC n≤1024:=by unfold heldC;omega
def ptrAt (P:Nat→Nat) (k j:Nat):Value:=if j<k then .pointer (some ⟨P j,0,none⟩) else .pointer none
structure Making (w0 w:World) (e c x k:Nat) (P:Nat→Nat):Prop where
 top:w.heap[e]? = some (.cells #[.int .i64 (c:Nat),ptrAt P k 0,ptrAt P k 1,ptrAt P k 2,.pointer (some ⟨x,0,none⟩)] 117 (0,0))
 ex:x<e
 lo:w0.heap.size≤x
 li:∀ j,j<k→Ls.LA 299 173 (fun g=>g=P j) w (P j) [] [] (fun _=>Ls.It.none) 0
 pl:∀ j,j<k→e<P j∧P j<w.heap.size
 inc:∀ i j,i<j→j<k→P i<P j
 ix:XAt (fun g=>g=x) w x (fun _=>none) 0
 keep:Below w0.heap.size w0 w
theorem Making.step {w0 w w1:World} {e c x k p:Nat} {P:Nat→Nat} (H:Making w0 w e c x k P) (hk:k<3) (hl:Ls.LA 299 173 (fun g=>g=w.heap.size) w1 p [] [] (fun _=>Ls.It.none) 0) (hw:Keeps (fun g=>g=w.heap.size) w w1) :
 ∃ P',Making w0 (w1.setCell ⟨e,1+k,none⟩ (.pointer (some ⟨p,0,none⟩))) e c x (k+1) P':=by
 have hp:p=w.heap.size:=by
  obtain ⟨s,⟨ad,cap,h⟩,_⟩:=hl
  exact h.1
 subst hp
 have he:=lt_of_block H.top
 have hp1:w.heap.size<w1.heap.size:=by
  obtain ⟨s,⟨ad,cap,h⟩,_⟩:=hl
  exact lt_of_block h.2.1
 have hs:Keeps (fun g=>g=e) w1 (w1.setCell ⟨e,1+k,none⟩ (.pointer (some ⟨w.heap.size,0,none⟩))):=Keeps.setCell (D:=fun g=>g=e) (Keeps.refl _ w1) (p:=⟨e,1+k,none⟩) rfl _
 refine ⟨fun j=>if j=k then w.heap.size else P j,?_,H.ex,H.lo,?_,?_,?_,?_,?_⟩
 ·rw [block_setCell ((hw.block e he (by omega)).trans H.top)]
  have:k=0∨k=1∨k=2:=by omega
  rcases this with e1 | e1 | e1 <;> subst e1 <;> simp [ptrAt]
 ·intro j hj
  by_cases h:j=k
  ·subst h
   simp only [if_true]
   exact Ls.LA.kept hl hs (fun g h1 h2=>by omega)
  ·simp only [if_neg h]
   have hj2:j<k:=by omega
   have:=H.pl j hj2
   exact Ls.LA.kept (Ls.LA.kept (H.li j hj2) hw (fun g h1 h2=>by omega)) hs (fun g h1 h2=>by omega)
 ·intro j hj
  have hsz:(w1.setCell ⟨e,1+k,none⟩ (.pointer (some ⟨w.heap.size,0,none⟩))).heap.size=w1.heap.size:=by simp [World.setCell]
  rw [hsz]
  by_cases h:j=k
  ·subst h
   simp only [if_true]
   exact ⟨he,hp1⟩
  ·simp only [if_neg h]
   have:=H.pl j (by omega)
   exact ⟨this.1,by omega⟩
 ·intro i j hij hj
  by_cases h:j=k
  ·subst h
   have h2:¬ i=j:=by omega
   simp only [if_true,if_neg h2]
   exact (H.pl i (by omega)).2
  ·have h2:¬ i=k:=by omega
   simp only [if_neg h,if_neg h2]
   exact H.inc i j hij (by omega)
 ·have hx:=H.ex
  exact Ix.IX.kept (Ix.IX.kept H.ix hw (fun g h1 h2=>by omega)) hs (fun g h1 h2=>by omega)
 ·have h1:=H.keep.size
  have h2:=H.lo
  have h3:=H.ex
  exact (((Keeps.of_below (D:=fun k=>w0.heap.size≤k) H.keep).trans (hw.mono (fun g _ h=>by omega))).trans (hs.mono (fun g _ h=>by omega))).below (Nat.le_refl _) (fun _ h=>h)
theorem Making.done {w0 w:World} {e c x:Nat} {P:Nat→Nat} (H:Making w0 w e c x 3 P) (D:Nat→Prop) (hD:∀ k,w0.heap.size≤k→D k):AE e 0 (A.start c) D w∧Keeps D w0 w:=by
 have h0:=H.pl 0 (by omega);have h1:=H.pl 1 (by omega);have h2:=H.pl 2 (by omega)
 have i1:=H.inc 0 1 (by omega) (by omega);have i2:=H.inc 1 2 (by omega) (by omega)
 have hx:=H.ex
 have hlo:=H.lo
 obtain ⟨L,hL⟩:∃ L:Nat→Nat,L=fun k=>if k=P 0 then 0 else if k=P 1 then 1 else if k=P 2 then 2 else if k=e then 5 else 4:=⟨_,rfl⟩
 have l0:L (P 0)=0:=by rw [hL];simp
 have l1:L (P 1)=1:=by rw [hL];show (if _ then _ else _)=_;rw [if_neg (by omega),if_pos rfl]
 have l2:L (P 2)=2:=by rw [hL];show (if _ then _ else _)=_;rw [if_neg (by omega),if_neg (by omega),if_pos rfl]
 have l5:L e=5:=by rw [hL];show (if _ then _ else _)=_;rw [if_neg (by omega),if_neg (by omega),if_neg (by omega),if_pos rfl]
 have l4:L x=4:=by rw [hL];show (if _ then _ else _)=_;rw [if_neg (by omega),if_neg (by omega),if_neg (by omega),if_neg (by omega)]
 refine ⟨⟨L,fun j=>⟨P j,[],[],fun _=>Ls.It.none,0⟩,x,fun _=>none,⟨hD _ (by omega),l5,H.top,?_,?_⟩,?_⟩,Keeps.of_below H.keep⟩
 ·refine three ?_ ?_ ?_
  ·exact Ls.LA.wide (H.li 0 (by omega)) (fun g h=>by subst h;exact ⟨hD _ (by omega),l0⟩)
  ·exact Ls.LA.wide (H.li 1 (by omega)) (fun g h=>by subst h;exact ⟨hD _ (by omega),l1⟩)
  ·exact Ls.LA.wide (H.li 2 (by omega)) (fun g h=>by subst h;exact ⟨hD _ (by omega),l2⟩)
 ·exact Ix.IX.more (Ix.IX.wide H.ix (fun g h=>by subst h;exact ⟨hD _ (by omega),l4⟩)) (Nat.zero_le _)
 ·refine ⟨?_,?_,?_,?_,?_⟩
  ·exact three rfl rfl rfl
  ·intro k i h
   simp
  ·intro i hi
   exact Nat.zero_le _
  ·refine three ?_ ?_ ?_ <;> (intro k hk;simp [qs,A.start] at hk)
  ·intro i hi
   exact List.nodup_nil
theorem clamp_any (n:Int) (w:World):Calls Tryz.prog 63 #[.int .i64 n,.int .i64 1,.int .i64 1024] w fun ee w'=>ee=.returned (.int .i64 ((heldC n:Nat):Int))∧w'=w:=by
 have hc:((heldC n:Nat):Int)=(min (max n 1) 1024):=by unfold heldC;omega
 go_enter Tryz.func63,Tryz.ntmps63
 go_wp2
 all_goals
  go_ret
  exact ⟨ret_int (by first | (rw [hc];done) | (rw [hc];omega) | (rw [hc];split <;> omega)),rfl⟩
set_option maxHeartbeats 2000000 in
theorem new_any (w:World) (D:Nat→Prop) (hD:∀ k,w.heap.size≤k→D k) (n:Int) :
 Calls Tryz.prog 23 #[.int .i64 n] w fun ee w'=>∃ e,ee=.returned (.pointer (some ⟨e,0,none⟩))∧AE e 0 (A.start (heldC n)) D w'∧Keeps D w w':=by
 have HD:Hid (∀ k,w.heap.size≤k→D k):=hD
 have hnew:=Ix.new_any w (fun g=>g=w.heap.size) rfl 0 (by omega)
 clear hD
 go_enter Tryz.func23,Tryz.ntmps23
 go_wp2_with (first
  | (go_at_call 63;refine (clamp_any n w).mono ?_;rintro ee w0 ⟨rfl,hw0⟩;rw [hw0];clear hw0)
  | (go_at_call 64;refine hnew.mono ?_;clear hnew;rintro ee w1 ⟨x,rfl,hx1,hk1,rfl⟩))
 have hm0:Making w (w1.alloc (.cells #[.int .i64 (heldC n:Nat),.pointer none,.pointer none,.pointer none,.pointer (some ⟨w.heap.size,0,none⟩)] 117)) w1.heap.size (heldC n) w.heap.size 0 (fun _=>0):=by
  have hxl:w.heap.size<w1.heap.size:=by
   obtain ⟨seed,sl,u,cc,ad,h1,h,o⟩:=hx1
   exact lt_of_block h.2.1
  refine ⟨heap_alloc_new w1 _,hxl,Nat.le_refl _,fun j hj=>by omega,fun j hj=>by omega,fun i j _ hj=>by omega,Ix.IX.below hx1 ((Below.refl _ w1).alloc (Nat.le_refl _) _),?_⟩
  exact (((hk1.mono (fun g _ h=>by omega):Keeps (fun k=>w.heap.size≤k) w w1)).alloc _).below (Nat.le_refl _) (fun _ h=>h)
 have HM0:Hid _:=hm0
 clear hm0 hx1 hk1
 go_loopw [10] (fun i wr=>∃ (k:Nat) (P:Nat→Nat),k≤3∧i=.int .i64 k∧Making w wr w1.heap.size (heldC n) w.heap.size k P) (fun i _=>3 - (intOf i).toNat)
 case atStart=>exact ⟨0,_,by omega,rfl,HM0.out⟩
 case round =>
  obtain ⟨k,P,hk,rfl,hM⟩:=hrel
  have HM:Hid _:=hM
  have heo:=lt_of_block hM.top
  rcases Nat.lt_or_ge k 3 with hlt | hge
  ·have hmk:=Ls.make_any wr.drew (fun g=>g=wr.heap.size) rfl
   have hcell:∃ u,wr.cell? ⟨w1.heap.size,1+k,none⟩=some u:=by
    rw [cell_of_block hM.top]
    have:k=0∨k=1∨k=2:=by omega
    rcases this with e1 | e1 | e1 <;> subst e1 <;> exact ⟨_,rfl⟩
   obtain ⟨u,hu⟩:=hcell
   have hfz:wr.frozen? ⟨w1.heap.size,1+k,none⟩=false:=frozen_of_block hM.top
   clear hM
   go_wp2_with fail
   go_region_with (go_at_call 65;refine Calls.mono hmk ?_;rintro ee w2 ⟨p,rfl,hl2,hk2⟩;have hk2':=hk2.undrew;have hb:=(hk2'.block _ heo (by omega));have hu2:w2.cell? ⟨w1.heap.size,1+k,none⟩=some u:=(by rw [World.cell?_of_block hb];exact hu);have hf2:w2.frozen? ⟨w1.heap.size,1+k,none⟩=false:=(frozen_of_block (hb.trans HM.out.top)))
   all_goals
    go_wp2
    obtain ⟨P',hM'⟩:=HM.out.step hlt hl2 hk2'
    exact ⟨⟨k+1,P',hlt,by go_num,hM'⟩,by simp [intOf];omega⟩
  ·have hk':k=3:=by omega
   subst hk'
   go_wp2
   go_ret
   exact ⟨_,rfl,HM.out.done D HD.out⟩
end Go.Proofs.YtkkkkiejnmpdkaaGreatDoor.Sfifo
