/- Lfu Eu: Ca En1 El -/
import Derived.Test.YtkkkkiejnmpdkaaGreatDoorLfuEo
namespace Go.Proofs.YtkkkkiejnmpdkaaGreatDoor.Lfu
open Go.RowKit
section
variable {D:Nat→Prop} {w:World} {e:Nat} {s:Stt} {m:ByteArray→Option Ix.Sp} {z:Dk}
theorem ghostsEM (_:MA e z s m D w) :
 Calls Tryz.prog 304 #[.pointer (some ⟨e,0,none⟩)] w fun ee w'=>ee=.returned (.slice none 0 0)∧w'=w:=by
 go_enter Tryz.func304,Tryz.ntmps304
 go_wp2
 go_ret
 exact ⟨rfl,rfl⟩
end
end Go.Proofs.YtkkkkiejnmpdkaaGreatDoor.Lfu
namespace Go.Proofs.YtkkkkiejnmpdkaaGreatDoor.Lfu
open Go.RowKit
def heldC (n:Int):Nat:=(max 1 (min n 1024)).toNat
theorem heldC_in (n:Int):1≤heldC n∧heldC n≤1024:=by unfold heldC;omega
def ptrAt (P:Nat→Nat) (k j:Nat):Value:=if j<k then .pointer (some ⟨P j,0,none⟩) else .pointer none
structure Making (w0 w:World) (e c x n1 n2 pd pk k:Nat) (P:Nat→Nat):Prop where
 top:w.heap[e]? = some (.cells #[.int .i64 (c:Nat),ptrAt P k 0,ptrAt P k 1,ptrAt P k 2,.pointer (some ⟨x,0,none⟩),.pointer (some ⟨pd,0,none⟩),.pointer (some ⟨pk,0,none⟩)] 108 (0,0))
 ex:x<n1
 e1:n1≤n2
 e2:n2≤e
 lo:w0.heap.size≤x
 li:∀ j,j<k→Ls.LA Value.string 234 152 (fun g=>g=P j) w (P j) [] [] (fun _=>⟨#[]⟩) 0
 pl:∀ j,j<k→e<P j∧P j<w.heap.size
 inc:∀ i j,i<j→j<k→P i<P j
 ix:XAt (fun g=>g=x) w x (fun _=>none) 0
 dr:Dr.DR pd (Dr.nw (c:Nat)) (fun _=>false) (fun g=>n1≤g∧g<n2) w
 sk:Sk.SK pk (Sk.wd (c:Nat)) (fun _=>0) 0 (fun g=>n2≤g∧g<e) w
 keep:Below w0.heap.size w0 w
theorem Making.step {w0 w w1:World} {e c x n1 n2 pd pk k p:Nat} {P:Nat→Nat} (H:Making w0 w e c x n1 n2 pd pk k P) (hk:k<3) (hl:Ls.LA Value.string 234 152 (fun g=>g=w.heap.size) w1 p [] [] (fun _=>⟨#[]⟩) 0) (hw:Keeps (fun g=>g=w.heap.size) w w1) :
 ∃ P',Making w0 (w1.setCell ⟨e,1+k,none⟩ (.pointer (some ⟨p,0,none⟩))) e c x n1 n2 pd pk (k+1) P':=by
 have hp:p=w.heap.size:=by
  obtain ⟨s,⟨ad,cap,h⟩,_⟩:=hl
  exact h.1
 subst hp
 have he:=lt_of_block H.top
 have hp1:w.heap.size<w1.heap.size:=by
  obtain ⟨s,⟨ad,cap,h⟩,_⟩:=hl
  exact lt_of_block h.2.1
 have hs:Keeps (fun g=>g=e) w1 (w1.setCell ⟨e,1+k,none⟩ (.pointer (some ⟨w.heap.size,0,none⟩))):=Keeps.setCell (D:=fun g=>g=e) (Keeps.refl _ w1) (p:=⟨e,1+k,none⟩) rfl _
 have hx0:=H.ex
 have hx1:=H.e1
 have hx2:=H.e2
 refine ⟨fun j=>if j=k then w.heap.size else P j,?_,H.ex,H.e1,H.e2,H.lo,?_,?_,?_,?_,DrAt.wide (DrAt.old (DrAt.wide (DrAt.old H.dr hw (fun g h1 h2 h3=>by omega)) (fun g _ h=>h.1)) hs (fun g h1 h2 h3=>by omega)) (fun g _ h=>h.1),SkAt.wide (SkAt.old (SkAt.wide (SkAt.old H.sk hw (fun g h1 h2 h3=>by omega)) (fun g _ h=>h.1)) hs (fun g h1 h2 h3=>by omega)) (fun g _ h=>h.1),?_⟩
 ·rw [block_setCell ((hw.block e he (by omega)).trans H.top)]
  have:k=0∨k=1∨k=2:=by omega
  rcases this with e1 | e1 | e1 <;> subst e1 <;> simp [ptrAt]
 ·intro j hj
  by_cases h:j=k
  ·subst h
   simp only [if_true]
   exact Ls.LA.kept hl hs (fun g h1 h2=>by omega)
  ·simp only [if_neg h]
   have hj2:j<k:=by omega
   have:=H.pl j hj2
   exact Ls.LA.kept (Ls.LA.kept (H.li j hj2) hw (fun g h1 h2=>by omega)) hs (fun g h1 h2=>by omega)
 ·intro j hj
  have hsz:(w1.setCell ⟨e,1+k,none⟩ (.pointer (some ⟨w.heap.size,0,none⟩))).heap.size=w1.heap.size:=by simp [World.setCell]
  rw [hsz]
  by_cases h:j=k
  ·subst h
   simp only [if_true]
   exact ⟨he,hp1⟩
  ·simp only [if_neg h]
   have:=H.pl j (by omega)
   exact ⟨this.1,by omega⟩
 ·intro i j hij hj
  by_cases h:j=k
  ·subst h
   have h2:¬ i=j:=by omega
   simp only [if_true,if_neg h2]
   exact (H.pl i (by omega)).2
  ·have h2:¬ i=k:=by omega
   simp only [if_neg h,if_neg h2]
   exact H.inc i j hij (by omega)
 ·have hx:=H.ex
  exact Ix.IX.kept (Ix.IX.kept H.ix hw (fun g h1 h2=>by omega)) hs (fun g h1 h2=>by omega)
 ·have h1:=H.keep.size
  have h2:=H.lo
  have h3:=H.ex
  exact (((Keeps.of_below (D:=fun k=>w0.heap.size≤k) H.keep).trans (hw.mono (fun g _ h=>by omega))).trans (hs.mono (fun g _ h=>by omega))).below (Nat.le_refl _) (fun _ h=>h)
def zst (pd pk c:Nat):Dk:=⟨pd,pk,Dr.nw (c:Nat),fun _=>false,Sk.wd (c:Nat),fun _=>0,0⟩
theorem Making.done {w0 w:World} {e c x n1 n2 pd pk:Nat} {P:Nat→Nat} (H:Making w0 w e c x n1 n2 pd pk 3 P) (D:Nat→Prop) (hD:∀ k,w0.heap.size≤k→D k):MB e (zst pd pk c) (A.start c) D w∧Keeps D w0 w:=by
 have h0:=H.pl 0 (by omega);have h1:=H.pl 1 (by omega);have h2:=H.pl 2 (by omega)
 have i1:=H.inc 0 1 (by omega) (by omega);have i2:=H.inc 1 2 (by omega) (by omega)
 have hx:=H.ex
 have hx1:=H.e1
 have hx2:=H.e2
 have hlo:=H.lo
 obtain ⟨L,hL⟩:∃ L:Nat→Nat,L=fun k=>if k=P 0 then 0 else if k=P 1 then 1 else if k=P 2 then 2 else if k=e then 5 else if k=x then 4 else if k<n2 then 6 else 7:=⟨_,rfl⟩
 have l0:L (P 0)=0:=by rw [hL];simp
 have l1:L (P 1)=1:=by rw [hL];show (if _ then _ else _)=_;rw [if_neg (by omega),if_pos rfl]
 have l2:L (P 2)=2:=by rw [hL];show (if _ then _ else _)=_;rw [if_neg (by omega),if_neg (by omega),if_pos rfl]
 have l5:L e=5:=by rw [hL];show (if _ then _ else _)=_;rw [if_neg (by omega),if_neg (by omega),if_neg (by omega),if_pos rfl]
 have l4:L x=4:=by rw [hL];show (if _ then _ else _)=_;rw [if_neg (by omega),if_neg (by omega),if_neg (by omega),if_neg (by omega),if_pos rfl]
 have l6:∀ g,n1≤g→g<n2→L g=6:=fun g h1 h2=>by rw [hL];show (if _ then _ else _)=_;rw [if_neg (by omega),if_neg (by omega),if_neg (by omega),if_neg (by omega),if_neg (by omega),if_pos h2]
 have l7:∀ g,n2≤g→g<e→L g=7:=fun g h1 h2=>by rw [hL];show (if _ then _ else _)=_;rw [if_neg (by omega),if_neg (by omega),if_neg (by omega),if_neg (by omega),if_neg (by omega),if_neg (by omega)]
 refine ⟨⟨fun _=>none,L,fun j=>⟨P j,[],[],fun _=>⟨#[]⟩,0⟩,x,⟨hD _ (by omega),l5,H.top,?_,?_,DrAt.wide H.dr (fun g _ h=>⟨hD _ (by omega),l6 g h.1 h.2⟩),SkAt.wide H.sk (fun g _ h=>⟨hD _ (by omega),l7 g h.1 h.2⟩)⟩,?_⟩,Keeps.of_below H.keep⟩
 ·refine three ?_ ?_ ?_
  ·exact Ls.LA.wide (H.li 0 (by omega)) (fun g h=>by subst h;exact ⟨hD _ (by omega),l0⟩)
  ·exact Ls.LA.wide (H.li 1 (by omega)) (fun g h=>by subst h;exact ⟨hD _ (by omega),l1⟩)
  ·exact Ls.LA.wide (H.li 2 (by omega)) (fun g h=>by subst h;exact ⟨hD _ (by omega),l2⟩)
 ·exact Ix.IX.more (Ix.IX.wide H.ix (fun g h=>by subst h;exact ⟨hD _ (by omega),l4⟩)) (by omega)
 ·refine ⟨?_,?_,?_,?_,?_⟩
  ·exact three rfl rfl rfl
  ·intro k i h
   constructor
   ·intro h1;cases h1
   ·rintro ⟨_,h1,_⟩;simp at h1
  ·intro i hi
   exact Nat.zero_le _
  ·refine three ?_ ?_ ?_ <;> (intro k hk;simp [qs,A.start] at hk)
  ·intro i hi
   exact List.nodup_nil
set_option maxHeartbeats 2000000 in
theorem newM (w:World) (D:Nat→Prop) (hD:∀ k,w.heap.size≤k→D k) (n:Int) :
 Calls Tryz.prog 22 #[.int .i64 n] w fun ee w'=>∃ e pd pk,ee=.returned (.pointer (some ⟨e,0,none⟩))∧MB e (zst pd pk (heldC n)) (A.start (heldC n)) D w'∧Keeps D w w':=by
 have HD:Hid (∀ k,w.heap.size≤k→D k):=hD
 have hnew:=Ix.new_any w (fun g=>g=w.heap.size) rfl 0 (by omega)
 clear hD
 go_enter Tryz.func22,Tryz.ntmps22
 have hc:(min (max n 1) 1024)=((heldC n:Nat):Int):=by unfold heldC;omega
 have hcl:=heldC_in n
 go_wp2_with (first
  | (go_at_call 60;refine hnew.mono ?_;clear hnew;rintro ee w1 ⟨x,rfl,hx1,hk1,rfl⟩;have hdn:=Dr.new_any (w:=w1) (D:=fun g=>w1.heap.size≤g) (heldC n:Nat) (by omega) (by omega) (fun _ h=>h))
  | (go_at_call 61;refine hdn.mono ?_;clear hdn;rintro ee w2 ⟨pd,rfl,hd2,hk2⟩;have hsn:=Sk.new_any (w:=w2) (D:=fun g=>w2.heap.size≤g) (heldC n:Nat) (by omega) (by omega) (fun _ h=>h))
  | (go_at_call 62;refine hsn.mono ?_;clear hsn;rintro ee w3 ⟨pk,rfl,hs3,hk3⟩))
 try rw [hc]
 have hm0:Making w (w3.alloc (.cells #[.int .i64 (heldC n:Nat),.pointer none,.pointer none,.pointer none,.pointer (some ⟨w.heap.size,0,none⟩),.pointer (some ⟨pd,0,none⟩),.pointer (some ⟨pk,0,none⟩)] 108)) w3.heap.size (heldC n) w.heap.size w1.heap.size w2.heap.size pd pk 0 (fun _=>0):=by
  have hxl:w.heap.size<w1.heap.size:=by
   obtain ⟨seed,sl,u,cc,ad,h1,h,o⟩:=hx1
   exact lt_of_block h.2.1
  have ha:Below w3.heap.size w3 (w3.alloc (.cells #[.int .i64 (heldC n:Nat),.pointer none,.pointer none,.pointer none,.pointer (some ⟨w.heap.size,0,none⟩),.pointer (some ⟨pd,0,none⟩),.pointer (some ⟨pk,0,none⟩)] 108)):=(Below.refl _ w3).alloc (Nat.le_refl _) _
  refine ⟨heap_alloc_new w3 _,hxl,hk2.size,hk3.size,Nat.le_refl _,fun j hj=>by omega,fun j hj=>by omega,fun i j _ hj=>by omega,Ix.IX.below (Ix.IX.kept (Ix.IX.kept hx1 hk2 (fun g h1 h2=>by omega)) hk3 (fun g h1 h2=>by have:=hk2.size;omega)) ha,?_,?_,?_⟩
  ·exact (DrAt.wide (DrAt.old hd2 hk3 (fun g h1 h2 h3=>by omega)) (fun g _ h=>h)).below ha
  ·exact SkAt.old hs3 (D':=fun _=>False) (.of_below ha) (fun _ _ _ h=>h)
  ·exact ((((hk1.mono (fun g _ h=>by omega):Keeps (fun k=>w.heap.size≤k) w w1)).trans (hk2.mono (fun g _ h=>by omega))).trans (hk3.mono (fun g _ h=>by have:=hk2.size;omega)) |>.alloc _).below (Nat.le_refl _) (fun _ h=>h)
 have HM0:Hid _:=hm0
 clear hm0 hx1 hk1 hc hd2 hk2 hs3 hk3
 go_loopw [17] (fun i wr=>∃ (k:Nat) (P:Nat→Nat),k≤3∧i=.int .i64 k∧Making w wr w3.heap.size (heldC n) w.heap.size w1.heap.size w2.heap.size pd pk k P) (fun i _=>3 - (intOf i).toNat)
 case atStart=>exact ⟨0,_,by omega,rfl,HM0.out⟩
 case round =>
  obtain ⟨k,P,hk,rfl,hM⟩:=hrel
  have HM:Hid _:=hM
  have heo:=lt_of_block hM.top
  rcases Nat.lt_or_ge k 3 with hlt | hge
  ·have hmk:=Ls.make_any wr.drew (fun g=>g=wr.heap.size) rfl
   have hcell:∃ u,wr.cell? ⟨w3.heap.size,1+k,none⟩=some u:=by
    rw [cell_of_block hM.top]
    have:k=0∨k=1∨k=2:=by omega
    rcases this with e1 | e1 | e1 <;> subst e1 <;> exact ⟨_,rfl⟩
   obtain ⟨u,hu⟩:=hcell
   have hfz:wr.frozen? ⟨w3.heap.size,1+k,none⟩=false:=frozen_of_block hM.top
   clear hM
   go_wp2_with fail
   go_region_with (go_at_call 57;refine Calls.mono hmk ?_;rintro ee w2 ⟨p,rfl,hl2,hk2⟩;have hk2':=hk2.undrew;have hb:=(hk2'.block _ heo (by omega));have hu2:w2.cell? ⟨w3.heap.size,1+k,none⟩=some u:=(by rw [World.cell?_of_block hb];exact hu);have hf2:w2.frozen? ⟨w3.heap.size,1+k,none⟩=false:=(frozen_of_block (hb.trans HM.out.top)))
   all_goals
    go_wp2
    obtain ⟨P',hM'⟩:=HM.out.step hlt hl2 hk2'
    exact ⟨⟨k+1,P',hlt,by go_num,hM'⟩,by simp [intOf];omega⟩
  ·have hk':k=3:=by omega
   subst hk'
   go_wp2
   go_ret
   exact ⟨_,_,_,rfl,HM.out.done D HD.out⟩
end Go.Proofs.YtkkkkiejnmpdkaaGreatDoor.Lfu
namespace Go.Proofs.YtkkkkiejnmpdkaaGreatDoor.Lfu
open Go.RowKit
def AZ (e:Nat) (z:Dk) (s:Stt) (D:Nat→Prop) (w:World):Prop:=MB e z s D w∧Single s
def AE (e:Nat) (_b:Nat) (s:Stt) (D:Nat→Prop) (w:World):Prop:=∃ z,AZ e z s D w
section
variable {D D':Nat→Prop} {w w':World} {e b:Nat} {s:Stt} {z:Dk}
theorem AZ.below (H:AZ e z s D w) (hb:Below w.heap.size w w'):AZ e z s D w':=⟨H.1.below hb,H.2⟩
theorem AZ.sizes (H:AZ e z s D w) {k:ByteArray} (h:k∈A.keys s):k.size≤1000:=by
 obtain ⟨⟨m,h1⟩,-⟩:=H
 obtain ⟨i,hi,hk⟩:=keys_in.1 h
 exact h1.size hi hk
theorem AE.below (H:AE e b s D w) (hb:Below w.heap.size w w'):AE e b s D w':=by obtain ⟨z,h⟩:=H;exact ⟨z,h.below hb⟩
theorem loadZ (H:AZ e z s D w) (hok:A.Ok s) (hD:∀ k,w.heap.size≤k→D k) (key:ByteArray) (hk:key.size≤1000) :
 Calls Tryz.prog 308 #[.pointer (some ⟨e,0,none⟩),.string key] w fun ee w'=>ee=.returned (.bool (A.load s key).1)∧AZ e z (A.load s key).2 D w'∧Keeps D w w':=by
 obtain ⟨⟨m,h⟩,-⟩:=H
 refine (loadM h hok hD key hk).mono ?_
 rintro ee w' ⟨rfl,h,hk1⟩
 exact ⟨rfl,⟨h,Single.of (A.load_any hok key).1⟩,hk1⟩
theorem load_any (H:AE e b s D w) (hok:A.Ok s) (hD:∀ k,w.heap.size≤k→D k) (_:b≤600000) (key:ByteArray) (hk:key.size≤1000) :
 Calls Tryz.prog 308 #[.pointer (some ⟨e,0,none⟩),.string key] w fun ee w'=>ee=.returned (.bool (A.load s key).1)∧AE e (b+1) (A.load s key).2 D w'∧Keeps D w w':=by
 obtain ⟨z,h⟩:=H
 exact (loadZ h hok hD key hk).mono (by rintro ee w' ⟨rfl,h,hk1⟩;exact ⟨rfl,⟨z,h⟩,hk1⟩)
theorem lenZ (H:AZ e z s D w):Calls Tryz.prog 307 #[.pointer (some ⟨e,0,none⟩)] w fun ee w'=>ee=.returned (.int .i64 ((A.keys s).length:Nat))∧Below w.heap.size w w':=by
 obtain ⟨⟨m,h⟩,ho⟩:=H
 refine (lenM h ho).mono ?_
 rintro ee w' ⟨rfl,rfl⟩
 exact ⟨rfl,Below.refl _ _⟩
theorem keys_any (H:AE e b s D w) (_:b≤900000):Calls Tryz.prog 307 #[.pointer (some ⟨e,0,none⟩)] w fun ee w'=>ee=.returned (.int .i64 ((A.keys s).length:Nat))∧Below w.heap.size w w':=by obtain ⟨z,h⟩:=H;exact lenZ h
theorem ghostsZ (H:AZ e z s D w):Calls Tryz.prog 304 #[.pointer (some ⟨e,0,none⟩)] w fun ee w'=>ee=.returned (.slice none 0 0)∧w'=w:=by obtain ⟨⟨m,h⟩,-⟩:=H;exact ghostsEM h
theorem ghosts_any (H:AE e b s D w):Calls Tryz.prog 304 #[.pointer (some ⟨e,0,none⟩)] w fun ee w'=>ee=.returned (.slice none 0 0)∧w'=w:=by obtain ⟨z,h⟩:=H;exact ghostsZ h
theorem stateZ (H:AZ e z s D w):Calls Tryz.prog 311 #[.pointer (some ⟨e,0,none⟩)] w fun ee w'=>ee=.returned (.string ⟨(stB (qs s) 3).toArray⟩)∧Below w.heap.size w w':=by obtain ⟨⟨m,h⟩,-⟩:=H;exact state_any h (by omega)
theorem stateE_any (H:AE e b s D w):Calls Tryz.prog 311 #[.pointer (some ⟨e,0,none⟩)] w fun ee w'=>ee=.returned (.string ⟨(stB (qs s) 3).toArray⟩)∧Below w.heap.size w w':=by obtain ⟨z,h⟩:=H;exact stateZ h
end
theorem newZ (w:World) (D:Nat→Prop) (hD:∀ k,w.heap.size≤k→D k) (n:Int) :
 Calls Tryz.prog 22 #[.int .i64 n] w fun ee w'=>∃ e pd pk,ee=.returned (.pointer (some ⟨e,0,none⟩))∧AZ e (zst pd pk (heldC n)) (A.start (heldC n)) D w'∧Keeps D w w':=by
 refine (newM w D hD n).mono ?_
 rintro ee w' ⟨e,pd,pk,rfl,h,hk1⟩
 exact ⟨e,pd,pk,rfl,⟨h,Single.of (A.start_ok (heldC_in n).1 (heldC_in n).2)⟩,hk1⟩
theorem new_any (w:World) (D:Nat→Prop) (hD:∀ k,w.heap.size≤k→D k) (n:Int) :
 Calls Tryz.prog 22 #[.int .i64 n] w fun ee w'=>∃ e,ee=.returned (.pointer (some ⟨e,0,none⟩))∧AE e 0 (A.start (heldC n)) D w'∧Keeps D w w':=by
 refine (newZ w D hD n).mono ?_
 rintro ee w' ⟨e,pd,pk,rfl,h,hk1⟩
 exact ⟨e,rfl,⟨_,h⟩,hk1⟩
end Go.Proofs.YtkkkkiejnmpdkaaGreatDoor.Lfu
