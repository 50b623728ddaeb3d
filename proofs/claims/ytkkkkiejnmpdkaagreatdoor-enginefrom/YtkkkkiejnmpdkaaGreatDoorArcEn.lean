/- Arc En: En Ea Eb Ec Ed -/
import Derived.Test.YtkkkkiejnmpdkaaGreatDoorLs
import Derived.Test.YtkkkkiejnmpdkaaGreatDoorArcIy
import Derived.Test.YtkkkkiejnmpdkaaGreatDoorArcPu
import Derived.BigRegion
import Derived.Deep.RegionWith
import Derived.Deep.Cut
import Derived.Deep.CutRange
namespace Go.Proofs.YtkkkkiejnmpdkaaGreatDoor.Arc
open Go.RowKit
namespace Ls
open Go.Proofs.YtkkkkiejnmpdkaaGreatDoor.Ls
end Ls
structure Li where
 pr:Nat
 row:List Nat
 free:List Nat
 va:Nat→ByteArray
 n:Nat
abbrev LiAt (D:Nat→Prop) (w:World) (l:Li):Prop:=Ls.LA Value.string 234 152 D w l.pr l.row l.free l.va l.n
abbrev XAt (D:Nat→Prop) (w:World) (x:Nat) (m:ByteArray→Option Ix.Sp) (b:Nat):Prop:=Ix.IX 229 147 D w x m b
def enc (c p:Nat) (R:Nat→Li) (x:Nat):Array Value :=
 #[.int .i64 (c:Nat),.int .i64 (p:Nat),.pointer (some ⟨(R 0).pr,0,none⟩),.pointer (some ⟨(R 1).pr,0,none⟩),.pointer (some ⟨(R 2).pr,0,none⟩),.pointer (some ⟨(R 3).pr,0,none⟩),.pointer (some ⟨x,0,none⟩)]
structure EnIn (D:Nat→Prop) (L:Nat→Nat) (w:World) (e c p:Nat) (R:Nat→Li) (x:Nat) (m:ByteArray→Option Ix.Sp) (b:Nat):Prop where
 de:D e
 le:L e=5
 top:w.heap[e]? = some (.cells (enc c p R x) 84 (0,0))
 li:∀ i,i<4→LiAt (fun k=>D k∧L k=i) w (R i)
 ix:XAt (fun k=>D k∧L k=4) w x m b
def nlab (L:Nat→Nat) (n i:Nat):Nat→Nat:=fun g=>if g<n then L g else i
theorem nlab_old {L:Nat→Nat} {n i g:Nat} (h:g<n):nlab L n i g=L g:=by simp [nlab,h]
theorem nlab_new {L:Nat→Nat} {n i g:Nat} (h:n≤g):nlab L n i g=i:=by simp [nlab,show ¬ g<n by omega]
section
variable {D D':Nat→Prop} {L:Nat→Nat} {w w':World} {e c p:Nat} {R:Nat→Li} {x:Nat} {m m':ByteArray→Option Ix.Sp} {b b':Nat} {l:Li}
theorem EnIn.cells (H:EnIn D L w e c p R x m b) :
 w.cell? ⟨e,0,none⟩=some (.int .i64 (c:Nat))∧w.cell? ⟨e,1,none⟩=some (.int .i64 (p:Nat))∧w.cell? ⟨e,6,none⟩=some (.pointer (some ⟨x,0,none⟩)) ∧
 w.frozen? ⟨e,1,none⟩=false∧e<w.heap.size:=by
 have h:=H.top
 refine ⟨?_,?_,?_,frozen_of_block h,lt_of_block h⟩ <;> (rw [cell_of_block h];rfl)
theorem EnIn.four (H:EnIn D L w e c p R x m b) :
 w.cell? ⟨e,2,none⟩=some (.pointer (some ⟨(R 0).pr,0,none⟩))∧w.cell? ⟨e,3,none⟩=some (.pointer (some ⟨(R 1).pr,0,none⟩))∧w.cell? ⟨e,4,none⟩=some (.pointer (some ⟨(R 2).pr,0,none⟩))∧w.cell? ⟨e,5,none⟩=some (.pointer (some ⟨(R 3).pr,0,none⟩)):=by
 have h:=H.top
 refine ⟨?_,?_,?_,?_⟩ <;> (rw [cell_of_block h];rfl)
theorem EnIn.row (H:EnIn D L w e c p R x m b) {i:Nat} (hi:i<4):w.cell? ⟨e,2+i,none⟩=some (.pointer (some ⟨(R i).pr,0,none⟩)):=by
 obtain ⟨h0,h1,h2,h3⟩:=H.four
 have:i=0∨i=1∨i=2∨i=3:=by omega
 rcases this with e | e | e | e <;> subst e <;> assumption
theorem LiAt.old {D D':Nat→Prop} {w w':World} {l:Li} (h:LiAt D w l) (hk:Keeps D' w w') (hd:∀ k,k<w.heap.size→D k→¬ D' k):LiAt (fun k=>D k∧k<w.heap.size) w' l :=
 (Ls.LA.narrow h).kept hk (fun k e=>hd k e.2 e.1)
theorem XAt.old {D D':Nat→Prop} {w w':World} (h:XAt D w x m b) (hk:Keeps D' w w') (hd:∀ k,k<w.heap.size→D k→¬ D' k):XAt (fun k=>D k∧k<w.heap.size) w' x m b :=
 (Ix.IX.narrow h).kept hk (fun k e=>hd k e.2 e.1)
theorem EnIn.kept (H:EnIn D L w e c p R x m b) (hk:Keeps D' w w') (hd:∀ k,k<w.heap.size→D k→¬ D' k):EnIn D L w' e c p R x m b :=
 ⟨H.de,H.le,(hk.block e (lt_of_block H.top) (hd _ (lt_of_block H.top) H.de)).trans H.top,fun i hi=>((H.li i hi).old hk (fun k a h=>hd k a h.1)).wide (fun _ h=>h.1),(XAt.old H.ix hk (fun k a h=>hd k a h.1)).wide (fun _ h=>h.1)⟩
theorem EnIn.below (H:EnIn D L w e c p R x m b) (hb:Below w.heap.size w w'):EnIn D L w' e c p R x m b:=H.kept (D':=fun _=>False) (.of_below hb) (fun _ _ _ e=>e)
def own (D:Nat→Prop) (L:Nat→Nat) (n i:Nat):Nat→Prop:=fun k=>(D k∧L k=i)∨n≤k
theorem own_new (D:Nat→Prop) (L:Nat→Nat) (n i:Nat):∀ k,n≤k→own D L n i k:=fun _ h=>.inr h
theorem EnIn.list (H:EnIn D L w e c p R x m b) {i:Nat} (hi:i<4):LiAt (own D L w.heap.size i) w (R i):=Ls.LA.wide (H.li i hi) (fun _ h=>.inl h)
theorem EnIn.index (H:EnIn D L w e c p R x m b):XAt (own D L w.heap.size 4) w x m b:=Ix.IX.wide H.ix (fun _ h=>.inl h)
theorem nlab_own (hD:∀ k,w.heap.size≤k→D k) {i k:Nat} (h:own D L w.heap.size i k):D k∧nlab L w.heap.size i k=i:=by
 rcases Nat.lt_or_ge k w.heap.size with hk | hk
 ·rw [nlab_old hk]
  rcases h with h | h
  ·exact h
  ·omega
 ·exact ⟨hD k hk,nlab_new hk⟩
theorem own_not {i j k:Nat} (hij:j≠i) (hk:k<w.heap.size) (h:D k∧L k=j):¬ own D L w.heap.size i k:=by
 rintro (h2 | h2)
 ·exact hij (h.2.symm.trans h2.2)
 ·omega
theorem EnIn.putL (H:EnIn D L w e c p R x m b) (hD:∀ k,w.heap.size≤k→D k) {i:Nat} (hi:i<4) (hk:Keeps (own D L w.heap.size i) w w') (hl:LiAt (own D L w.heap.size i) w' l) (hp:l.pr=(R i).pr) :
 EnIn D (nlab L w.heap.size i) w' e c p (fun j=>if j=i then l else R j) x m b:=by
 have he:=lt_of_block H.top
 refine ⟨H.de,by rw [nlab_old he];exact H.le,?_,fun j hj=>?_,(XAt.old H.ix hk (fun k a h=>own_not (by omega) a h)).wide (fun k h=>⟨h.1.1,by rw [nlab_old h.2];exact h.1.2⟩)⟩
 ·rw [hk.block e he (own_not (j:=5) (by omega) he ⟨H.de,H.le⟩),H.top]
  have:enc c p (fun j=>if j=i then l else R j) x=enc c p R x:=by
   have:i=0∨i=1∨i=2∨i=3:=by omega
   rcases this with e | e | e | e <;> subst e <;> simp [enc,hp]
  rw [this]
 ·by_cases hji:j=i
  ·subst hji
   rw [if_pos rfl]
   exact Ls.LA.wide hl (fun k h=>nlab_own hD h)
  ·rw [if_neg hji]
   exact ((H.li j hj).old hk (fun k a h=>own_not hji a h)).wide (fun k h=>⟨h.1.1,by rw [nlab_old h.2];exact h.1.2⟩)
theorem EnIn.putX (H:EnIn D L w e c p R x m b) (hD:∀ k,w.heap.size≤k→D k) (hk:Keeps (own D L w.heap.size 4) w w') (hx:XAt (own D L w.heap.size 4) w' x m' b') :
 EnIn D (nlab L w.heap.size 4) w' e c p R x m' b':=by
 have he:=lt_of_block H.top
 refine ⟨H.de,by rw [nlab_old he];exact H.le,?_,fun j hj=>?_,Ix.IX.wide hx (fun k h=>nlab_own hD h)⟩
 ·rw [hk.block e he (own_not (j:=5) (by omega) he ⟨H.de,H.le⟩),H.top]
 ·exact ((H.li j hj).old hk (fun k a h=>own_not (by omega) a h)).wide (fun k h=>⟨h.1.1,by rw [nlab_old h.2];exact h.1.2⟩)
theorem own_keeps (hD:∀ k,w.heap.size≤k→D k) {i:Nat} (hk:Keeps (own D L w.heap.size i) w w'):Keeps D w w':=hk.mono (fun _ _ h=>(nlab_own (w:=w) hD h).1)
end
structure Rel (R:Nat→Li) (m:ByteArray→Option Ix.Sp) (Q:Nat→List ByteArray) (b:Nat):Prop where
 keys:∀ i,i<4→(R i).row.map (R i).va=Q i
 spot:∀ k i h,m k=some (i,h)↔i<4∧h∈(R i).row∧(R i).va h=k
 few:∀ i,i<4→(R i).n≤b
 size:∀ i,i<4→∀ k∈Q i,k.size≤1000
 nodup:∀ i,i<4→(R i).row.Nodup
section
variable {R:Nat→Li} {m:ByteArray→Option Ix.Sp} {Q:Nat→List ByteArray} {b:Nat}
theorem Rel.none (H:Rel R m Q b) {k:ByteArray}:m k=none↔∀ i,i<4→k∉Q i:=by
 constructor
 ·intro h i hi hk
  rw [← H.keys i hi,List.mem_map] at hk
  obtain ⟨a,ha,hv⟩:=hk
  have:=(H.spot k i a).2 ⟨hi,ha,hv⟩
  rw [h] at this;cases this
 ·intro h
  cases hm:m k with
  | none=>rfl
  | some v =>
    obtain ⟨i,a⟩:=v
    obtain ⟨h1,h2,h3⟩:=(H.spot k i a).1 hm
    exact absurd (by rw [← H.keys i h1];exact List.mem_map.2 ⟨a,h2,h3⟩) (h i h1)
theorem Rel.some (H:Rel R m Q b) {k:ByteArray} {i h:Nat} (hm:m k=some (i,h)):i<4∧k∈Q i∧∀ j,j<4→j≠i→k∉Q j:=by
 obtain ⟨h1,h2,h3⟩:=(H.spot k i h).1 hm
 refine ⟨h1,by rw [← H.keys i h1];exact List.mem_map.2 ⟨h,h2,h3⟩,fun j hj hne hk=>?_⟩
 rw [← H.keys j hj,List.mem_map] at hk
 obtain ⟨a,ha,hv⟩:=hk
 have:=(H.spot k j a).2 ⟨hj,ha,hv⟩
 rw [hm] at this
 cases this
 exact hne rfl
theorem Rel.lay (H:Rel R m Q b) {k:ByteArray} (hn:m k=Option.none) {i:Nat} (hi:i<4) (hs:k.size≤1000) (hh:Ls.handOf (R i).free (R i).n∉(R i).row) :
 Rel (fun j=>if j=i then { R i with row:=(R i).row++[Ls.handOf (R i).free (R i).n],free:=(R i).free.tail,va:=Ls.upd (R i).va (Ls.handOf (R i).free (R i).n) k,n:=Ls.moreOf (R i).free (R i).n } else R j)
  (Ix.put m k (.some (i,Ls.handOf (R i).free (R i).n))) (fun j=>if j=i then Q j++[k] else Q j) (b+1):=by
 have hno:=H.none.1 hn
 have hva:∀ a∈(R i).row,Ls.upd (R i).va (Ls.handOf (R i).free (R i).n) k a=(R i).va a:=fun a ha=>Ls.upd_far _ _ (by rintro rfl;exact hh ha)
 constructor
 ·intro j hj
  by_cases e:j=i
  ·subst e
   simp only [if_true,List.map_append,List.map_cons,List.map_nil,Ls.upd_same]
   rw [List.map_congr_left hva,H.keys j hj]
  ·simp only [if_neg e]
   exact H.keys j hj
 ·intro k' j a
  by_cases hk:k'=k
  ·subst hk
   rw [Ix.put_same]
   constructor
   ·intro e
    cases e
    refine ⟨hi,?_,?_⟩
    ·simp
    ·simp [Ls.upd_same]
   ·rintro ⟨h1,h2,h3⟩
    by_cases e:j=i
    ·subst e
     simp only [if_true,List.mem_append,List.mem_singleton] at h2 h3
     rcases h2 with h2 | h2
     ·rw [hva a h2] at h3
      exact absurd (by rw [← H.keys j h1];exact List.mem_map.2 ⟨a,h2,h3⟩) (hno j h1)
     ·rw [h2]
    ·simp only [if_neg e] at h2 h3
     exact absurd (by rw [← H.keys j h1];exact List.mem_map.2 ⟨a,h2,h3⟩) (hno j h1)
  ·rw [Ix.put_far hk,H.spot]
   by_cases e:j=i
   ·subst e
    simp only [if_true,List.mem_append,List.mem_singleton]
    constructor
    ·rintro ⟨h1,h2,h3⟩
     exact ⟨h1,.inl h2,by rw [hva a h2];exact h3⟩
    ·rintro ⟨h1,h2 | h2,h3⟩
     ·exact ⟨h1,h2,by rw [hva a h2] at h3;exact h3⟩
     ·subst h2
      rw [Ls.upd_same] at h3
      exact absurd h3.symm hk
   ·simp only [if_neg e]
 ·intro j hj
  have:=H.few j hj
  by_cases e:j=i
  ·subst e
   simp only [if_true,Ls.moreOf]
   split <;> omega
  ·simp only [if_neg e]
   omega
 ·intro j hj k' hk'
  by_cases e:j=i
  ·subst e
   simp only [if_true,List.mem_append,List.mem_singleton] at hk'
   rcases hk' with h | h
   ·exact H.size j hj k' h
   ·subst h;exact hs
  ·simp only [if_neg e] at hk'
   exact H.size j hj k' hk'
 ·intro j hj
  by_cases e:j=i
  ·subst e
   simp only [if_true]
   rw [List.nodup_append]
   refine ⟨H.nodup j hj,by simp,?_⟩
   intro a ha b' hb'
   simp at hb'
   subst hb'
   rintro rfl
   exact hh ha
  ·simp only [if_neg e]
   exact H.nodup j hj
theorem Rel.take (H:Rel R m Q b) {k:ByteArray} {i h:Nat} (hm:m k=.some (i,h)) {l r:List Nat} (hr:(R i).row=l++h::r) :
 Rel (fun j=>if j=i then { R i with row:=l++r,free:=h::(R i).free,va:=Ls.upd (R i).va h ⟨#[]⟩ } else R j) (Ix.put m k Option.none) (fun j=>A.cut (Q j) k) b:=by
 obtain ⟨hi,hin,hv⟩:=(H.spot k i h).1 hm
 obtain ⟨_,_,hot⟩:=H.some hm
 have hnd:=H.nodup i hi
 rw [hr] at hnd
 have hnd2:=(List.perm_middle.nodup_iff.1 hnd)
 rw [List.nodup_cons] at hnd2
 have hva:∀ a∈l++r,Ls.upd (R i).va h ⟨#[]⟩ a=(R i).va a:=fun a ha=>Ls.upd_far _ _ (by rintro rfl;exact hnd2.1 ha)
 have hkey:∀ a∈l++r,(R i).va a≠k:=fun a ha e=>by
  have ha':a∈(R i).row:=by rw [hr];simp at ha ⊢;rcases ha with h | h <;> simp [h]
  have:=(H.spot k i a).2 ⟨hi,ha',e⟩
  rw [hm] at this
  cases this
  exact hnd2.1 ha
 constructor
 ·intro j hj
  by_cases e:j=i
  ·subst e
   simp only [if_true]
   rw [List.map_congr_left hva,← H.keys j hj,hr]
   unfold A.cut
   rw [List.map_append,List.map_append,List.map_cons,List.filter_append,List.filter_cons,if_neg (by simp [hv])]
   rw [List.filter_eq_self.2,List.filter_eq_self.2]
   ·intro y hy
    obtain ⟨a,ha,rfl⟩:=List.mem_map.1 hy
    simpa using hkey a (by simp [ha])
   ·intro y hy
    obtain ⟨a,ha,rfl⟩:=List.mem_map.1 hy
    simpa using hkey a (by simp [ha])
  ·simp only [if_neg e]
   rw [A.cut_same (hot j hj e)]
   exact H.keys j hj
 ·intro k' j a
  by_cases hk:k'=k
  ·subst hk
   rw [Ix.put_same]
   constructor
   ·intro e;cases e
   ·rintro ⟨h1,h2,h3⟩
    by_cases e:j=i
    ·subst e
     simp only [if_true] at h2 h3
     rw [hva a h2] at h3
     exact absurd h3 (hkey a h2)
    ·simp only [if_neg e] at h2 h3
     exact absurd (by rw [← H.keys j h1];exact List.mem_map.2 ⟨a,h2,h3⟩) (hot j h1 e)
  ·rw [Ix.put_far hk,H.spot]
   by_cases e:j=i
   ·subst e
    simp only [if_true]
    constructor
    ·rintro ⟨h1,h2,h3⟩
     have ha:a∈l++r:=by
      rw [hr] at h2
      simp at h2 ⊢
      rcases h2 with h | h | h
      ·exact .inl h
      ·subst h;exact absurd (h3.symm.trans hv) hk
      ·exact .inr h
     exact ⟨h1,ha,by rw [hva a ha];exact h3⟩
    ·rintro ⟨h1,h2,h3⟩
     rw [hva a h2] at h3
     exact ⟨h1,by rw [hr];simp at h2 ⊢;rcases h2 with h | h <;> simp [h],h3⟩
   ·simp only [if_neg e]
 ·intro j hj
  by_cases e:j=i
  ·subst e
   simp only [if_true]
   exact H.few j hj
  ·simp only [if_neg e]
   exact H.few j hj
 ·intro j hj k' hk'
  exact H.size j hj k' (List.mem_filter.1 hk').1
 ·intro j hj
  by_cases e:j=i
  ·subst e
   simp only [if_true]
   exact hnd2.2
  ·simp only [if_neg e]
   exact H.nodup j hj
theorem Rel.more (H:Rel R m Q b) {b':Nat} (h:b≤b'):Rel R m Q b':=⟨H.keys,H.spot,fun i hi=>Nat.le_trans (H.few i hi) h,H.size,H.nodup⟩
end
def EN (D:Nat→Prop) (w:World) (e c p:Nat) (Q:Nat→List ByteArray) (b:Nat):Prop:=∃ L R x m,EnIn D L w e c p R x m b∧Rel R m Q b
section
variable {D D':Nat→Prop} {w w':World} {e c p:Nat} {Q:Nat→List ByteArray} {b:Nat}
theorem EN.below (H:EN D w e c p Q b) (hb:Below w.heap.size w w'):EN D w' e c p Q b:=by
 obtain ⟨L,R,x,m,h,r⟩:=H;exact ⟨L,R,x,m,h.below hb,r⟩
theorem EN.more (H:EN D w e c p Q b) {b':Nat} (hb:b≤b'):EN D w e c p Q b':=by
 obtain ⟨L,R,x,m,h,r⟩:=H;exact ⟨L,R,x,m,⟨h.de,h.le,h.top,h.li,Ix.IX.more h.ix hb⟩,r.more hb⟩
theorem EN.cells (H:EN D w e c p Q b):w.cell? ⟨e,0,none⟩=some (.int .i64 (c:Nat))∧w.cell? ⟨e,1,none⟩=some (.int .i64 (p:Nat))∧w.frozen? ⟨e,1,none⟩=false∧e<w.heap.size∧∃ x,w.cell? ⟨e,6,none⟩=some (.pointer (some ⟨x,0,none⟩)):=by
 obtain ⟨L,R,x,m,h,r⟩:=H
 obtain ⟨h0,h1,h2,h3,h4⟩:=h.cells
 exact ⟨h0,h1,h3,h4,x,h2⟩
theorem EN.congr {Q':Nat→List ByteArray} (H:EN D w e c p Q b) (h:∀ i,i<4→Q' i=Q i):EN D w e c p Q' b:=by
 obtain ⟨L,R,x,m,h1,r⟩:=H
 exact ⟨L,R,x,m,h1,fun i hi=>(r.keys i hi).trans (h i hi).symm,r.spot,r.few,fun i hi k hk=>r.size i hi k (by rw [← h i hi];exact hk),r.nodup⟩
theorem EN.size (H:EN D w e c p Q b) {i:Nat} (hi:i<4) {k:ByteArray} (hk:k∈Q i):k.size≤1000:=by
 obtain ⟨L,R,x,m,h,r⟩:=H;exact r.size i hi k hk
end
end Go.Proofs.YtkkkkiejnmpdkaaGreatDoor.Arc
namespace Go.Proofs.YtkkkkiejnmpdkaaGreatDoor.Arc
open Go.RowKit
section
variable {D:Nat→Prop} {w:World} {e c p:Nat} {Q:Nat→List ByteArray} {b:Nat}
theorem split_mem {l:List Nat} {h:Nat} (hm:h∈l):∃ a r,l=a++h::r:=by
 obtain ⟨a,r,e⟩:=List.append_of_mem hm
 exact ⟨a,r,e⟩
theorem take_end {L:Nat→Nat} {R:Nat→Li} {x:Nat} {m:ByteArray→Option Ix.Sp} {w1 w2:World} {k:ByteArray} {i h:Nat} {l r:List Nat} (hD:∀ k,w.heap.size≤k→D k) (Hr:Rel R m Q b) (hm:m k=some (i,h)) (hr:(R i).row=l++h::r)
 (H1:EnIn D (nlab L w.heap.size 4) w1 e c p R x (Ix.put m k none) b) (hs:w.heap.size≤w1.heap.size) (hl:LiAt (own D (nlab L w.heap.size 4) w1.heap.size i) w2 { R i with row:=l++r,free:=h::(R i).free,va:=Ls.upd (R i).va h ⟨#[]⟩ }) (hk:Keeps (own D (nlab L w.heap.size 4) w1.heap.size i) w1 w2) (hi:i<4) :
 EN D w2 e c p (fun i=>A.cut (Q i) k) b∧Keeps D w1 w2:=by
 have hD1:∀ k,w1.heap.size≤k→D k:=fun k hk=>hD k (by omega)
 exact ⟨⟨_,_,_,_,H1.putL hD1 hi hk hl rfl,Hr.take hm hr⟩,own_keeps hD1 hk⟩
set_option maxHeartbeats 1000000 in
theorem take_any (H:EN D w e c p Q b) (hD:∀ k,w.heap.size≤k→D k) (hb:b≤900000) (k:ByteArray) (hk:k.size≤1000) :
 Calls Tryz.prog 190 #[.pointer (some ⟨e,0,none⟩),.string k] w fun ee w'=>ee=.returned (.tuple #[])∧EN D w' e c p (fun i=>A.cut (Q i) k) b∧Keeps D w w':=by
 have HE:Hid (EN D w e c p Q b):=H
 obtain ⟨L,R,x,m,H,r⟩:=H
 obtain ⟨c0,c1,c6,f1,heo⟩:=H.cells
 have HH:Hid (EnIn D L w e c p R x m b):=H
 have HR:Hid (Rel R m Q b):=r
 have HD:Hid (∀ k,w.heap.size≤k→D k):=hD
 clear H r hD
 cases hm:m k with
 | none =>
   have HM:Hid (m k=none):=hm
   clear hm
   go_enter Tryz.func190,Tryz.ntmps190
   go_wp2_with (go_at_call 201;refine (Ix.delete_miss HH.out.index (by omega) k (by unfold maxLen;omega) HM.out).mono ?_;rintro ee w1 ⟨rfl,hb1⟩)
   go_end0
   have hb2:=hb1.alloc hb1.size (.cells #[.int .i64 0,.int .i64 0] 79)
   exact ⟨rfl,(HE.out.below hb2).congr (fun i hi=>A.cut_same (HR.out.none.1 HM.out i hi)),.of_below hb2⟩
 | some v =>
   obtain ⟨i,h⟩:=v
   obtain ⟨hi,hin,hv⟩:=(HR.out.spot k i h).1 hm
   obtain ⟨l,r,hr⟩:=split_mem hin
   have HM:Hid (m k=some (i,h)):=hm
   have HL:Hid ((R i).row=l++h::r):=hr
   have hn:(R i).n≤1000000:=by have:=HR.out.few i hi;omega
   clear hm hin hv hr
   go_enter Tryz.func190,Tryz.ntmps190
   go_wp2_with (go_at_call 201;refine (Ix.delete_hit HH.out.index (by omega) k (by unfold maxLen;omega) HM.out).mono ?_;rintro ee w1 ⟨rfl,hx1,hk1⟩;have HE1:Hid (EnIn D (nlab L w.heap.size 4) w1 e c p R x (Ix.put m k none) b):=HH.out.putX HD.out hk1 hx1;have hr1:=HE1.out.row hi;have heo1:=lt_of_block HE1.out.top;have hK1:Hid (Keeps D w w1):=own_keeps HD.out hk1;clear hx1 hk1 c0 c1 c6 f1 heo)
   have HE2:Hid (EnIn D (nlab L w.heap.size 4) (w1.alloc (.cells #[.int .i64 (i:Nat),.int .i64 (h:Nat)] 79)) e c p R x (Ix.put m k none) b):=HE1.out.below ((Below.refl _ w1).alloc (Nat.le_refl _) _)
   have HLi:Hid (Ls.LA Value.string 234 152 (own D (nlab L w.heap.size 4) (w1.alloc (.cells #[.int .i64 (i:Nat),.int .i64 (h:Nat)] 79)).heap.size i) (w1.alloc (.cells #[.int .i64 (i:Nat),.int .i64 (h:Nat)] 79)) (R i).pr (l++h::r) (R i).free (R i).va (R i).n):=by
    have:=HE2.out.list hi
    rw [LiAt,HL.out] at this
    exact this
   have hK2:Hid (Keeps D w (w1.alloc (.cells #[.int .i64 (i:Nat),.int .i64 (h:Nat)] 79))):=hK1.out.alloc _
   go_region_with (go_at_call 202;refine (Ls.remove_in (w:=(w1.alloc (.cells #[.int .i64 (i:Nat),.int .i64 (h:Nat)] 79)).drew) h HLi.out hn).mono ?_;rintro ee w2 ⟨rfl,hl2,hk2⟩)
   all_goals
    go_wp2_with fail
    go_end0
    have h9:=take_end HD.out HR.out HM.out HL.out HE2.out hK2.out.size hl2 ((Keeps.refl _ _).drew.trans hk2) hi
    exact ⟨rfl,h9.1,hK2.out.trans h9.2⟩
end
end Go.Proofs.YtkkkkiejnmpdkaaGreatDoor.Arc
namespace Go.Proofs.YtkkkkiejnmpdkaaGreatDoor.Arc
open Go.RowKit
def laid (Q:Nat→List ByteArray) (k:ByteArray) (i:Nat):Nat→List ByteArray:=fun j=>if j=i then A.cut (Q j) k++[k] else A.cut (Q j) k
section
variable {D:Nat→Prop} {w:World} {e c p:Nat} {Q:Nat→List ByteArray} {b:Nat}
theorem undrew {w w':World} (h:Below w.drew.heap.size w.drew w'):Below w.heap.size w w':=⟨h.os,h.tape,h.output,h.size,h.block⟩
theorem cut_none (l:List ByteArray) (k:ByteArray):k∉A.cut l k:=by
 unfold A.cut
 simp
theorem push_end {L:Nat→Nat} {R:Nat→Li} {x:Nat} {m:ByteArray→Option Ix.Sp} {w2:World} {k:ByteArray} {i:Nat} (hi:i<4) (hD:∀ k,w.heap.size≤k→D k) (H:EnIn D L w e c p R x m b)
 (hl:Ls.LA Value.string 234 152 (own D L w.heap.size i) w2 (R i).pr ((R i).row++[Ls.handOf (R i).free (R i).n]) (R i).free.tail (Ls.upd (R i).va (Ls.handOf (R i).free (R i).n) k) (Ls.moreOf (R i).free (R i).n)) (hk:Keeps (own D L w.heap.size i) w w2) :
 EnIn D (nlab L w.heap.size i) w2 e c p (fun j=>if j=i then { R i with row:=(R i).row++[Ls.handOf (R i).free (R i).n],free:=(R i).free.tail,va:=Ls.upd (R i).va (Ls.handOf (R i).free (R i).n) k,n:=Ls.moreOf (R i).free (R i).n } else R j) x m b∧Keeps D w w2 :=
 ⟨H.putL hD hi hk hl rfl,own_keeps hD hk⟩
set_option maxHeartbeats 1000000 in
theorem lay_any (H:EN D w e c p Q b) (hD:∀ k,w.heap.size≤k→D k) (hb:b≤800000) (k:ByteArray) (hk:k.size≤1000) (i:Nat) (hi:i<4) :
 Calls Tryz.prog 182 #[.pointer (some ⟨e,0,none⟩),.string k,.int .i64 (i:Nat)] w fun ee w'=>ee=.returned (.tuple #[])∧EN D w' e c p (laid Q k i) (b+1)∧Keeps D w w':=by
 have HE:Hid (EN D w e c p Q b):=H
 have HD:Hid (∀ k,w.heap.size≤k→D k):=hD
 clear H hD
 go_enter Tryz.func182,Tryz.ntmps182
 go_wp2_with (go_at_call 190;refine (take_any HE.out HD.out (by omega) k hk).mono ?_;rintro ee w1 ⟨rfl,⟨L,R,x,m,h1,r1⟩,hk1⟩;have H1:Hid (EnIn D L w1 e c p R x m b):=h1;have R1:Hid (Rel R m (fun i=>A.cut (Q i) k) b):=r1;have HK1:Hid (Keeps D w w1):=hk1;have hD1:∀ k,w1.heap.size≤k→D k:=(fun k h=>HD.out k (Nat.le_trans hk1.size h));have HD1:Hid (∀ k,w1.heap.size≤k→D k):=hD1;have hn:(R i).n≤900000:=(Nat.le_trans (R1.out.few i hi) (by omega));have hr1:=h1.row hi;obtain ⟨c0,c1,c6,f1,heo⟩:=h1.cells;clear h1 r1 hk1 hD1)
 go_cut [6] from 10 (fun hv wx=>hv=.int .i64 (Ls.handOf (R i).free (R i).n:Nat)∧(∃ L,EnIn D L wx e c p (fun j=>if j=i then { R i with row:=(R i).row++[Ls.handOf (R i).free (R i).n],free:=(R i).free.tail,va:=Ls.upd (R i).va (Ls.handOf (R i).free (R i).n) k,n:=Ls.moreOf (R i).free (R i).n } else R j) x m b)∧Keeps D w wx)
 case first =>
  go_region_with (first
   | (go_at_call 197;refine (Ix.clone_any k hk _).mono ?_;rintro ee w2 ⟨rfl,hb2⟩;have hb2':=undrew hb2;have H2:Hid (EnIn D L w2 e c p R x m b):=H1.out.below hb2';have HK2:Hid (Keeps D w w2):=HK1.out.trans (.of_below hb2');have HD2:Hid (∀ k,w2.heap.size≤k→D k):=(fun k h=>HD1.out k (Nat.le_trans hb2'.size h));have hr2:=H2.out.row hi;clear hb2 hb2')
   | (go_at_call 196;refine (Ls.pushBack_any (H2.out.list hi) (own_new _ _ _ _) k hn).mono ?_;rintro ee w3 ⟨rfl,hl3,hk3⟩;have h3:=push_end hi HD2.out H2.out hl3 hk3;have H3:Hid (EnIn D _ w3 e c p _ x m b):=h3.1;have HK3:Hid (Keeps D w w3):=HK2.out.trans h3.2;clear hl3 hk3 h3))
  all_goals (go_wp2_with fail;go_meet;case rel=>exact ⟨rfl,⟨_,H3.out⟩,HK3.out⟩)
 case rest =>
  obtain ⟨rfl,⟨L3,h3⟩,HK3⟩:=hcut
  have H3:Hid (EnIn D L3 wc e c p _ x m b):=h3
  have HK3':Hid (Keeps D w wc):=HK3
  have HD3:Hid (∀ k,wc.heap.size≤k→D k):=fun k h=>HD.out k (Nat.le_trans HK3.size h)
  obtain ⟨_,_,c63,_,heo3⟩:=h3.cells
  have hnone:Hid (m k=none):=R1.out.none.2 (fun j _=>cut_none _ _)
  have hhand:Hid (Ls.handOf (R i).free (R i).n∉(R i).row):=(Ls.LA.hand (H1.out.li i hi)).1
  clear h3 HK3 hr1 c0 c1 c6 f1 heo hn
  go_wp2_with (go_at_call 198;refine (Ix.put_any H3.out.index (own_new _ _ _ _) k hk (i,Ls.handOf (R i).free (R i).n) (by omega)).mono ?_;rintro ee w4 ⟨rfl,hx4,hk4⟩)
  all_goals
   go_end0
   have h4:=H3.out.putX HD3.out hk4 hx4
   refine ⟨rfl,⟨_,_,_,_,h4,?_⟩,HK3'.out.trans (own_keeps HD3.out hk4)⟩
   have h5:=R1.out.lay hnone.out hi hk hhand.out
   exact h5
end
end Go.Proofs.YtkkkkiejnmpdkaaGreatDoor.Arc
namespace Go.Proofs.YtkkkkiejnmpdkaaGreatDoor.Arc
open Go.RowKit
section
variable {D:Nat→Prop} {w:World} {e c p:Nat} {Q:Nat→List ByteArray} {b:Nat}
theorem EN.front (H:EN D w e c p Q b) {i:Nat} (hi:i<4) {k:ByteArray} {r:List ByteArray} (hq:Q i=k::r) :
 ∃ l:Li,LiAt (own D (fun _=>0) 0 0) w l∧w.cell? ⟨e,2+i,none⟩=some (.pointer (some ⟨l.pr,0,none⟩))∧Ls.hdOf l.row∈l.row∧l.va (Ls.hdOf l.row)=k∧l.n≤b:=by
 obtain ⟨L,R,x,m,H,r1⟩:=H
 refine ⟨R i,Ls.LA.wide (H.li i hi) (fun _ _=>.inr (Nat.zero_le _)),H.row hi,?_,?_,r1.few i hi⟩
 ·have h:=r1.keys i hi
  rw [hq] at h
  cases hrow:(R i).row with
  | nil=>rw [hrow] at h;cases h
  | cons a t=>simp [Ls.hdOf]
 ·have h:=r1.keys i hi
  rw [hq] at h
  cases hrow:(R i).row with
  | nil=>rw [hrow] at h;cases h
  | cons a t=>rw [hrow] at h;simp [Ls.hdOf];simp at h;exact h.1
theorem oldest_any (H:EN D w e c p Q b) (hb:b≤900000) {i:Nat} (hi:i<4) {k:ByteArray} {r:List ByteArray} (hq:Q i=k::r) :
 Calls Tryz.prog 199 #[.pointer (some ⟨e,0,none⟩),.int .i64 (i:Nat)] w fun ee w'=>ee=.returned (.string k)∧Below w.heap.size w w':=by
 obtain ⟨l,hl,hr,h1,h2,h3⟩:=H.front hi hq
 have HL:Hid _:=hl
 subst h2
 clear H hl hq
 go_enter Tryz.func199,Tryz.ntmps199
 go_wp2_with fail
 have hq:∀ q:Nat,LiAt (own D (fun _=>0) 0 0) (w.drewN q) l:=fun q=>Ls.LA.below HL.out (below_drewN (Below.refl _ w) q)
 go_quiet (first | (go_at_call 213;exact Calls.quiet_of_same (Ls.front_any (hq _))) | (go_at_call 212;exact Calls.quiet_of_same (Ls.get_in (hq _) _ h1 (by omega))))
 go_wp2
 go_ret
 exact ⟨rfl,below_drewN (Below.refl _ w) _⟩
theorem drop_any (H:EN D w e c p Q b) (hD:∀ k,w.heap.size≤k→D k) (hb:b≤900000) {i:Nat} (hi:i<4) {k:ByteArray} {r:List ByteArray} (hq:Q i=k::r) :
 Calls Tryz.prog 189 #[.pointer (some ⟨e,0,none⟩),.int .i64 (i:Nat)] w fun ee w'=>ee=.returned (.string k)∧EN D w' e c p (fun i=>A.cut (Q i) k) b∧Keeps D w w':=by
 have HE:Hid (EN D w e c p Q b):=H
 have HD:Hid (∀ k,w.heap.size≤k→D k):=hD
 have hs:k.size≤1000:=H.size hi (by rw [hq];simp)
 clear H hD
 go_enter Tryz.func189,Tryz.ntmps189
 go_wp2_with (first
  | (go_at_call 199;refine (oldest_any HE.out hb hi hq).mono ?_;rintro ee w1 ⟨rfl,hb1⟩)
  | (go_at_call 190;refine (take_any (HE.out.below hb1) (fun k h=>HD.out k (Nat.le_trans hb1.size h)) hb k hs).mono ?_;rintro ee w2 ⟨rfl,h2,hk2⟩))
 go_ret
 exact ⟨rfl,h2,(Keeps.of_below hb1).trans hk2⟩
theorem blank_any (H:EN D w e c p Q b):Calls Tryz.prog 179 #[.pointer (some ⟨e,0,none⟩)] w fun ee w'=>ee=.returned (.bool false)∧w'=w:=by
 obtain ⟨c0,c1,f1,heo,x,c6⟩:=H.cells
 clear H
 go_enter Tryz.func179,Tryz.ntmps179
 go_wp2
 go_ret
 exact ⟨rfl,rfl⟩
theorem resident_any (v:Ix.Sp):Calls Tryz.prog 183 #[Ix.V v] w fun ee w'=>ee=.returned (.bool (decide (v.1<2)))∧Below w.heap.size w w':=by
 go_enter Tryz.func183,Tryz.ntmps183
 by_cases h0:v.1=0
 ·have h0':((v.1:Nat):Int)=0:=by omega
  rw [Ix.V,h0']
  go_wp2
  go_ret
  exact ⟨by simp [h0],(Below.refl _ w).alloc (Nat.le_refl _) _⟩
 ·go_wp2
  go_ret
  refine ⟨?_,(Below.refl _ w).alloc (Nat.le_refl _) _⟩
  by_cases h1:v.1=1
  ·simp [h1]
  ·have e2:((v.1:Nat):Int)≠1:=by omega
   have e3:¬ v.1<2:=by omega
   simp [h0,e2,e3]
def IntsAt (w:World) (g:Nat) (is:List Nat):Prop:=w.heap[g]? = some (.cells (is.map (fun i:Nat=>Value.int .i64 (i:Nat))).toArray 3 (0,0))
def total (Q:Nat→List ByteArray) (is:List Nat):Nat:=(is.map (fun i=>(Q i).length)).sum
theorem IntsAt.at {w:World} {g:Nat} {is:List Nat} (h:IntsAt w g is) {j i:Nat} (hj:is[j]? = some i):w.cell? ⟨g,j,none⟩=some (.int .i64 (i:Nat)):=by
 rw [cell_of_block h,List.getElem?_toArray,List.getElem?_map,hj]
 rfl
theorem total_more {Q:Nat→List ByteArray} {is:List Nat} {j i:Nat} (hj:is[j]? = some i):total Q (is.take (j+1))=total Q (is.take j)+(Q i).length:=by
 unfold total
 rw [List.take_add_one,hj,List.map_append,List.sum_append]
 simp
theorem EN.len (H:EN D w e c p Q b) {i:Nat} (hi:i<4):∃ l:Li,(∀ q,LiAt (own D (fun _=>0) 0 0) (w.drewN q) l)∧w.cell? ⟨e,2+i,none⟩=some (.pointer (some ⟨l.pr,0,none⟩))∧l.row.length=(Q i).length∧l.n≤b:=by
 obtain ⟨L,R,x,m,H,r1⟩:=H
 refine ⟨R i,fun q=>Ls.LA.below (Ls.LA.wide (H.li i hi) (fun _ _=>.inr (Nat.zero_le _))) (below_drewN (Below.refl _ w) q),H.row hi,?_,r1.few i hi⟩
 rw [← r1.keys i hi,List.length_map]
theorem EN.lens (H:EN D w e c p Q b) {i:Nat} (hi:i<4):(Q i).length≤b:=by
 obtain ⟨L,R,x,m,H,r1⟩:=H
 rw [← r1.keys i hi,List.length_map]
 obtain ⟨s,_,R',_,hn⟩:=H.li i hi
 have:=R'.len
 have:=r1.few i hi
 omega
theorem total_le (H:EN D w e c p Q b) {is:List Nat} (his:∀ i∈is,i<4):total Q is≤is.length*b:=by
 unfold total
 induction is with
 | nil=>simp
 | cons i is ih =>
   have h1:=H.lens (his i (by simp))
   have h2:=ih (fun j hj=>his j (by simp [hj]))
   simp only [List.map_cons,List.sum_cons,List.length_cons,Nat.add_mul]
   omega
set_option maxHeartbeats 1000000 in
theorem count_any (H:EN D w e c p Q b) (hb:b≤900000) {g:Nat} {is:List Nat} (hg:IntsAt w g is) (his:∀ i∈is,i<4) (hl:is.length≤4) :
 Calls Tryz.prog 187 #[.pointer (some ⟨e,0,none⟩),.slice (some ⟨g,0,none⟩) is.length is.length] w fun ee w'=>ee=.returned (.int .i64 (total Q is:Nat))∧w'=w:=by
 have HE:Hid (EN D w e c p Q b):=H
 have HG:Hid (IntsAt w g is):=hg
 have HI:Hid (∀ i∈is,i<4):=his
 clear H hg his
 go_enter Tryz.func187,Tryz.ntmps187
 go_wp2_with fail
 go_loopw [5,10] (fun n i wr=>∃ k:Nat,k≤is.length∧i=.int .i64 k∧n=.int .i64 (total Q (is.take k):Nat)∧wr=w) (fun _ i _=>is.length - (intOf i).toNat)
 case atStart=>exact ⟨0,Nat.zero_le _,rfl,by simp [total],rfl⟩
 case round =>
  obtain ⟨k,hk,rfl,rfl,rfl⟩:=hrel
  have ht:total Q (is.take k)≤4*900000:=by
   have:=total_le HE.out (is:=is.take k) (fun i hi=>HI.out i (List.mem_of_mem_take hi))
   have h2:(is.take k).length*b≤4*900000:=Nat.mul_le_mul (by simp;omega) hb
   omega
  rcases Nat.lt_or_ge k is.length with hlt | hge
  ·obtain ⟨i,hi⟩:∃ i,is[k]? = some i:=⟨_,List.getElem?_eq_getElem hlt⟩
   have hi4:=HI.out i (List.mem_of_getElem? hi)
   have c1:=HG.out.at hi
   obtain ⟨l,HL,c2,hlen,hln⟩:=HE.out.len hi4
   have hlb:=HE.out.lens hi4
   have HT:Hid (total Q (is.take (k+1))=total Q (is.take k)+(Q i).length):=total_more hi
   have HLq:Hid (LiAt (own D (fun _=>0) 0 0) wr l):=HL 0
   generalize total Q (is.take k)=T at *
   clear hi HL
   go_wp2_with (go_at_call 200;refine (Ls.len_any HLq.out).mono ?_;rintro ee w1 ⟨rfl,rfl⟩;rw [hlen])
   go_roundw
   case rel=>exact ⟨k+1,hlt,by go_num,by rw [HT.out];go_num,trivial⟩
   case measure=>simp [intOf];omega
  ·have hk':k=is.length:=by omega
   subst hk'
   rw [List.take_length] at ht ⊢
   go_wp2
   go_ret
   exact ⟨rfl,rfl⟩
end
end Go.Proofs.YtkkkkiejnmpdkaaGreatDoor.Arc
namespace Go.Proofs.YtkkkkiejnmpdkaaGreatDoor.Arc
open Go.RowKit
theorem EN.alloc {D:Nat→Prop} {w:World} {e c p:Nat} {Q:Nat→List ByteArray} {b:Nat} (H:EN D w e c p Q b) (o:Obj):EN D (w.alloc o) e c p Q b:=H.below ((Below.refl _ w).alloc (Nat.le_refl _) o)
section
variable {D:Nat→Prop} {w:World} {e c p:Nat} {Q:Nat→List ByteArray} {b:Nat}
theorem ints01 (w:World):IntsAt (w.alloc (.cells #[.int .i64 0,.int .i64 1] 3)) w.heap.size [0,1]:=heap_alloc_new w _
theorem ints_at {w:World} {n:Nat} (h:w.heap.size=n) (is:List Nat) (cs:Array Value) (hc:cs=(is.map (fun i:Nat=>Value.int .i64 (i:Nat))).toArray):IntsAt (w.alloc (.cells cs 3)) n is:=by
 subst h hc
 exact heap_alloc_new w _
theorem tot2 (Q:Nat→List ByteArray) (i j:Nat):total Q [i,j]=(Q i).length+(Q j).length:=by simp [total]
theorem len_any (H:EN D w e c p Q b) (hb:b≤900000):Calls Tryz.prog 174 #[.pointer (some ⟨e,0,none⟩)] w fun ee w'=>ee=.returned (.int .i64 ((Q 0).length+(Q 1).length:Nat))∧Below w.heap.size w w':=by
 have HE:Hid (EN D w e c p Q b):=H
 clear H
 go_enter Tryz.func174,Tryz.ntmps174
 go_wp2_with (first
  | (go_at_call 179;refine (blank_any HE.out).mono ?_;rintro ee w1 ⟨rfl,rfl⟩)
  | (go_at_call 187;refine (count_any (HE.out.alloc _) hb (ints01 _) (by simp) (by simp)).mono ?_;rintro ee w1 ⟨rfl,rfl⟩))
 go_ret
 exact ⟨by rw [tot2];rfl,(Below.refl _ _).alloc (Nat.le_refl _) _⟩
end
end Go.Proofs.YtkkkkiejnmpdkaaGreatDoor.Arc
