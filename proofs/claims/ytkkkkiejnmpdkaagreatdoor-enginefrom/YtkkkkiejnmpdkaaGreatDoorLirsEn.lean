/- Lirs En: En Ea Eb Ec Ed -/
import Derived.Test.YtkkkkiejnmpdkaaGreatDoorLs
import Derived.Test.YtkkkkiejnmpdkaaGreatDoorLirsIy
import Derived.Test.YtkkkkiejnmpdkaaGreatDoorLirsPu
import Derived.BigRegion
import Derived.Deep.RegionWith
import Derived.BigQuiet
import Derived.Deep.Cut
import Derived.Deep.CutRange
import Derived.ChangeKeysEq
import Derived.WalkSmall
namespace Go.Proofs.YtkkkkiejnmpdkaaGreatDoor.Lirs
open Go.RowKit
namespace Ls
open Go.Proofs.YtkkkkiejnmpdkaaGreatDoor.Ls
end Ls
structure Li where
 pr:Nat
 row:List Nat
 free:List Nat
 va:Nat→ByteArray
 n:Nat
abbrev LiAt (D:Nat→Prop) (w:World) (l:Li):Prop:=Ls.LA Value.string 234 152 D w l.pr l.row l.free l.va l.n
abbrev XAt (D:Nat→Prop) (w:World) (x:Nat) (m:ByteArray→Option Ix.Sp) (b:Nat):Prop:=Ix.IX 260 155 D w x m b
def enc (c:Nat) (R:Nat→Li) (x:Nat):Array Value :=
 #[.int .i64 (c:Nat),.pointer (some ⟨(R 0).pr,0,none⟩),.pointer (some ⟨(R 1).pr,0,none⟩),.pointer (some ⟨(R 2).pr,0,none⟩),.pointer (some ⟨x,0,none⟩)]
structure EnIn (D:Nat→Prop) (L:Nat→Nat) (w:World) (e c:Nat) (R:Nat→Li) (x:Nat) (m:ByteArray→Option Ix.Sp) (b:Nat):Prop where
 de:D e
 le:L e=5
 top:w.heap[e]? = some (.cells (enc c R x) 92 (0,0))
 li:∀ i,i<3→LiAt (fun k=>D k∧L k=i) w (R i)
 ix:XAt (fun k=>D k∧L k=4) w x m b
def nlab (L:Nat→Nat) (n i:Nat):Nat→Nat:=fun g=>if g<n then L g else i
theorem nlab_old {L:Nat→Nat} {n i g:Nat} (h:g<n):nlab L n i g=L g:=by simp [nlab,h]
theorem nlab_new {L:Nat→Nat} {n i g:Nat} (h:n≤g):nlab L n i g=i:=by simp [nlab,show ¬ g<n by omega]
section
variable {D D':Nat→Prop} {L:Nat→Nat} {w w':World} {e c:Nat} {R:Nat→Li} {x:Nat} {m m':ByteArray→Option Ix.Sp} {b b':Nat} {l:Li}
theorem EnIn.cells (H:EnIn D L w e c R x m b) :
 w.cell? ⟨e,0,none⟩=some (.int .i64 (c:Nat))∧w.frozen? ⟨e,0,none⟩=false∧w.cell? ⟨e,4,none⟩=some (.pointer (some ⟨x,0,none⟩)) ∧
 w.frozen? ⟨e,1,none⟩=false∧e<w.heap.size:=by
 have h:=H.top
 refine ⟨?_,frozen_of_block h,?_,frozen_of_block h,lt_of_block h⟩ <;> (rw [cell_of_block h];rfl)
theorem EnIn.four (H:EnIn D L w e c R x m b) :
 w.cell? ⟨e,1,none⟩=some (.pointer (some ⟨(R 0).pr,0,none⟩))∧w.cell? ⟨e,2,none⟩=some (.pointer (some ⟨(R 1).pr,0,none⟩))∧w.cell? ⟨e,3,none⟩=some (.pointer (some ⟨(R 2).pr,0,none⟩)):=by
 have h:=H.top
 refine ⟨?_,?_,?_⟩ <;> (rw [cell_of_block h];rfl)
theorem EnIn.row (H:EnIn D L w e c R x m b) {i:Nat} (hi:i<3):w.cell? ⟨e,1+i,none⟩=some (.pointer (some ⟨(R i).pr,0,none⟩)):=by
 obtain ⟨h0,h1,h2⟩:=H.four
 have:i=0∨i=1∨i=2:=by omega
 rcases this with e | e | e <;> subst e <;> assumption
theorem LiAt.old {D D':Nat→Prop} {w w':World} {l:Li} (h:LiAt D w l) (hk:Keeps D' w w') (hd:∀ k,k<w.heap.size→D k→¬ D' k):LiAt (fun k=>D k∧k<w.heap.size) w' l :=
 (Ls.LA.narrow h).kept hk (fun k e=>hd k e.2 e.1)
theorem XAt.old {D D':Nat→Prop} {w w':World} (h:XAt D w x m b) (hk:Keeps D' w w') (hd:∀ k,k<w.heap.size→D k→¬ D' k):XAt (fun k=>D k∧k<w.heap.size) w' x m b :=
 (Ix.IX.narrow h).kept hk (fun k e=>hd k e.2 e.1)
theorem EnIn.kept (H:EnIn D L w e c R x m b) (hk:Keeps D' w w') (hd:∀ k,k<w.heap.size→D k→¬ D' k):EnIn D L w' e c R x m b :=
 ⟨H.de,H.le,(hk.block e (lt_of_block H.top) (hd _ (lt_of_block H.top) H.de)).trans H.top,fun i hi=>((H.li i hi).old hk (fun k a h=>hd k a h.1)).wide (fun _ h=>h.1),(XAt.old H.ix hk (fun k a h=>hd k a h.1)).wide (fun _ h=>h.1)⟩
theorem EnIn.below (H:EnIn D L w e c R x m b) (hb:Below w.heap.size w w'):EnIn D L w' e c R x m b:=H.kept (D':=fun _=>False) (.of_below hb) (fun _ _ _ e=>e)
theorem EnIn.alloc' (H:EnIn D L w e c R x m b) (o:Obj):EnIn D L (w.alloc o) e c R x m b:=H.below ((Below.refl _ w).alloc (Nat.le_refl _) o)
theorem EnIn.drewI (H:EnIn D L w e c R x m b):EnIn D L w.drew e c R x m b:=H.kept (D':=fun _=>False) (Keeps.refl _ w).drew (fun _ _ _ e=>e)
theorem EnIn.wide (H:EnIn D L w e c R x m b) (hD:∀ k,k<w.heap.size→D k→D' k):EnIn D' L w e c R x m b :=
 ⟨hD _ (lt_of_block H.top) H.de,H.le,H.top,fun i hi=>(Ls.LA.narrow (H.li i hi)).wide (fun k h=>⟨hD k h.2 h.1.1,h.1.2⟩),(Ix.IX.narrow H.ix).wide (fun k h=>⟨hD k h.2 h.1.1,h.1.2⟩)⟩
def own (D:Nat→Prop) (L:Nat→Nat) (n i:Nat):Nat→Prop:=fun k=>(D k∧L k=i)∨n≤k
theorem own_new (D:Nat→Prop) (L:Nat→Nat) (n i:Nat):∀ k,n≤k→own D L n i k:=fun _ h=>.inr h
theorem EnIn.list (H:EnIn D L w e c R x m b) {i:Nat} (hi:i<3):LiAt (own D L w.heap.size i) w (R i):=Ls.LA.wide (H.li i hi) (fun _ h=>.inl h)
theorem EnIn.index (H:EnIn D L w e c R x m b):XAt (own D L w.heap.size 4) w x m b:=Ix.IX.wide H.ix (fun _ h=>.inl h)
theorem nlab_own (hD:∀ k,w.heap.size≤k→D k) {i k:Nat} (h:own D L w.heap.size i k):D k∧nlab L w.heap.size i k=i:=by
 rcases Nat.lt_or_ge k w.heap.size with hk | hk
 ·rw [nlab_old hk]
  rcases h with h | h
  ·exact h
  ·omega
 ·exact ⟨hD k hk,nlab_new hk⟩
theorem own_not {i j k:Nat} (hij:j≠i) (hk:k<w.heap.size) (h:D k∧L k=j):¬ own D L w.heap.size i k:=by
 rintro (h2 | h2)
 ·exact hij (h.2.symm.trans h2.2)
 ·omega
theorem EnIn.putL (H:EnIn D L w e c R x m b) (hD:∀ k,w.heap.size≤k→D k) {i:Nat} (hi:i<3) (hk:Keeps (own D L w.heap.size i) w w') (hl:LiAt (own D L w.heap.size i) w' l) (hp:l.pr=(R i).pr) :
 EnIn D (nlab L w.heap.size i) w' e c (fun j=>if j=i then l else R j) x m b:=by
 have he:=lt_of_block H.top
 refine ⟨H.de,by rw [nlab_old he];exact H.le,?_,fun j hj=>?_,(XAt.old H.ix hk (fun k a h=>own_not (by omega) a h)).wide (fun k h=>⟨h.1.1,by rw [nlab_old h.2];exact h.1.2⟩)⟩
 ·rw [hk.block e he (own_not (j:=5) (by omega) he ⟨H.de,H.le⟩),H.top]
  have:enc c (fun j=>if j=i then l else R j) x=enc c R x:=by
   have:i=0∨i=1∨i=2:=by omega
   rcases this with e | e | e <;> subst e <;> simp [enc,hp]
  rw [this]
 ·by_cases hji:j=i
  ·subst hji
   rw [if_pos rfl]
   exact Ls.LA.wide hl (fun k h=>nlab_own hD h)
  ·rw [if_neg hji]
   exact ((H.li j hj).old hk (fun k a h=>own_not hji a h)).wide (fun k h=>⟨h.1.1,by rw [nlab_old h.2];exact h.1.2⟩)
theorem EnIn.putX (H:EnIn D L w e c R x m b) (hD:∀ k,w.heap.size≤k→D k) (hk:Keeps (own D L w.heap.size 4) w w') (hx:XAt (own D L w.heap.size 4) w' x m' b') :
 EnIn D (nlab L w.heap.size 4) w' e c R x m' b':=by
 have he:=lt_of_block H.top
 refine ⟨H.de,by rw [nlab_old he];exact H.le,?_,fun j hj=>?_,Ix.IX.wide hx (fun k h=>nlab_own hD h)⟩
 ·rw [hk.block e he (own_not (j:=5) (by omega) he ⟨H.de,H.le⟩),H.top]
 ·exact ((H.li j hj).old hk (fun k a h=>own_not (by omega) a h)).wide (fun k h=>⟨h.1.1,by rw [nlab_old h.2];exact h.1.2⟩)
theorem own_keeps (hD:∀ k,w.heap.size≤k→D k) {i:Nat} (hk:Keeps (own D L w.heap.size i) w w'):Keeps D w w':=hk.mono (fun _ _ h=>(nlab_own (w:=w) hD h).1)
end
def trip (sp:ByteArray→Nat→Nat) (k:ByteArray):Ix.Sp:=(sp k 0,sp k 1,sp k 2)
def spOf (sp:ByteArray→Nat→Nat) (k:ByteArray):Option Ix.Sp:=if sp k 0=0∧sp k 1=0∧sp k 2=0 then none else some (trip sp k)
def spu (sp:ByteArray→Nat→Nat) (k:ByteArray) (i h:Nat):ByteArray→Nat→Nat:=fun k' j=>if k'=k∧j=i then h else sp k' j
theorem spu_same (sp:ByteArray→Nat→Nat) (k:ByteArray) (i h:Nat):spu sp k i h k i=h:=by simp [spu]
theorem spu_row {sp:ByteArray→Nat→Nat} {k:ByteArray} {i h:Nat} {k':ByteArray} {j:Nat} (e:j≠i):spu sp k i h k' j=sp k' j:=by simp [spu,e]
theorem spu_key {sp:ByteArray→Nat→Nat} {k:ByteArray} {i h:Nat} {k':ByteArray} {j:Nat} (e:k'≠k):spu sp k i h k' j=sp k' j:=by simp [spu,e]
theorem spOf_key {sp:ByteArray→Nat→Nat} {k:ByteArray} {i h:Nat} {k':ByteArray} (e:k'≠k):spOf (spu sp k i h) k'=spOf sp k':=by
 unfold spOf trip
 simp only [spu_key e]
theorem spOf_get (sp:ByteArray→Nat→Nat) (k:ByteArray):(spOf sp k).getD (0,0,0)=trip sp k:=by
 unfold spOf
 split
 ·rename_i h
  obtain ⟨h0,h1,h2⟩:=h
  simp [trip,h0,h1,h2]
 ·rfl
structure Rel (R:Nat→Li) (m:ByteArray→Option Ix.Sp) (sp:ByteArray→Nat→Nat) (Q:Nat→List ByteArray) (b:Nat):Prop where
 keys:∀ i,i<3→(R i).row.map (R i).va=Q i
 spot:∀ k,m k=spOf sp k
 at_:∀ k i,i<3→sp k i≠0→sp k i∈(R i).row∧(R i).va (sp k i)=k
 un:∀ i,i<3→∀ h,h∈(R i).row→sp ((R i).va h) i=h∧h≠0
 few:∀ i,i<3→(R i).n≤b
 size:∀ i,i<3→∀ k∈Q i,k.size≤1000
 nodup:∀ i,i<3→(R i).row.Nodup
section
variable {R:Nat→Li} {m:ByteArray→Option Ix.Sp} {sp:ByteArray→Nat→Nat} {Q:Nat→List ByteArray} {b:Nat}
theorem Rel.zero (H:Rel R m sp Q b) {k:ByteArray} {i:Nat} (hi:i<3):sp k i=0↔k∉Q i:=by
 constructor
 ·intro h hk
  rw [← H.keys i hi,List.mem_map] at hk
  obtain ⟨a,ha,hv⟩:=hk
  have:=H.un i hi a ha
  rw [hv,h] at this
  exact this.2 this.1.symm
 ·intro h
  by_cases e:sp k i=0
  ·exact e
  ·obtain ⟨h1,h2⟩:=H.at_ k i hi e
   exact absurd (by rw [← H.keys i hi];exact List.mem_map.2 ⟨_,h1,h2⟩) h
theorem Rel.none (H:Rel R m sp Q b) {k:ByteArray}:m k=Option.none↔∀ i,i<3→k∉Q i:=by
 rw [H.spot k]
 unfold spOf
 constructor
 ·intro h i hi
  split at h
  ·rename_i h0
   have:i=0∨i=1∨i=2:=by omega
   rcases this with e | e | e <;> subst e
   ·exact (H.zero (by omega)).1 h0.1
   ·exact (H.zero (by omega)).1 h0.2.1
   ·exact (H.zero (by omega)).1 h0.2.2
  ·cases h
 ·intro h
  rw [if_pos ⟨(H.zero (by omega)).2 (h 0 (by omega)),(H.zero (by omega)).2 (h 1 (by omega)),(H.zero (by omega)).2 (h 2 (by omega))⟩]
theorem Rel.lay (H:Rel R m sp Q b) {k:ByteArray} {i:Nat} (hi:i<3) (hn:sp k i=0) (hs:k.size≤1000) (hh:Ls.handOf (R i).free (R i).n∉(R i).row) (h0:Ls.handOf (R i).free (R i).n≠0) (hb:Ls.moreOf (R i).free (R i).n≤b) :
 Rel (fun j=>if j=i then { R i with row:=(R i).row++[Ls.handOf (R i).free (R i).n],free:=(R i).free.tail,va:=Ls.upd (R i).va (Ls.handOf (R i).free (R i).n) k,n:=Ls.moreOf (R i).free (R i).n } else R j)
  (Ix.put m k (.some (trip (spu sp k i (Ls.handOf (R i).free (R i).n)) k))) (spu sp k i (Ls.handOf (R i).free (R i).n)) (fun j=>if j=i then Q j++[k] else Q j) b:=by
 obtain ⟨hd,hhd⟩:∃ hd,hd=Ls.handOf (R i).free (R i).n:=⟨_,rfl⟩
 rw [← hhd] at hh h0 ⊢
 have hno:k∉Q i:=(H.zero hi).1 hn
 have hva:∀ a∈(R i).row,Ls.upd (R i).va hd k a=(R i).va a:=fun a ha=>Ls.upd_far _ _ (by rintro rfl;exact hh ha)
 have hkey:∀ a∈(R i).row,(R i).va a≠k:=fun a ha e=>hno (by rw [← H.keys i hi];exact List.mem_map.2 ⟨a,ha,e⟩)
 constructor
 ·intro j hj
  by_cases e:j=i
  ·subst e
   simp only [if_true,List.map_append,List.map_cons,List.map_nil,Ls.upd_same]
   rw [List.map_congr_left hva,H.keys j hj]
  ·simp only [if_neg e]
   exact H.keys j hj
 ·intro k'
  by_cases hk:k'=k
  ·subst hk
   rw [Ix.put_same]
   unfold spOf
   rw [if_neg]
   rintro ⟨e0,e1,e2⟩
   have:spu sp k' i hd k' i=0:=by
    have:i=0∨i=1∨i=2:=by omega
    rcases this with e | e | e <;> subst e <;> assumption
   rw [spu_same] at this
   exact h0 this
  ·rw [Ix.put_far hk,spOf_key hk,H.spot]
 ·intro k' j hj hne
  by_cases e:j=i
  ·subst e
   simp only [if_true]
   by_cases hk:k'=k
   ·subst hk
    rw [spu_same]
    exact ⟨by simp,Ls.upd_same _ _ _⟩
   ·rw [spu_key hk] at hne ⊢
    obtain ⟨h1,h2⟩:=H.at_ k' j hj hne
    exact ⟨List.mem_append_left _ h1,by rw [hva _ h1];exact h2⟩
  ·rw [spu_row e] at hne ⊢
   simp only [if_neg e]
   exact H.at_ k' j hj hne
 ·intro j hj h hm
  by_cases e:j=i
  ·subst e
   simp only [if_true,List.mem_append,List.mem_singleton] at hm ⊢
   rcases hm with hm | hm
   ·rw [hva h hm,spu_key (hkey h hm)]
    exact H.un j hj h hm
   ·subst hm
    rw [Ls.upd_same,spu_same]
    exact ⟨rfl,h0⟩
  ·simp only [if_neg e] at hm ⊢
   rw [spu_row e]
   exact H.un j hj h hm
 ·intro j hj
  by_cases e:j=i
  ·subst e
   simp only [if_true]
   exact hb
  ·simp only [if_neg e]
   exact H.few j hj
 ·intro j hj k' hk'
  by_cases e:j=i
  ·subst e
   simp only [if_true,List.mem_append,List.mem_singleton] at hk'
   rcases hk' with h | h
   ·exact H.size j hj k' h
   ·subst h;exact hs
  ·simp only [if_neg e] at hk'
   exact H.size j hj k' hk'
 ·intro j hj
  by_cases e:j=i
  ·subst e
   simp only [if_true]
   rw [List.nodup_append]
   refine ⟨H.nodup j hj,by simp,?_⟩
   intro a ha b' hb'
   simp at hb'
   subst hb'
   rintro rfl
   exact hh ha
  ·simp only [if_neg e]
   exact H.nodup j hj
theorem Rel.split (H:Rel R m sp Q b) {k:ByteArray} {i:Nat} (hi:i<3) (hn:sp k i≠0) {l r:List Nat} (hr:(R i).row=l++sp k i::r) :
 (∀ a∈l++r,(R i).va a≠k∧a≠sp k i∧a∈(R i).row)∧(l++r).Nodup∧A.cut (Q i) k=(l++r).map (R i).va:=by
 obtain ⟨hin,hv⟩:=H.at_ k i hi hn
 have hnd:=H.nodup i hi
 rw [hr] at hnd
 have hnd2:=(List.perm_middle.nodup_iff.1 hnd)
 rw [List.nodup_cons] at hnd2
 have hne:∀ a∈l++r,a≠sp k i:=fun a ha e=>hnd2.1 (e ▸ ha)
 have hmem:∀ a∈l++r,a∈(R i).row:=fun a ha=>by rw [hr];simp at ha ⊢;rcases ha with h | h <;> simp [h]
 have hkey:∀ a∈l++r,(R i).va a≠k:=fun a ha e=>by
  have:=(H.un i hi a (hmem a ha)).1
  rw [e] at this
  exact hne a ha this.symm
 refine ⟨fun a ha=>⟨hkey a ha,hne a ha,hmem a ha⟩,hnd2.2,?_⟩
 rw [← H.keys i hi,hr]
 unfold A.cut
 rw [List.map_append,List.map_append,List.map_cons,List.filter_append,List.filter_cons,if_neg (by simp [hv])]
 rw [List.filter_eq_self.2,List.filter_eq_self.2]
 ·intro y hy
  obtain ⟨a,ha,rfl⟩:=List.mem_map.1 hy
  simpa using hkey a (by simp [ha])
 ·intro y hy
  obtain ⟨a,ha,rfl⟩:=List.mem_map.1 hy
  simpa using hkey a (by simp [ha])
theorem Rel.touch (H:Rel R m sp Q b) {k:ByteArray} {i:Nat} (hi:i<3) (hn:sp k i≠0) {l r:List Nat} (hr:(R i).row=l++sp k i::r) :
 Rel (fun j=>if j=i then { R i with row:=l++r++[sp k i] } else R j) m sp (fun j=>if j=i then A.cut (Q j) k++[k] else Q j) b:=by
 obtain ⟨hs,hnd,hc⟩:=H.split hi hn hr
 obtain ⟨hin,hv⟩:=H.at_ k i hi hn
 have hmem:∀ a,a∈l++r++[sp k i]↔a∈(R i).row:=by
  intro a
  rw [hr]
  simp only [List.mem_append,List.mem_cons,List.not_mem_nil,or_false]
  constructor
  ·rintro ((h | h) | h)
   ·exact .inl h
   ·exact .inr (.inr h)
   ·exact .inr (.inl h)
  ·rintro (h | h | h)
   ·exact .inl (.inl h)
   ·exact .inr h
   ·exact .inl (.inr h)
 constructor
 ·intro j hj
  by_cases e:j=i
  ·subst e
   simp only [if_true]
   rw [List.map_append,hc,List.map_cons,List.map_nil,hv]
  ·simp only [if_neg e]
   exact H.keys j hj
 ·exact H.spot
 ·intro k' j hj hne
  by_cases e:j=i
  ·subst e
   simp only [if_true]
   rw [hmem]
   exact H.at_ k' j hj hne
  ·simp only [if_neg e]
   exact H.at_ k' j hj hne
 ·intro j hj h hm
  by_cases e:j=i
  ·subst e
   simp only [if_true] at hm ⊢
   rw [hmem] at hm
   exact H.un j hj h hm
  ·simp only [if_neg e] at hm ⊢
   exact H.un j hj h hm
 ·intro j hj
  by_cases e:j=i
  ·subst e
   simp only [if_true]
   exact H.few j hj
  ·simp only [if_neg e]
   exact H.few j hj
 ·intro j hj k' hk'
  by_cases e:j=i
  ·subst e
   simp only [if_true,List.mem_append,List.mem_singleton] at hk'
   refine H.size j hj k' ?_
   rcases hk' with h | h
   ·exact (List.mem_filter.1 h).1
   ·rw [h,← H.keys j hj]
    exact List.mem_map.2 ⟨_,hin,hv⟩
  ·simp only [if_neg e] at hk'
   exact H.size j hj k' hk'
 ·intro j hj
  by_cases e:j=i
  ·subst e
   simp only [if_true]
   rw [List.nodup_append]
   refine ⟨hnd,by simp,?_⟩
   intro a ha b' hb'
   simp at hb'
   subst hb'
   exact (hs a ha).2.1
  ·simp only [if_neg e]
   exact H.nodup j hj
theorem Rel.leave (H:Rel R m sp Q b) {k:ByteArray} {i:Nat} (hi:i<3) (hn:sp k i≠0) {l r:List Nat} (hr:(R i).row=l++sp k i::r) :
 Rel (fun j=>if j=i then { R i with row:=l++r,free:=sp k i::(R i).free,va:=Ls.upd (R i).va (sp k i) ⟨#[]⟩ } else R j) (Ix.put m k (spOf (spu sp k i 0) k)) (spu sp k i 0) (fun j=>if j=i then A.cut (Q j) k else Q j) b:=by
 obtain ⟨hs,hnd,hc⟩:=H.split hi hn hr
 have hva:∀ a∈l++r,Ls.upd (R i).va (sp k i) ⟨#[]⟩ a=(R i).va a:=fun a ha=>Ls.upd_far _ _ (hs a ha).2.1
 constructor
 ·intro j hj
  by_cases e:j=i
  ·subst e
   simp only [if_true]
   rw [List.map_congr_left hva,hc]
  ·simp only [if_neg e]
   exact H.keys j hj
 ·intro k'
  by_cases hk:k'=k
  ·subst hk
   rw [Ix.put_same]
  ·rw [Ix.put_far hk,spOf_key hk,H.spot]
 ·intro k' j hj hne
  by_cases e:j=i
  ·subst e
   simp only [if_true]
   by_cases hk:k'=k
   ·subst hk
    rw [spu_same] at hne
    exact absurd rfl hne
   ·rw [spu_key hk] at hne ⊢
    obtain ⟨h1,h2⟩:=H.at_ k' j hj hne
    have hx:sp k' j∈l++r:=by
     rw [hr] at h1
     simp only [List.mem_append,List.mem_cons] at h1 ⊢
     rcases h1 with h | h | h
     ·exact .inl h
     ·rw [h] at h2
      exact absurd (h2.symm.trans (H.at_ k j hj hn).2) hk
     ·exact .inr h
    exact ⟨hx,by rw [hva _ hx];exact h2⟩
  ·rw [spu_row e] at hne ⊢
   simp only [if_neg e]
   exact H.at_ k' j hj hne
 ·intro j hj h hm
  by_cases e:j=i
  ·subst e
   simp only [if_true] at hm ⊢
   rw [hva h hm,spu_key (hs h hm).1]
   exact H.un j hj h (hs h hm).2.2
  ·simp only [if_neg e] at hm ⊢
   rw [spu_row e]
   exact H.un j hj h hm
 ·intro j hj
  by_cases e:j=i
  ·subst e
   simp only [if_true]
   exact H.few j hj
  ·simp only [if_neg e]
   exact H.few j hj
 ·intro j hj k' hk'
  by_cases e:j=i
  ·subst e
   simp only [if_true] at hk'
   exact H.size j hj k' (List.mem_filter.1 hk').1
  ·simp only [if_neg e] at hk'
   exact H.size j hj k' hk'
 ·intro j hj
  by_cases e:j=i
  ·subst e
   simp only [if_true]
   exact hnd
  ·simp only [if_neg e]
   exact H.nodup j hj
end
theorem nodup_len:∀ {l m:List ByteArray},l.Nodup→(∀ k∈l,k∈m)→l.length≤m.length
 | [],_,_,_=>Nat.zero_le _
 | x::l,m,hn,hs=>by
   rw [List.nodup_cons] at hn
   obtain ⟨a,b,rfl⟩:=List.append_of_mem (hs x (by simp))
   have:=nodup_len (l:=l) (m:=a++b) hn.2 (fun k hk=>by
    have h1:=hs k (by simp [hk])
    simp only [List.mem_append,List.mem_cons] at h1 ⊢
    rcases h1 with h1 | h1 | h1
    ·exact .inl h1
    ·subst h1;exact absurd hk hn.1
    ·exact .inr h1)
   simp at this ⊢
   omega
theorem Rel.fits {R:Nat→Li} {m:ByteArray→Option Ix.Sp} {sp:ByteArray→Nat→Nat} {Q:Nat→List ByteArray} {b:Nat} (H:Rel R m sp Q b) (l:List ByteArray) (hn:l.Nodup) (hs:∀ k∈l,m k≠Option.none):l.length≤(Q 0).length+(Q 1).length+(Q 2).length:=by
 have:=nodup_len (m:=Q 0++Q 1++Q 2) hn (fun k hk=>by
  have h1:=hs k hk
  rcases Classical.em (k∈Q 0++Q 1++Q 2) with h2 | h2
  ·exact h2
  ·refine absurd (H.none.2 (fun i hi hm=>h2 ?_)) h1
   have:i=0∨i=1∨i=2:=by omega
   rcases this with e | e | e <;> subst e <;> simp [hm])
 simp at this
 omega
def EN (D:Nat→Prop) (w:World) (e c:Nat) (Q:Nat→List ByteArray) (b:Nat):Prop:=∃ L R x m sp,EnIn D L w e c R x m b∧Rel R m sp Q b
section
variable {D D':Nat→Prop} {w w':World} {e c:Nat} {Q:Nat→List ByteArray} {b:Nat}
theorem EN.below (H:EN D w e c Q b) (hb:Below w.heap.size w w'):EN D w' e c Q b:=by
 obtain ⟨L,R,x,m,sp,h,r⟩:=H;exact ⟨L,R,x,m,sp,h.below hb,r⟩
theorem EN.cells (H:EN D w e c Q b):w.cell? ⟨e,0,none⟩=some (.int .i64 (c:Nat))∧w.frozen? ⟨e,0,none⟩=false∧w.frozen? ⟨e,1,none⟩=false∧e<w.heap.size∧∃ x,w.cell? ⟨e,4,none⟩=some (.pointer (some ⟨x,0,none⟩)):=by
 obtain ⟨L,R,x,m,sp,h,r⟩:=H
 obtain ⟨h0,h1,h2,h3,h4⟩:=h.cells
 exact ⟨h0,h1,h3,h4,x,h2⟩
theorem EN.congr {Q':Nat→List ByteArray} (H:EN D w e c Q b) (h:∀ i,i<3→Q' i=Q i):EN D w e c Q' b:=by
 obtain ⟨L,R,x,m,sp,h1,r⟩:=H
 exact ⟨L,R,x,m,sp,h1,fun i hi=>(r.keys i hi).trans (h i hi).symm,r.spot,r.at_,r.un,r.few,fun i hi k hk=>r.size i hi k (by rw [← h i hi];exact hk),r.nodup⟩
theorem EN.size (H:EN D w e c Q b) {i:Nat} (hi:i<3) {k:ByteArray} (hk:k∈Q i):k.size≤1000:=by
 obtain ⟨L,R,x,m,sp,h,r⟩:=H;exact r.size i hi k hk
end
end Go.Proofs.YtkkkkiejnmpdkaaGreatDoor.Lirs
namespace Go.Proofs.YtkkkkiejnmpdkaaGreatDoor.Lirs.Ls
open Go.Proofs.YtkkkkiejnmpdkaaGreatDoor.Ls
open Go.RowKit
section
variable {B:Nat→Prop} {w:World} {p:Nat} {row free:List Nat} {va:Nat→ByteArray} {n:Nat}
theorem toBack_no (H:LA Value.string 234 152 B w p row free va n) (hn:n≤1000000) :
 Calls Tryz.prog 270 #[.pointer (some ⟨p,0,none⟩),.int .i64 0] w fun e w'=>e=.returned (.bool false)∧w'=w:=by
 obtain ⟨s,H,R,rfl,rfl⟩:=H
 have hh:=has_any H 0 hn
 have h0:s.has 0=false:=by simp [St.has]
 rw [h0] at hh
 clear H R h0
 go_enter Tryz.func270,Tryz.ntmps270
 go_wp2_with (go_at_call 214;refine hh.mono ?_;rintro e w1 ⟨rfl,rfl⟩)
 go_ret
 exact ⟨rfl,rfl⟩
theorem remove_no (H:LA Value.string 234 152 B w p row free va n) (hn:n≤1000000) :
 Calls Tryz.prog 202 #[.pointer (some ⟨p,0,none⟩),.int .i64 0] w fun e w'=>e=.returned (.tuple #[.string ⟨#[]⟩,.bool false])∧w'=w:=by
 obtain ⟨s,H,R,rfl,rfl⟩:=H
 have hh:=has_any H 0 hn
 have h0:s.has 0=false:=by simp [St.has]
 rw [h0] at hh
 clear H R h0
 go_enter Tryz.func202,Tryz.ntmps202
 go_wp2_with (go_at_call 214;refine hh.mono ?_;rintro e w1 ⟨rfl,rfl⟩)
 go_ret2
 exact ⟨rfl,rfl⟩
end
end Go.Proofs.YtkkkkiejnmpdkaaGreatDoor.Lirs.Ls
namespace Go.Proofs.YtkkkkiejnmpdkaaGreatDoor.Lirs
open Go.RowKit
theorem below_trans {a b c:World} (h:Below a.heap.size a b) (k:Below b.heap.size b c):Below a.heap.size a c :=
 ((Keeps.of_below (D:=fun _=>False) h).trans (Keeps.of_below k)).below (Nat.le_refl _) (fun _ e=>e.elim)
theorem undrew {w w':World} (h:Below w.drew.heap.size w.drew w'):Below w.heap.size w w':=⟨h.os,h.tape,h.output,h.size,h.block⟩
theorem split_mem {l:List Nat} {h:Nat} (hm:h∈l):∃ a r,l=a++h::r:=by
 obtain ⟨a,r,e⟩:=List.append_of_mem hm
 exact ⟨a,r,e⟩
section
variable {D:Nat→Prop} {w:World} {e c:Nat} {Q:Nat→List ByteArray} {b:Nat}
theorem ghost_any (v:Ix.Sp):Calls Tryz.prog 249 #[Ix.V v] w fun ee w'=>ee=.returned (.bool (!decide (v.2.2=0)))∧Below w.heap.size w w':=by
 go_enter Tryz.func249,Tryz.ntmps249
 go_wp2
 go_ret
 refine ⟨?_,(Below.refl _ w).alloc (Nat.le_refl _) _⟩
 by_cases h1:v.2.2=0
 ·simp [h1]
 ·have e2:((v.2.2:Nat):Int)≠0:=by omega
  simp [h1]
theorem cold_any (v:Ix.Sp):Calls Tryz.prog 266 #[Ix.V v] w fun ee w'=>ee=.returned (.bool (!decide (v.2.1=0)))∧Below w.heap.size w w':=by
 go_enter Tryz.func266,Tryz.ntmps266
 go_wp2
 go_ret
 refine ⟨?_,(Below.refl _ w).alloc (Nat.le_refl _) _⟩
 by_cases h1:v.2.1=0
 ·simp [h1]
 ·have e2:((v.2.1:Nat):Int)≠0:=by omega
  simp [h1]
theorem spotAt_new (w:World) (v:Ix.Sp):Ix.SpotAt (w.alloc (.cells #[.int .i64 (v.1:Nat),.int .i64 (v.2.1:Nat),.int .i64 (v.2.2:Nat)] 89)) w.heap.size v:=heap_alloc_new w _
theorem hot_any (v:Ix.Sp):Calls Tryz.prog 251 #[Ix.V v] w fun ee w'=>ee=.returned (.bool (decide (v.2.1=0)&&decide (v.2.2=0)))∧Below w.heap.size w w':=by
 have HS:=spotAt_new w v
 have hb0:Hid (Below w.heap.size w (w.alloc (.cells #[.int .i64 (v.1:Nat),.int .i64 (v.2.1:Nat),.int .i64 (v.2.2:Nat)] 89))):=(Below.refl _ w).alloc (Nat.le_refl _) _
 have HSq:Hid (Ix.SpotAt (w.alloc (.cells #[.int .i64 (v.1:Nat),.int .i64 (v.2.1:Nat),.int .i64 (v.2.2:Nat)] 89)) w.heap.size v):=HS
 obtain ⟨y0,y1,y2,-⟩:=HS.cells
 clear HS
 by_cases h1:v.2.1=0
 ·by_cases h2:v.2.2=0
  ·have hc:∀ W:World,Calls Tryz.prog 266 #[Ix.V v] W fun ee w'=>ee=.returned (.bool false)∧Below W.heap.size W w':=fun W=>by have:=cold_any (w:=W) v;rwa [show (!decide (v.2.1=0))=false by simp [h1]] at this
   have hg:∀ W:World,Calls Tryz.prog 249 #[Ix.V v] W fun ee w'=>ee=.returned (.bool false)∧Below W.heap.size W w':=fun W=>by have:=ghost_any (w:=W) v;rwa [show (!decide (v.2.2=0))=false by simp [h2]] at this
   rw [show (decide (v.2.1=0)&&decide (v.2.2=0))=true by simp [h1,h2]]
   clear h1 h2
   go_enter Tryz.func251,Tryz.ntmps251
   go_wp2_with (first
    | (go_at_call 266;refine Calls.mono (hc _) ?_;rintro ee w1 ⟨rfl,hb1⟩;have HS1:Hid (Ix.SpotAt w1 w.heap.size v):=HSq.out.below hb1;obtain ⟨z0,z1,z2,-⟩:=HS1.out.cells;clear y0 y1 y2)
    | (go_at_call 249;refine Calls.mono (hg _) ?_;rintro ee w2 ⟨rfl,hb2⟩))
   go_ret
   exact ⟨rfl,below_trans hb0.out (below_trans hb1 hb2)⟩
  ·have hc:∀ W:World,Calls Tryz.prog 266 #[Ix.V v] W fun ee w'=>ee=.returned (.bool false)∧Below W.heap.size W w':=fun W=>by have:=cold_any (w:=W) v;rwa [show (!decide (v.2.1=0))=false by simp [h1]] at this
   have hg:∀ W:World,Calls Tryz.prog 249 #[Ix.V v] W fun ee w'=>ee=.returned (.bool true)∧Below W.heap.size W w':=fun W=>by have:=ghost_any (w:=W) v;rwa [show (!decide (v.2.2=0))=true by simp [h2]] at this
   rw [show (decide (v.2.1=0)&&decide (v.2.2=0))=false by simp [h2]]
   clear h1 h2
   go_enter Tryz.func251,Tryz.ntmps251
   go_wp2_with (first
    | (go_at_call 266;refine Calls.mono (hc _) ?_;rintro ee w1 ⟨rfl,hb1⟩;have HS1:Hid (Ix.SpotAt w1 w.heap.size v):=HSq.out.below hb1;obtain ⟨z0,z1,z2,-⟩:=HS1.out.cells;clear y0 y1 y2)
    | (go_at_call 249;refine Calls.mono (hg _) ?_;rintro ee w2 ⟨rfl,hb2⟩))
   go_ret
   exact ⟨rfl,below_trans hb0.out (below_trans hb1 hb2)⟩
 ·have hc:∀ W:World,Calls Tryz.prog 266 #[Ix.V v] W fun ee w'=>ee=.returned (.bool true)∧Below W.heap.size W w':=fun W=>by have:=cold_any (w:=W) v;rwa [show (!decide (v.2.1=0))=true by simp [h1]] at this
  rw [show (decide (v.2.1=0)&&decide (v.2.2=0))=false by simp [h1]]
  clear h1
  go_enter Tryz.func251,Tryz.ntmps251
  go_wp2_with (go_at_call 266;refine Calls.mono (hc _) ?_;rintro ee w1 ⟨rfl,hb1⟩)
  go_ret
  exact ⟨rfl,below_trans hb0.out hb1⟩
theorem zero_cells {w w1:World} (hb1:Below (w.alloc (.cells #[.int .i64 0,.int .i64 0,.int .i64 0] 89)).heap.size (w.alloc (.cells #[.int .i64 0,.int .i64 0,.int .i64 0] 89)) w1) :
 (w1.cell? ⟨w.heap.size,0,none⟩=some (.int .i64 0)∧w1.cell? ⟨w.heap.size,1,none⟩=some (.int .i64 0)∧w1.cell? ⟨w.heap.size,2,none⟩=some (.int .i64 0)) ∧
 (w1.frozen? ⟨w.heap.size,0,none⟩=false∧w1.frozen? ⟨w.heap.size,1,none⟩=false∧w1.frozen? ⟨w.heap.size,2,none⟩=false)∧w.heap.size<w1.heap.size:=by
 have h:=(hb1.block w.heap.size (by rw [World.size_alloc];omega)).trans (Ix.zero_new w)
 refine ⟨⟨?_,?_,?_⟩,⟨frozen_of_block h,frozen_of_block h,frozen_of_block h⟩,lt_of_block h⟩ <;> (rw [cell_of_block h];rfl)
theorem spot_raw {L:Nat→Nat} {R:Nat→Li} {x:Nat} {m:ByteArray→Option Ix.Sp} {sp:ByteArray→Nat→Nat} (H:EnIn D L w e c R x m b) (r:Rel R m sp Q b) (hb:b≤900000) (k:ByteArray) (hk:k.size≤1000) :
 Calls Tryz.prog 250 #[.pointer (some ⟨e,0,none⟩),.string k] w fun ee w'=>ee=.returned (Ix.V (trip sp k))∧Below w.heap.size w w':=by
 have hg:=Ix.get_any (H.alloc' (.cells #[.int .i64 0,.int .i64 0,.int .i64 0] 89)).index (by omega) k (by unfold maxLen;omega)
 rw [r.spot k,spOf_get] at hg
 have hb0:Hid (Below w.heap.size w (w.alloc (.cells #[.int .i64 0,.int .i64 0,.int .i64 0] 89))):=(Below.refl _ w).alloc (Nat.le_refl _) _
 obtain ⟨c0,c1,c6,f1,heo⟩:=H.cells
 clear H r
 generalize trip sp k=v at *
 generalize (spOf sp k).isSome=bo at *
 go_enter Tryz.func250,Tryz.ntmps250
 go_wp2_with (go_at_call 248;refine hg.mono ?_;rintro ee w1 ⟨rfl,hb1⟩;obtain ⟨⟨z0,z1,z2⟩,⟨y0,y1,y2⟩,zl⟩:=zero_cells hb1)
 exact bodyPost_ret (v:=Ix.V v) (by simp [results,Tryz.results250,go_sem,z0,z1,z2,zl]) rfl ⟨rfl,((((((Keeps.of_below (D:=fun k=>w.heap.size≤k) (below_trans hb0.out hb1)).setCell (Nat.le_refl _) _).setCell (Nat.le_refl _) _).setCell (Nat.le_refl _) _)).alloc _).below (Nat.le_refl _) (fun _ h=>h)⟩
theorem spot_any (H:EN D w e c Q b) (hb:b≤900000) (k:ByteArray) (hk:k.size≤1000) :
 ∃ v:Ix.Sp,((v.1=0↔k∉Q 0)∧(v.2.1=0↔k∉Q 1)∧(v.2.2=0↔k∉Q 2))∧Calls Tryz.prog 250 #[.pointer (some ⟨e,0,none⟩),.string k] w fun ee w'=>ee=.returned (Ix.V v)∧Below w.heap.size w w':=by
 obtain ⟨L,R,x,m,sp,h,r⟩:=H
 exact ⟨trip sp k,⟨r.zero (by omega),r.zero (by omega),r.zero (by omega)⟩,spot_raw h r hb k hk⟩
end
end Go.Proofs.YtkkkkiejnmpdkaaGreatDoor.Lirs
namespace Go.Proofs.YtkkkkiejnmpdkaaGreatDoor.Lirs
open Go.RowKit
def layAt (Q:Nat→List ByteArray) (k:ByteArray) (i:Nat):Nat→List ByteArray:=fun j=>if j=i then A.cut (Q j) k++[k] else Q j
def cutAt (Q:Nat→List ByteArray) (k:ByteArray) (i:Nat):Nat→List ByteArray:=fun j=>if j=i then A.cut (Q j) k else Q j
section
variable {D:Nat→Prop} {w:World} {e c:Nat} {Q:Nat→List ByteArray} {b:Nat}
theorem hand_at {W:World} {n:Nat} {sp:ByteArray→Nat→Nat} {k:ByteArray} (h:Ix.SpotAt W n (trip sp k)) {i:Nat} (hi:i<3):W.cell? ⟨n,i,none⟩=some (.int .i64 (sp k i:Nat)):=by
 obtain ⟨h0,h1,h2,-⟩:=h.cells
 have:i=0∨i=1∨i=2:=by omega
 rcases this with e | e | e <;> subst e <;> assumption
theorem hand_fz {W:World} {n:Nat} {v:Ix.Sp} (h:Ix.SpotAt W n v) (i:Nat):W.frozen? ⟨n,i,none⟩=false:=frozen_of_block h
theorem hand_set {W:World} {n:Nat} {sp:ByteArray→Nat→Nat} {k:ByteArray} (h:Ix.SpotAt W n (trip sp k)) {i:Nat} (hi:i<3) (x:Nat):Ix.SpotAt (W.setCell ⟨n,i,none⟩ (.int .i64 (x:Nat))) n (trip (spu sp k i x) k):=by
 unfold Ix.SpotAt at *
 rw [block_setCell h]
 have:i=0∨i=1∨i=2:=by omega
 rcases this with e | e | e <;> subst e <;> simp [trip,spu]
theorem EnIn.boxed {L:Nat→Nat} {R:Nat→Li} {x:Nat} {m:ByteArray→Option Ix.Sp} {w1:World} (H:EnIn D L w e c R x m b) (hb:Below w.heap.size w w1) (o:Obj):EnIn (fun k=>D k∧k≠w1.heap.size) L (w1.alloc o) e c R x m b :=
 (((H.below hb).wide (D':=fun k=>D k∧k<w1.heap.size) (fun _ a h=>⟨h,a⟩)).alloc' o).wide (fun k _ h=>⟨h.1,by omega⟩)
set_option maxHeartbeats 1000000 in
theorem lay_old {L:Nat→Nat} {R:Nat→Li} {x:Nat} {m:ByteArray→Option Ix.Sp} {sp:ByteArray→Nat→Nat} (H:EnIn D L w e c R x m b) (r:Rel R m sp Q b) (hD:∀ k,w.heap.size≤k→D k) (hb:b≤900000) (k:ByteArray) (hk:k.size≤1000) {i:Nat} (hi:i<3) (hn:sp k i≠0) :
 Calls Tryz.prog 263 #[.pointer (some ⟨e,0,none⟩),.string k,.int .i64 (i:Nat)] w fun ee w'=>ee=.returned (.tuple #[])∧EN D w' e c (layAt Q k i) b∧Keeps D w w':=by
 have hs:=spot_raw H r hb k hk
 obtain ⟨l,rr,hr⟩:=split_mem (r.at_ k i hi hn).1
 have hni:(R i).n≤1000000:=by have:=r.few i hi;omega
 have HH:Hid (EnIn D L w e c R x m b):=H
 have HT:Hid (Rel _ m sp (layAt Q k i) b):=r.touch hi hn hr
 have HD:Hid (∀ k,w.heap.size≤k→D k):=hD
 have HL:Hid ((R i).row=l++sp k i::rr):=hr
 clear H r hD hr
 go_enter Tryz.func263,Tryz.ntmps263
 go_wp2_with (go_at_call 250;refine hs.mono ?_;clear hs;rintro ee w1 ⟨rfl,hb1⟩)
 obtain ⟨W,hW⟩:∃ W,W=w1.alloc (.cells #[.int .i64 ((trip sp k).1:Nat),.int .i64 ((trip sp k).2.1:Nat),.int .i64 ((trip sp k).2.2:Nat)] 89):=⟨_,rfl⟩
 have hS:Ix.SpotAt W w1.heap.size (trip sp k):=by rw [hW];exact spotAt_new w1 _
 have H1:Hid (EnIn (fun k=>D k∧k≠w1.heap.size) L W e c R x m b):=by rw [hW];exact HH.out.boxed hb1 _
 have hsz:W.heap.size=w1.heap.size+1:=by rw [hW,World.size_alloc]
 have hbW:Hid (Below w.heap.size w W):=by rw [hW];exact hb1.alloc hb1.size _
 have hD1:Hid (∀ k,W.heap.size≤k→D k∧k≠w1.heap.size):=fun k h=>⟨HD.out k (Nat.le_trans hbW.out.size h),by omega⟩
 have hat:=hand_at hS hi
 have hrow:=H1.out.row hi
 have HLi:Hid (Ls.LA Value.string 234 152 (own (fun k=>D k∧k≠w1.heap.size) L W.heap.size i) W (R i).pr (l++sp k i::rr) (R i).free (R i).va (R i).n):=by
  have:=H1.out.list hi
  rw [LiAt,HL.out] at this
  exact this
 rw [← hW]
 clear hW hS hsz hb1
 go_region_with (go_at_call 270;refine (Ls.toBack_in (w:=W.drew) (sp k i) HLi.out hni).mono ?_;rintro ee w2 ⟨rfl,hl2,hk2⟩)
 all_goals
  go_wp2_with fail
  have hk3:=(Keeps.refl _ W).drew.trans hk2
  have h3:=H1.out.putL (l:={ R i with row:=l++rr++[sp k i] }) hD1.out hi hk3 hl2 rfl
  exact bodyPost_ret (results_none rfl _ _ _) rfl ⟨rfl,⟨_,_,_,_,_,h3.wide (fun _ _ h=>h.1),HT.out⟩,(Keeps.of_below hbW.out).trans ((own_keeps hD1.out hk3).mono (fun _ _ h=>h.1))⟩
def pushR (R:Nat→Li) (i hd:Nat) (k:ByteArray):Nat→Li:=fun j=>if j=i then { R i with row:=(R i).row++[hd],free:=(R i).free.tail,va:=Ls.upd (R i).va hd k,n:=Ls.moreOf (R i).free (R i).n } else R j
theorem more_few {L:Nat→Nat} {R:Nat→Li} {x:Nat} {m:ByteArray→Option Ix.Sp} {sp:ByteArray→Nat→Nat} (H:EnIn D L w e c R x m b) (r:Rel R m sp Q b) {i:Nat} (hi:i<3) (hfit:(Q i).length+1≤b):Ls.moreOf (R i).free (R i).n≤b:=by
 have h1:=Ls.LA.lens (H.li i hi)
 have h2:=r.few i hi
 have h3:(R i).row.length=(Q i).length:=by rw [← r.keys i hi,List.length_map]
 unfold Ls.moreOf
 split
 ·rename_i hf
  rw [hf] at h1
  simp at h1
  omega
 ·exact h2
theorem push_end {L:Nat→Nat} {R:Nat→Li} {x:Nat} {m:ByteArray→Option Ix.Sp} {w2:World} {k:ByteArray} {i n:Nat} {v:Ix.Sp} (hi:i<3) (hD:∀ k,w.heap.size≤k→D k) (H:EnIn D L w e c R x m b)
 (hl:Ls.LA Value.string 234 152 (own D L w.heap.size i) w2 (R i).pr ((R i).row++[Ls.handOf (R i).free (R i).n]) (R i).free.tail (Ls.upd (R i).va (Ls.handOf (R i).free (R i).n) k) (Ls.moreOf (R i).free (R i).n)) (hk:Keeps (own D L w.heap.size i) w w2) (hs:Ix.SpotAt w n v) (hn:¬ D n) :
 EnIn D (nlab L w.heap.size i) w2 e c (pushR R i (Ls.handOf (R i).free (R i).n) k) x m b∧Keeps D w w2∧Ix.SpotAt w2 n v :=
 ⟨H.putL hD hi hk hl rfl,own_keeps hD hk,hs.kept hk (fun h=>by rcases h with h | h;exact hn h.1;exact absurd (lt_of_block hs) (Nat.not_lt.2 h))⟩
theorem store_end {L:Nat→Nat} {R:Nat→Li} {x:Nat} {m:ByteArray→Option Ix.Sp} {n i:Nat} {u:Value} (H:EnIn D L w e c R x m b) (hn:¬ D n):EnIn D L (w.setCell ⟨n,i,none⟩ u) e c R x m b :=
 H.kept (D':=fun k=>k=n) (Keeps.setCell (D:=fun k=>k=n) (Keeps.refl _ w) (p:=⟨n,i,none⟩) rfl u) (fun _ _ h e=>hn (e ▸ h))
set_option maxHeartbeats 1000000 in
theorem lay_new {L:Nat→Nat} {R:Nat→Li} {x:Nat} {m:ByteArray→Option Ix.Sp} {sp:ByteArray→Nat→Nat} (H:EnIn D L w e c R x m b) (r:Rel R m sp Q b) (hD:∀ k,w.heap.size≤k→D k) (hb:b≤900000) (k:ByteArray) (hk:k.size≤1000) {i:Nat} (hi:i<3) (hn:sp k i=0) (hfit:(Q 0).length+(Q 1).length+(Q 2).length+1≤b) :
 Calls Tryz.prog 263 #[.pointer (some ⟨e,0,none⟩),.string k,.int .i64 (i:Nat)] w fun ee w'=>ee=.returned (.tuple #[])∧EN D w' e c (layAt Q k i) b∧Keeps D w w':=by
 have hs:=spot_raw H r hb k hk
 have hni:(R i).n≤900000:=by have:=r.few i hi;omega
 have hQi:A.cut (Q i) k=Q i:=A.cut_same ((r.zero hi).1 hn)
 have hQe:layAt Q k i=fun j=>if j=i then Q j++[k] else Q j:=by
  funext j
  unfold layAt
  by_cases ej:j=i
  ·subst ej;simp [hQi]
  ·simp [ej]
 have hli:(Q i).length+1≤b:=by
  have:i=0∨i=1∨i=2:=by omega
  rcases this with ei | ei | ei <;> subst ei <;> omega
 have HH:Hid (EnIn D L w e c R x m b):=H
 obtain ⟨hd,hhd⟩:∃ hd,hd=Ls.handOf (R i).free (R i).n:=⟨_,rfl⟩
 have HT:Hid (Rel (pushR R i hd k) (Ix.put m k (some (trip (spu sp k i hd) k))) (spu sp k i hd) (layAt Q k i) b):=by
  have:=r.lay hi hn hk (Ls.LA.hand (H.li i hi)).1 (Ls.LA.hand0 (H.li i hi)) (more_few H r hi hli)
  rw [← hQe,← hhd] at this
  exact this
 have HF:Hid (∀ l:List ByteArray,l.Nodup→(∀ k∈l,m k≠none)→l.length+1≤b):=fun l h1 h2=>by have:=r.fits l h1 h2;omega
 have HD:Hid (∀ k,w.heap.size≤k→D k):=hD
 have HHd:Hid (hd=Ls.handOf (R i).free (R i).n):=hhd
 clear H r hD hQi hQe hli hfit hhd
 go_enter Tryz.func263,Tryz.ntmps263
 go_wp2_with (go_at_call 250;refine hs.mono ?_;clear hs;rintro ee w1 ⟨rfl,hb1⟩)
 obtain ⟨W,hW⟩:∃ W,W=w1.alloc (.cells #[.int .i64 ((trip sp k).1:Nat),.int .i64 ((trip sp k).2.1:Nat),.int .i64 ((trip sp k).2.2:Nat)] 89):=⟨_,rfl⟩
 have hS:Ix.SpotAt W w1.heap.size (trip sp k):=by rw [hW];exact spotAt_new w1 _
 have HS:Hid (Ix.SpotAt W w1.heap.size (trip sp k)):=hS
 obtain ⟨D1,hDD⟩:∃ D1:Nat→Prop,D1=fun k=>D k∧k≠w1.heap.size:=⟨_,rfl⟩
 have H1:Hid (EnIn D1 L W e c R x m b):=by rw [hW,hDD];exact HH.out.boxed hb1 _
 have hsz:W.heap.size=w1.heap.size+1:=by rw [hW,World.size_alloc]
 have hbW:Hid (Below w.heap.size w W):=by rw [hW];exact hb1.alloc hb1.size _
 have hD1:Hid (∀ k,W.heap.size≤k→D1 k):=by show ∀ k,W.heap.size≤k→D1 k;rw [hDD];exact fun k h=>⟨HD.out k (Nat.le_trans hbW.out.size h),by omega⟩
 have hDD4:∀ k,w1.heap.size<k→D1 k:=by rw [hDD];exact fun k h=>⟨HD.out k (by have:=hb1.size;omega),by omega⟩
 have hDn:Hid (¬ D1 w1.heap.size):=by show ¬ D1 w1.heap.size;rw [hDD];exact fun h=>h.2 rfl
 have hDi:Hid (∀ k,D1 k→D k):=by show ∀ k,D1 k→D k;rw [hDD];exact fun k h=>h.1
 have hDm:Hid (D w1.heap.size):=HD.out _ hb1.size
 have hat:=hand_at hS hi
 rw [hn] at hat
 have hrow:=H1.out.row hi
 have hnl:Hid (w1.heap.size<W.heap.size):=by show w1.heap.size<W.heap.size;omega
 obtain ⟨n,hnn⟩:∃ n,n=w1.heap.size:=⟨_,rfl⟩
 rw [← hW]
 rw [← hnn] at hat HS hDn hDm hnl hDD4 ⊢
 have hq:∀ q:Nat,LiAt (own D1 L W.heap.size i) (W.drewN q) (R i):=fun q=>Ls.LA.below (H1.out.list hi) (below_drewN (Below.refl _ W) q)
 clear hW hS hsz hb1 hnn hDD
 go_quiet (first | (go_at_call 270;exact Calls.quiet_of_same (Ls.toBack_no (hq _) (by omega))))
 go_wp2_with fail
 go_cut [] from 20 (fun wx=>Ix.SpotAt wx n (trip (spu sp k i hd) k)∧(∃ L,EnIn D1 L wx e c (pushR R i hd k) x m b)∧Keeps D w wx)
 case first =>
  go_region_with (first
   | (go_at_call 197;refine (Ix.clone_any k hk _).mono ?_;rintro ee w2 ⟨rfl,hb2⟩;have hb2':Below W.heap.size W w2:=below_trans (below_drewN (Below.refl _ W) _) (undrew hb2);have H2:Hid (EnIn D1 L w2 e c R x m b):=H1.out.below hb2';have HS2:Hid (Ix.SpotAt w2 n (trip sp k)):=HS.out.below hb2';have HB2:Hid (Below w.heap.size w w2):=below_trans hbW.out hb2';have HD2:Hid (∀ k,w2.heap.size≤k→D1 k):=(fun k h=>hD1.out k (Nat.le_trans hb2'.size h));have hr2:=H2.out.row hi;clear hb2 hb2')
   | (go_at_call 196;refine (Ls.pushBack_any (H2.out.list hi) (own_new _ _ _ _) k hni).mono ?_;rintro ee w3 ⟨rfl,hl3,hk3⟩;have h3:=push_end hi HD2.out H2.out hl3 hk3 HS2.out hDn.out;have H3:Hid (EnIn D1 _ w3 e c (pushR R i (Ls.handOf (R i).free (R i).n) k) x m b):=h3.1;have HK3:Hid (Keeps D w w3):=(Keeps.of_below HB2.out).trans (h3.2.1.mono (fun k _ h=>hDi.out k h));have HS3:Hid (Ix.SpotAt w3 n (trip sp k)):=h3.2.2;have hat3:=hand_at h3.2.2 hi;have hfz3:=hand_fz h3.2.2 i;clear hl3 hk3 h3))
  all_goals (go_wp2_with fail;go_meet;case rel=>(rw [HHd.out];exact ⟨hand_set HS3.out hi _,⟨_,store_end H3.out hDn.out⟩,HK3.out.setCell hDm.out _⟩))
 case rest =>
  obtain ⟨hS4,⟨L4,h4⟩,hK4⟩:=hcut
  have H4:Hid (EnIn D1 L4 wc e c (pushR R i hd k) x m b):=h4
  have HK4:Hid (Keeps D w wc):=hK4
  have HD4:Hid (∀ k,wc.heap.size≤k→D1 k):=fun k h=>hDD4 k (Nat.lt_of_lt_of_le (lt_of_block hS4) h)
  obtain ⟨_,_,c64,_,heo4⟩:=h4.cells
  obtain ⟨z0,z1,z2,zl⟩:=hS4.cells
  obtain ⟨v,hv⟩:∃ v,v=trip (spu sp k i hd) k:=⟨_,rfl⟩
  have HV:Hid (v=trip (spu sp k i hd) k):=hv
  rw [← hv] at z0 z1 z2
  have hput:=Ix.put_fit (w:=wc.drew) H4.out.drewI.index (own_new _ _ _ _) k hk v (by omega) (fun _=>HF.out)
  clear h4 hK4 hrow hat hq hS4 hv
  go_wp2_with fail
  go_region_with (go_at_call 269;refine hput.mono ?_;rintro ee w5 ⟨rfl,hx5,hk5⟩)
  all_goals
   go_end0
   have hk6:=(Keeps.refl _ wc).drew.trans hk5
   have h6:=H4.out.putX HD4.out hk6 hx5
   have hT:Rel (pushR R i hd k) (Ix.put m k (some v)) (spu sp k i hd) (layAt Q k i) b:=by rw [HV.out];exact HT.out
   exact ⟨rfl,⟨_,_,_,_,spu sp k i hd,h6.wide (fun k _ h=>hDi.out k h),hT⟩,HK4.out.trans ((own_keeps HD4.out hk6).mono (fun k _ h=>hDi.out k h))⟩
theorem lay_any (H:EN D w e c Q b) (hD:∀ k,w.heap.size≤k→D k) (hb:b≤900000) (k:ByteArray) (hk:k.size≤1000) (i:Nat) (hi:i<3) (hfit:(Q 0).length+(Q 1).length+(Q 2).length+1≤b) :
 Calls Tryz.prog 263 #[.pointer (some ⟨e,0,none⟩),.string k,.int .i64 (i:Nat)] w fun ee w'=>ee=.returned (.tuple #[])∧EN D w' e c (layAt Q k i) b∧Keeps D w w':=by
 obtain ⟨L,R,x,m,sp,h,r⟩:=H
 by_cases hn:sp k i=0
 ·exact lay_new h r hD hb k hk hi hn hfit
 ·exact lay_old h r hD hb k hk hi hn
end
end Go.Proofs.YtkkkkiejnmpdkaaGreatDoor.Lirs
namespace Go.Proofs.YtkkkkiejnmpdkaaGreatDoor.Lirs
open Go.RowKit
theorem infoInt:(Tryz.prog.info? 3).map (fun i=>(i.zero,i.size,i.bytes))=some (some (.int .i64 0),1,8):=by kernel_rfl
theorem plainInt:Tryz.prog.plainKey 3=true:=by kernel_rfl
theorem cellsInt:Tryz.prog.cellsOf 3=1:=by kernel_rfl
theorem eq_spot (a b c:Nat) (W:World):(Op.equalIn 10000 89 (.agg #[.int .i64 (a:Nat),.int .i64 (b:Nat),.int .i64 (c:Nat)]) (.agg #[.int .i64 0,.int .i64 0,.int .i64 0])).run Tryz.prog W=.ok (decide (a=0∧b=0∧c=0)) W:=by
 obtain ⟨i0,hi,-⟩:=info_parts infoInt
 have h0:=fun (x y z:Value)=>run_part_plain (P:=Tryz.prog) (w:=W) plainInt (xs:=#[x,y,z]) (off:=0) (v:=x) rfl
 have h1:=fun (x y z:Value)=>run_part_plain (P:=Tryz.prog) (w:=W) plainInt (xs:=#[x,y,z]) (off:=1) (v:=y) rfl
 have h2:=fun (x y z:Value)=>run_part_plain (P:=Tryz.prog) (w:=W) plainInt (xs:=#[x,y,z]) (off:=2) (v:=z) rfl
 have hq:∀ x y:Int,(Op.equalIn 9999 3 (.int .i64 x) (.int .i64 y)).run Tryz.prog W=.ok (x==y) W:=fun x y=>run_equalIn_int (P:=Tryz.prog) W 9998 3 .i64 .i64 x y Tryz.underlying3
 rw [show (10000:Nat)=9998+1+1 from rfl,run_equalIn_array W (9998+1) _ _ Tryz.underlying89 hi,cellsInt,show List.range 3=[0,1,2] from rfl]
 by_cases ea:a=0
 ·by_cases eb:b=0
  ·by_cases ec:c=0
   ·simp [Op.eqItems,h0,h1,h2,hq,ea,eb,ec]
   ·simp [Op.eqItems,h0,h1,h2,hq,ea,eb,ec]
  ·simp [Op.eqItems,h0,h1,hq,ea,eb]
 ·simp [Op.eqItems,h0,hq,ea]
section
variable {D:Nat→Prop} {w:World} {e c:Nat} {Q:Nat→List ByteArray} {b:Nat}
set_option maxHeartbeats 1000000 in
theorem leave_not {L:Nat→Nat} {R:Nat→Li} {x:Nat} {m:ByteArray→Option Ix.Sp} {sp:ByteArray→Nat→Nat} (H:EnIn D L w e c R x m b) (r:Rel R m sp Q b) (hb:b≤900000) (k:ByteArray) (hk:k.size≤1000) {i:Nat} (hi:i<3) (hn:sp k i=0) :
 Calls Tryz.prog 259 #[.pointer (some ⟨e,0,none⟩),.string k,.int .i64 (i:Nat)] w fun ee w'=>ee=.returned (.tuple #[])∧Below w.heap.size w w':=by
 have hs:=spot_raw H r hb k hk
 have hni:(R i).n≤900000:=by have:=r.few i hi;omega
 have HH:Hid (EnIn D L w e c R x m b):=H
 clear H r
 go_enter Tryz.func259,Tryz.ntmps259
 go_wp2_with (go_at_call 250;refine hs.mono ?_;clear hs;rintro ee w1 ⟨rfl,hb1⟩)
 obtain ⟨W,hW⟩:∃ W,W=w1.alloc (.cells #[.int .i64 ((trip sp k).1:Nat),.int .i64 ((trip sp k).2.1:Nat),.int .i64 ((trip sp k).2.2:Nat)] 89):=⟨_,rfl⟩
 have hS:Ix.SpotAt W w1.heap.size (trip sp k):=by rw [hW];exact spotAt_new w1 _
 have hbW:Hid (Below w.heap.size w W):=by rw [hW];exact hb1.alloc hb1.size _
 have H1:Hid (EnIn D L W e c R x m b):=HH.out.below hbW.out
 have hat:=hand_at hS hi
 rw [hn] at hat
 have hrow:=H1.out.row hi
 have hq:∀ q:Nat,LiAt (own D L W.heap.size i) (W.drewN q) (R i):=fun q=>Ls.LA.below (H1.out.list hi) (below_drewN (Below.refl _ W) q)
 rw [← hW]
 clear hW hS hb1
 go_quiet (first | (go_at_call 202;exact Calls.quiet_of_same (Ls.remove_no (hq _) (by omega))))
 go_wp2_with fail
 exact bodyPost_ret (results_none rfl _ _ _) rfl ⟨rfl,below_drewN hbW.out _⟩
def cutR (R:Nat→Li) (i hd:Nat) (row:List Nat):Nat→Li:=fun j=>if j=i then { R i with row:=row,free:=hd::(R i).free,va:=Ls.upd (R i).va hd ⟨#[]⟩ } else R j
theorem cut_end {L:Nat→Nat} {R:Nat→Li} {x:Nat} {m:ByteArray→Option Ix.Sp} {w2:World} {i n hd:Nat} {l r:List Nat} {v:Ix.Sp} (hi:i<3) (hD:∀ k,w.heap.size≤k→D k) (H:EnIn D L w e c R x m b)
 (hl:Ls.LA Value.string 234 152 (own D L w.heap.size i) w2 (R i).pr (l++r) (hd::(R i).free) (Ls.upd (R i).va hd ⟨#[]⟩) (R i).n) (hk:Keeps (own D L w.heap.size i) w w2) (hs:Ix.SpotAt w n v) (hn:¬ D n) :
 EnIn D (nlab L w.heap.size i) w2 e c (cutR R i hd (l++r)) x m b∧Keeps D w w2∧Ix.SpotAt w2 n v :=
 ⟨H.putL hD hi hk hl rfl,own_keeps hD hk,hs.kept hk (fun h=>by rcases h with h | h;exact hn h.1;exact absurd (lt_of_block hs) (Nat.not_lt.2 h))⟩
set_option maxRecDepth 100000 in
set_option maxHeartbeats 1000000 in
theorem leave_yes {L:Nat→Nat} {R:Nat→Li} {x:Nat} {m:ByteArray→Option Ix.Sp} {sp:ByteArray→Nat→Nat} (H:EnIn D L w e c R x m b) (r:Rel R m sp Q b) (hD:∀ k,w.heap.size≤k→D k) (hb:b≤900000) (k:ByteArray) (hk:k.size≤1000) {i:Nat} (hi:i<3) (hn:sp k i≠0) :
 Calls Tryz.prog 259 #[.pointer (some ⟨e,0,none⟩),.string k,.int .i64 (i:Nat)] w fun ee w'=>ee=.returned (.tuple #[])∧EN D w' e c (cutAt Q k i) b∧Keeps D w w':=by
 have hs:=spot_raw H r hb k hk
 obtain ⟨l,rr,hr⟩:=split_mem (r.at_ k i hi hn).1
 have hni:(R i).n≤1000000:=by have:=r.few i hi;omega
 obtain ⟨hd,hhd⟩:∃ hd,hd=sp k i:=⟨_,rfl⟩
 have HH:Hid (EnIn D L w e c R x m b):=H
 have HT:Hid (Rel (cutR R i hd (l++rr)) (Ix.put m k (spOf (spu sp k i 0) k)) (spu sp k i 0) (cutAt Q k i) b):=by rw [hhd];exact r.leave hi hn hr
 have HM:Hid (m k≠none):=by
  show m k≠none
  rw [r.spot k]
  unfold spOf
  rw [if_neg]
  ·simp
  ·rintro ⟨e0,e1,e2⟩
   have:i=0∨i=1∨i=2:=by omega
   rcases this with ei | ei | ei <;> subst ei <;> exact hn (by assumption)
 have HD:Hid (∀ k,w.heap.size≤k→D k):=hD
 rw [← hhd] at hr hn
 have HL:Hid ((R i).row=l++hd::rr):=hr
 have HHd:Hid (hd=sp k i):=hhd
 clear H r hD hr hhd
 go_enter Tryz.func259,Tryz.ntmps259
 go_wp2_with (go_at_call 250;refine hs.mono ?_;clear hs;rintro ee w1 ⟨rfl,hb1⟩)
 obtain ⟨W,hW⟩:∃ W,W=w1.alloc (.cells #[.int .i64 ((trip sp k).1:Nat),.int .i64 ((trip sp k).2.1:Nat),.int .i64 ((trip sp k).2.2:Nat)] 89):=⟨_,rfl⟩
 have hS:Ix.SpotAt W w1.heap.size (trip sp k):=by rw [hW];exact spotAt_new w1 _
 have HS:Hid (Ix.SpotAt W w1.heap.size (trip sp k)):=hS
 obtain ⟨D1,hDD⟩:∃ D1:Nat→Prop,D1=fun k=>D k∧k≠w1.heap.size:=⟨_,rfl⟩
 have H1:Hid (EnIn D1 L W e c R x m b):=by rw [hW,hDD];exact HH.out.boxed hb1 _
 have hsz:W.heap.size=w1.heap.size+1:=by rw [hW,World.size_alloc]
 have hbW:Hid (Below w.heap.size w W):=by rw [hW];exact hb1.alloc hb1.size _
 have hD1:Hid (∀ k,W.heap.size≤k→D1 k):=by show ∀ k,W.heap.size≤k→D1 k;rw [hDD];exact fun k h=>⟨HD.out k (Nat.le_trans hbW.out.size h),by omega⟩
 have hDD4:∀ k,w1.heap.size<k→D1 k:=by rw [hDD];exact fun k h=>⟨HD.out k (by have:=hb1.size;omega),by omega⟩
 have hDn:Hid (¬ D1 w1.heap.size):=by show ¬ D1 w1.heap.size;rw [hDD];exact fun h=>h.2 rfl
 have hDi:Hid (∀ k,D1 k→D k):=by show ∀ k,D1 k→D k;rw [hDD];exact fun k h=>h.1
 have hDm:Hid (D w1.heap.size):=HD.out _ hb1.size
 have hat:=hand_at hS hi
 rw [← HHd.out] at hat
 have hrow:=H1.out.row hi
 obtain ⟨n,hnn⟩:∃ n,n=w1.heap.size:=⟨_,rfl⟩
 have HLi:Hid (Ls.LA Value.string 234 152 (own D1 L W.heap.size i) W (R i).pr (l++hd::rr) (R i).free (R i).va (R i).n):=by
  have:=H1.out.list hi
  rw [LiAt,HL.out] at this
  exact this
 rw [← hW]
 rw [← hnn] at hat HS hDn hDm hDD4 ⊢
 clear hW hS hsz hb1 hnn hDD
 go_cut [8] from 12 (fun was wx=>was=.bool true∧Ix.SpotAt wx n (trip sp k)∧(∃ L,EnIn D1 L wx e c (cutR R i hd (l++rr)) x m b)∧Keeps D w wx)
 case first =>
  go_region_with (go_at_call 202;refine (Ls.remove_in (w:=W.drew) hd HLi.out hni).mono ?_;rintro ee w3 ⟨rfl,hl3,hk3⟩;have h3:=cut_end hi hD1.out H1.out hl3 ((Keeps.refl _ W).drew.trans hk3) HS.out hDn.out;have H3:Hid (EnIn D1 _ w3 e c (cutR R i hd (l++rr)) x m b):=h3.1;have HK3:Hid (Keeps D w w3):=(Keeps.of_below hbW.out).trans (h3.2.1.mono (fun k _ h=>hDi.out k h));have HS3:Hid (Ix.SpotAt w3 n (trip sp k)):=h3.2.2;clear hl3 hk3 h3)
  all_goals (go_wp2_with fail;go_meet;case rel=>exact ⟨rfl,HS3.out,⟨_,H3.out⟩,HK3.out⟩)
 case rest =>
  obtain ⟨rfl,hS4,⟨L4,h4⟩,hK4⟩:=hcut
  have H4:Hid (EnIn D1 L4 wc e c (cutR R i hd (l++rr)) x m b):=h4
  have HK4:Hid (Keeps D w wc):=hK4
  have HD4:Hid (∀ k,wc.heap.size≤k→D1 k):=fun k h=>hDD4 k (Nat.lt_of_lt_of_le (lt_of_block hS4) h)
  obtain ⟨_,_,c64,_,heo4⟩:=h4.cells
  obtain ⟨z0,z1,z2,zl⟩:=hS4.cells
  have hz:=hand_at hS4 hi
  have hfz:=hand_fz hS4 i
  have y0:=hand_fz hS4 0
  have y1:=hand_fz hS4 1
  have y2:=hand_fz hS4 2
  have HS4:Hid (Ix.SpotAt wc n (trip sp k)):=hS4
  clear h4 hK4 hrow hat hS4
  have h3:i=0∨i=1∨i=2:=by omega
  obtain ⟨a0,ha0⟩:∃ a,a=(trip sp k).1:=⟨_,rfl⟩
  obtain ⟨a1,ha1⟩:∃ a,a=(trip sp k).2.1:=⟨_,rfl⟩
  obtain ⟨a2,ha2⟩:∃ a,a=(trip sp k).2.2:=⟨_,rfl⟩
  have HA:Hid (a0=sp k 0∧a1=sp k 1∧a2=sp k 2):=⟨ha0,ha1,ha2⟩
  rw [← ha0] at z0
  rw [← ha1] at z1
  rw [← ha2] at z2
  clear hz ha0 ha1 ha2
  rcases h3 with ei | ei | ei
  ·subst ei
   have hE:∀ W:World,(Op.equalIn 10000 89 (.agg #[.int .i64 0,.int .i64 (a1:Nat),.int .i64 (a2:Nat)]) (.agg #[.int .i64 0,.int .i64 0,.int .i64 0])).run Tryz.prog W=.ok (decide (a1=0∧a2=0)) W:=fun W=>by
    have:=eq_spot 0 a1 a2 W
    simpa using this
   have HT':Hid (trip (spu sp k 0 0) k=(0,a1,a2)):=by
    show trip (spu sp k 0 0) k=(0,a1,a2)
    simp [trip,spu,HA.out.2.1,HA.out.2.2]
   by_cases hz:a1=0∧a2=0
   ·rw [decide_eq_true hz] at hE
    have HZ:Hid (spOf (spu sp k 0 0) k=none):=by
     show spOf (spu sp k 0 0) k=none
     unfold spOf
     rw [if_pos]
     simp [spu,← HA.out.2.1,← HA.out.2.2,hz.1,hz.2]
    clear hz
    have hS5:Hid (EnIn D1 L4 (wc.setCell ⟨n,0,none⟩ (.int .i64 0)) e c (cutR R 0 hd (l++rr)) x m b):=store_end H4.out hDn.out
    have HK5:Hid (Keeps D w (wc.setCell ⟨n,0,none⟩ (.int .i64 0))):=HK4.out.setCell (p:=⟨n,0,none⟩) hDm.out _
    have HD5:Hid (∀ k,(wc.setCell ⟨n,0,none⟩ (.int .i64 0)).heap.size≤k→D1 k):=fun k h=>HD4.out k (by simpa [World.setCell] using h)
    have hdel:=Ix.delete_any hS5.out.index (by omega) k (by unfold maxLen;omega)
    go_wp2_with (go_at_call 268;refine hdel.mono ?_;clear hdel;rintro ee w5 ⟨rfl,hx5,hk5⟩)
    go_end0
    have h6:=hS5.out.putX HD5.out hk5 hx5
    have hT:Rel (cutR R 0 hd (l++rr)) (Ix.put m k none) (spu sp k 0 0) (cutAt Q k 0) b:=by have:=HT.out;rw [HZ.out] at this;exact this
    exact ⟨rfl,⟨_,_,_,_,spu sp k 0 0,h6.wide (fun k _ h=>hDi.out k h),hT⟩,HK5.out.trans ((own_keeps HD5.out hk5).mono (fun k _ h=>hDi.out k h))⟩
   ·rw [decide_eq_false hz] at hE
    have HZ:Hid (spOf (spu sp k 0 0) k=some (0,a1,a2)):=by
     show spOf (spu sp k 0 0) k=some (0,a1,a2)
     unfold spOf
     rw [HT'.out,if_neg]
     simp only [spu,← HA.out.2.1,← HA.out.2.2]
     intro h
     exact hz (by simpa using h)
    clear hz
    have hS5:Hid (EnIn D1 L4 (wc.setCell ⟨n,0,none⟩ (.int .i64 0)) e c (cutR R 0 hd (l++rr)) x m b):=store_end H4.out hDn.out
    have HK5:Hid (Keeps D w (wc.setCell ⟨n,0,none⟩ (.int .i64 0))):=HK4.out.setCell (p:=⟨n,0,none⟩) hDm.out _
    have HD5:Hid (∀ k,(wc.setCell ⟨n,0,none⟩ (.int .i64 0)).heap.size≤k→D1 k):=fun k h=>HD4.out k (by simpa [World.setCell] using h)
    have hput:=Ix.put_fit (w:=(wc.setCell ⟨n,0,none⟩ (.int .i64 0)).drew) hS5.out.drewI.index (own_new _ _ _ _) k hk (0,a1,a2) (by omega) (fun h=>absurd h HM.out)
    go_wp2_with fail
    go_region_with (go_at_call 269;refine hput.mono ?_;rintro ee w5 ⟨rfl,hx5,hk5⟩)
    all_goals
     go_end0
     have hk6:=(Keeps.refl _ (wc.setCell ⟨n,0,none⟩ (.int .i64 0))).drew.trans hk5
     have h6:=hS5.out.putX HD5.out hk6 hx5
     have hT:Rel (cutR R 0 hd (l++rr)) (Ix.put m k (some (0,a1,a2))) (spu sp k 0 0) (cutAt Q k 0) b:=by have:=HT.out;rw [HZ.out] at this;exact this
     exact ⟨rfl,⟨_,_,_,_,spu sp k 0 0,h6.wide (fun k _ h=>hDi.out k h),hT⟩,HK5.out.trans ((own_keeps HD5.out hk6).mono (fun k _ h=>hDi.out k h))⟩
  ·subst ei
   have hE:∀ W:World,(Op.equalIn 10000 89 (.agg #[.int .i64 (a0:Nat),.int .i64 0,.int .i64 (a2:Nat)]) (.agg #[.int .i64 0,.int .i64 0,.int .i64 0])).run Tryz.prog W=.ok (decide (a0=0∧a2=0)) W:=fun W=>by
    have:=eq_spot a0 0 a2 W
    simpa using this
   have HT':Hid (trip (spu sp k 1 0) k=(a0,0,a2)):=by
    show trip (spu sp k 1 0) k=(a0,0,a2)
    simp [trip,spu,HA.out.1,HA.out.2.2]
   by_cases hz:a0=0∧a2=0
   ·rw [decide_eq_true hz] at hE
    have HZ:Hid (spOf (spu sp k 1 0) k=none):=by
     show spOf (spu sp k 1 0) k=none
     unfold spOf
     rw [if_pos]
     simp [spu,← HA.out.1,← HA.out.2.2,hz.1,hz.2]
    clear hz
    have hS5:Hid (EnIn D1 L4 (wc.setCell ⟨n,1,none⟩ (.int .i64 0)) e c (cutR R 1 hd (l++rr)) x m b):=store_end H4.out hDn.out
    have HK5:Hid (Keeps D w (wc.setCell ⟨n,1,none⟩ (.int .i64 0))):=HK4.out.setCell (p:=⟨n,1,none⟩) hDm.out _
    have HD5:Hid (∀ k,(wc.setCell ⟨n,1,none⟩ (.int .i64 0)).heap.size≤k→D1 k):=fun k h=>HD4.out k (by simpa [World.setCell] using h)
    have hdel:=Ix.delete_any hS5.out.index (by omega) k (by unfold maxLen;omega)
    go_wp2_with (go_at_call 268;refine hdel.mono ?_;clear hdel;rintro ee w5 ⟨rfl,hx5,hk5⟩)
    go_end0
    have h6:=hS5.out.putX HD5.out hk5 hx5
    have hT:Rel (cutR R 1 hd (l++rr)) (Ix.put m k none) (spu sp k 1 0) (cutAt Q k 1) b:=by have:=HT.out;rw [HZ.out] at this;exact this
    exact ⟨rfl,⟨_,_,_,_,spu sp k 1 0,h6.wide (fun k _ h=>hDi.out k h),hT⟩,HK5.out.trans ((own_keeps HD5.out hk5).mono (fun k _ h=>hDi.out k h))⟩
   ·rw [decide_eq_false hz] at hE
    have HZ:Hid (spOf (spu sp k 1 0) k=some (a0,0,a2)):=by
     show spOf (spu sp k 1 0) k=some (a0,0,a2)
     unfold spOf
     rw [HT'.out,if_neg]
     simp only [spu,← HA.out.1,← HA.out.2.2]
     intro h
     exact hz (by simpa using h)
    clear hz
    have hS5:Hid (EnIn D1 L4 (wc.setCell ⟨n,1,none⟩ (.int .i64 0)) e c (cutR R 1 hd (l++rr)) x m b):=store_end H4.out hDn.out
    have HK5:Hid (Keeps D w (wc.setCell ⟨n,1,none⟩ (.int .i64 0))):=HK4.out.setCell (p:=⟨n,1,none⟩) hDm.out _
    have HD5:Hid (∀ k,(wc.setCell ⟨n,1,none⟩ (.int .i64 0)).heap.size≤k→D1 k):=fun k h=>HD4.out k (by simpa [World.setCell] using h)
    have hput:=Ix.put_fit (w:=(wc.setCell ⟨n,1,none⟩ (.int .i64 0)).drew) hS5.out.drewI.index (own_new _ _ _ _) k hk (a0,0,a2) (by omega) (fun h=>absurd h HM.out)
    go_wp2_with fail
    go_region_with (go_at_call 269;refine hput.mono ?_;rintro ee w5 ⟨rfl,hx5,hk5⟩)
    all_goals
     go_end0
     have hk6:=(Keeps.refl _ (wc.setCell ⟨n,1,none⟩ (.int .i64 0))).drew.trans hk5
     have h6:=hS5.out.putX HD5.out hk6 hx5
     have hT:Rel (cutR R 1 hd (l++rr)) (Ix.put m k (some (a0,0,a2))) (spu sp k 1 0) (cutAt Q k 1) b:=by have:=HT.out;rw [HZ.out] at this;exact this
     exact ⟨rfl,⟨_,_,_,_,spu sp k 1 0,h6.wide (fun k _ h=>hDi.out k h),hT⟩,HK5.out.trans ((own_keeps HD5.out hk6).mono (fun k _ h=>hDi.out k h))⟩
  ·subst ei
   have hE:∀ W:World,(Op.equalIn 10000 89 (.agg #[.int .i64 (a0:Nat),.int .i64 (a1:Nat),.int .i64 0]) (.agg #[.int .i64 0,.int .i64 0,.int .i64 0])).run Tryz.prog W=.ok (decide (a0=0∧a1=0)) W:=fun W=>by
    have:=eq_spot a0 a1 0 W
    simpa using this
   have HT':Hid (trip (spu sp k 2 0) k=(a0,a1,0)):=by
    show trip (spu sp k 2 0) k=(a0,a1,0)
    simp [trip,spu,HA.out.1,HA.out.2.1]
   by_cases hz:a0=0∧a1=0
   ·rw [decide_eq_true hz] at hE
    have HZ:Hid (spOf (spu sp k 2 0) k=none):=by
     show spOf (spu sp k 2 0) k=none
     unfold spOf
     rw [if_pos]
     simp [spu,← HA.out.1,← HA.out.2.1,hz.1,hz.2]
    clear hz
    have hS5:Hid (EnIn D1 L4 (wc.setCell ⟨n,2,none⟩ (.int .i64 0)) e c (cutR R 2 hd (l++rr)) x m b):=store_end H4.out hDn.out
    have HK5:Hid (Keeps D w (wc.setCell ⟨n,2,none⟩ (.int .i64 0))):=HK4.out.setCell (p:=⟨n,2,none⟩) hDm.out _
    have HD5:Hid (∀ k,(wc.setCell ⟨n,2,none⟩ (.int .i64 0)).heap.size≤k→D1 k):=fun k h=>HD4.out k (by simpa [World.setCell] using h)
    have hdel:=Ix.delete_any hS5.out.index (by omega) k (by unfold maxLen;omega)
    go_wp2_with (go_at_call 268;refine hdel.mono ?_;clear hdel;rintro ee w5 ⟨rfl,hx5,hk5⟩)
    go_end0
    have h6:=hS5.out.putX HD5.out hk5 hx5
    have hT:Rel (cutR R 2 hd (l++rr)) (Ix.put m k none) (spu sp k 2 0) (cutAt Q k 2) b:=by have:=HT.out;rw [HZ.out] at this;exact this
    exact ⟨rfl,⟨_,_,_,_,spu sp k 2 0,h6.wide (fun k _ h=>hDi.out k h),hT⟩,HK5.out.trans ((own_keeps HD5.out hk5).mono (fun k _ h=>hDi.out k h))⟩
   ·rw [decide_eq_false hz] at hE
    have HZ:Hid (spOf (spu sp k 2 0) k=some (a0,a1,0)):=by
     show spOf (spu sp k 2 0) k=some (a0,a1,0)
     unfold spOf
     rw [HT'.out,if_neg]
     simp only [spu,← HA.out.1,← HA.out.2.1]
     intro h
     exact hz (by simpa using h)
    clear hz
    have hS5:Hid (EnIn D1 L4 (wc.setCell ⟨n,2,none⟩ (.int .i64 0)) e c (cutR R 2 hd (l++rr)) x m b):=store_end H4.out hDn.out
    have HK5:Hid (Keeps D w (wc.setCell ⟨n,2,none⟩ (.int .i64 0))):=HK4.out.setCell (p:=⟨n,2,none⟩) hDm.out _
    have HD5:Hid (∀ k,(wc.setCell ⟨n,2,none⟩ (.int .i64 0)).heap.size≤k→D1 k):=fun k h=>HD4.out k (by simpa [World.setCell] using h)
    have hput:=Ix.put_fit (w:=(wc.setCell ⟨n,2,none⟩ (.int .i64 0)).drew) hS5.out.drewI.index (own_new _ _ _ _) k hk (a0,a1,0) (by omega) (fun h=>absurd h HM.out)
    go_wp2_with fail
    go_region_with (go_at_call 269;refine hput.mono ?_;rintro ee w5 ⟨rfl,hx5,hk5⟩)
    all_goals
     go_end0
     have hk6:=(Keeps.refl _ (wc.setCell ⟨n,2,none⟩ (.int .i64 0))).drew.trans hk5
     have h6:=hS5.out.putX HD5.out hk6 hx5
     have hT:Rel (cutR R 2 hd (l++rr)) (Ix.put m k (some (a0,a1,0))) (spu sp k 2 0) (cutAt Q k 2) b:=by have:=HT.out;rw [HZ.out] at this;exact this
     exact ⟨rfl,⟨_,_,_,_,spu sp k 2 0,h6.wide (fun k _ h=>hDi.out k h),hT⟩,HK5.out.trans ((own_keeps HD5.out hk6).mono (fun k _ h=>hDi.out k h))⟩
theorem leave_any (H:EN D w e c Q b) (hD:∀ k,w.heap.size≤k→D k) (hb:b≤900000) (k:ByteArray) (hk:k.size≤1000) (i:Nat) (hi:i<3) :
 Calls Tryz.prog 259 #[.pointer (some ⟨e,0,none⟩),.string k,.int .i64 (i:Nat)] w fun ee w'=>ee=.returned (.tuple #[])∧EN D w' e c (cutAt Q k i) b∧Keeps D w w':=by
 have H0:=H
 obtain ⟨L,R,x,m,sp,h,r⟩:=H
 by_cases hn:sp k i=0
 ·refine (leave_not h r hb k hk hi hn).mono ?_
  rintro ee w' ⟨rfl,hb1⟩
  refine ⟨rfl,(H0.below hb1).congr (fun j hj=>?_),.of_below hb1⟩
  unfold cutAt
  by_cases e:j=i
  ·subst e
   rw [if_pos rfl,A.cut_same ((r.zero hi).1 hn)]
  ·rw [if_neg e]
 ·exact leave_yes h r hD hb k hk hi hn
end
end Go.Proofs.YtkkkkiejnmpdkaaGreatDoor.Lirs
namespace Go.Proofs.YtkkkkiejnmpdkaaGreatDoor.Lirs
open Go.RowKit
section
variable {D:Nat→Prop} {w:World} {e c:Nat} {Q:Nat→List ByteArray} {b:Nat}
theorem EN.front (H:EN D w e c Q b) {i:Nat} (hi:i<3) {k:ByteArray} {r:List ByteArray} (hq:Q i=k::r) :
 ∃ l:Li,LiAt (own D (fun _=>0) 0 0) w l∧w.cell? ⟨e,1+i,none⟩=some (.pointer (some ⟨l.pr,0,none⟩))∧Ls.hdOf l.row∈l.row∧l.va (Ls.hdOf l.row)=k∧l.n≤b:=by
 obtain ⟨L,R,x,m,sp,H,r1⟩:=H
 refine ⟨R i,Ls.LA.wide (H.li i hi) (fun _ _=>.inr (Nat.zero_le _)),H.row hi,?_,?_,r1.few i hi⟩
 ·have h:=r1.keys i hi
  rw [hq] at h
  cases hrow:(R i).row with
  | nil=>rw [hrow] at h;cases h
  | cons a t=>simp [Ls.hdOf]
 ·have h:=r1.keys i hi
  rw [hq] at h
  cases hrow:(R i).row with
  | nil=>rw [hrow] at h;cases h
  | cons a t=>rw [hrow] at h;simp [Ls.hdOf];simp at h;exact h.1
theorem first_any (H:EN D w e c Q b) (hb:b≤900000) {i:Nat} (hi:i<3) {k:ByteArray} {r:List ByteArray} (hq:Q i=k::r) :
 Calls Tryz.prog 262 #[.pointer (some ⟨e,0,none⟩),.int .i64 (i:Nat)] w fun ee w'=>ee=.returned (.string k)∧Below w.heap.size w w':=by
 obtain ⟨l,hl,hr,h1,h2,h3⟩:=H.front hi hq
 have HL:Hid _:=hl
 subst h2
 clear H hl hq
 go_enter Tryz.func262,Tryz.ntmps262
 go_wp2_with fail
 have hq:∀ q:Nat,LiAt (own D (fun _=>0) 0 0) (w.drewN q) l:=fun q=>Ls.LA.below HL.out (below_drewN (Below.refl _ w) q)
 go_quiet (first | (go_at_call 213;exact Calls.quiet_of_same (Ls.front_any (hq _))) | (go_at_call 212;exact Calls.quiet_of_same (Ls.get_in (hq _) _ h1 (by omega))))
 go_wp2
 go_ret
 exact ⟨rfl,below_drewN (Below.refl _ w) _⟩
theorem blank_any (H:EN D w e c Q b):Calls Tryz.prog 242 #[.pointer (some ⟨e,0,none⟩)] w fun ee w'=>ee=.returned (.bool false)∧w'=w:=by
 obtain ⟨c0,c1,f1,heo,x,c6⟩:=H.cells
 clear H
 go_enter Tryz.func242,Tryz.ntmps242
 go_wp2
 go_ret
 exact ⟨rfl,rfl⟩
theorem EN.len (H:EN D w e c Q b) {i:Nat} (hi:i<3):∃ l:Li,(∀ q,LiAt (own D (fun _=>0) 0 0) (w.drewN q) l)∧w.cell? ⟨e,1+i,none⟩=some (.pointer (some ⟨l.pr,0,none⟩))∧l.row.length=(Q i).length∧l.n≤b:=by
 obtain ⟨L,R,x,m,sp,H,r1⟩:=H
 refine ⟨R i,fun q=>Ls.LA.below (Ls.LA.wide (H.li i hi) (fun _ _=>.inr (Nat.zero_le _))) (below_drewN (Below.refl _ w) q),H.row hi,?_,r1.few i hi⟩
 rw [← r1.keys i hi,List.length_map]
theorem EN.lens (H:EN D w e c Q b) {i:Nat} (hi:i<3):(Q i).length≤b:=by
 obtain ⟨L,R,x,m,sp,H,r1⟩:=H
 rw [← r1.keys i hi,List.length_map]
 have:=Ls.LA.lens (H.li i hi)
 have:=r1.few i hi
 omega
set_option maxHeartbeats 1000000 in
theorem count_any (H:EN D w e c Q b) {i:Nat} (hi:i<3) :
 Calls Tryz.prog 253 #[.pointer (some ⟨e,0,none⟩),.int .i64 (i:Nat)] w fun ee w'=>ee=.returned (.int .i64 ((Q i).length:Nat))∧w'=w:=by
 obtain ⟨l,HL,c2,hlen,hln⟩:=H.len hi
 have HLq:Hid (LiAt (own D (fun _=>0) 0 0) w l):=HL 0
 clear H HL
 go_enter Tryz.func253,Tryz.ntmps253
 go_wp2_with (go_at_call 200;refine (Ls.len_any HLq.out).mono ?_;rintro ee w1 ⟨rfl,rfl⟩;rw [hlen])
 go_ret
 exact ⟨rfl,rfl⟩
theorem IX_len {te tl:TypeId} {p b:Nat} {m:ByteArray→Option Ix.Sp} (H:Ix.IX te tl D w p m b):∃ n:Nat,w.cell? ⟨p,3,none⟩=some (.int .i64 (n:Nat))∧n≤b∧∀ l:List ByteArray,l.Nodup→(∀ k,k∈l↔m k≠none)→l.length=n:=by
 obtain ⟨seed,sl,used,count,ad,hs0,H,o⟩:=H
 refine ⟨count,H.top.2.2.2.1,o.few,fun l h1 h2=>?_⟩
 obtain ⟨l',h3,h4,h5⟩:=Ix.Ok.keys o
 have a:=nodup_len h1 (m:=(sl.filter (fun s=>s.st==2)).map (·.key)) (fun k hk=>by
  cases hm:m k with
  | none=>exact absurd hm ((h2 k).1 hk)
  | some v =>
    obtain ⟨i,t,hi,ht,hk',-⟩:=(o.map k v).1 hm
    exact List.mem_map.2 ⟨t,List.mem_filter.2 ⟨List.mem_of_getElem? hi,by simp [ht]⟩,hk'⟩)
 have b:=nodup_len h3 (m:=l) (fun k hk=>(h2 k).2 (h5 k hk))
 rw [List.length_map,← List.countP_eq_length_filter,o.count_] at a
 omega
theorem xlen_any {p n:Nat} (h:w.cell? ⟨p,3,none⟩=some (.int .i64 (n:Nat))):Calls Tryz.prog 252 #[.pointer (some ⟨p,0,none⟩)] w fun ee w'=>ee=.returned (.int .i64 (n:Nat))∧w'=w:=by
 go_enter Tryz.func252,Tryz.ntmps252
 go_wp2
 go_ret
 exact ⟨rfl,rfl⟩
set_option maxHeartbeats 1000000 in
theorem len_any (H:EN D w e c Q b) (hb:b≤900000) {ks:List ByteArray} (hn:ks.Nodup) (hm:∀ k,k∈ks↔∃ i,i<3∧k∈Q i) {n:Nat} (hl:ks.length=n+(Q 2).length):Calls Tryz.prog 236 #[.pointer (some ⟨e,0,none⟩)] w fun ee w'=>ee=.returned (.int .i64 (n:Nat))∧w'=w:=by
 have HE:Hid (EN D w e c Q b):=H
 have hc2:Calls Tryz.prog 253 #[.pointer (some ⟨e,0,none⟩),.int .i64 2] w fun ee w'=>ee=.returned (.int .i64 ((Q 2).length:Nat))∧w'=w:=count_any H (i:=2) (by omega)
 have hx:∃ x:Nat,w.cell? ⟨e,4,none⟩=some (.pointer (some ⟨x,0,none⟩))∧w.cell? ⟨x,3,none⟩=some (.int .i64 (ks.length:Nat))∧ks.length≤b:=by
  obtain ⟨L,R,x,m,sp,h,r⟩:=H
  obtain ⟨n',h1,h2,h3⟩:=IX_len h.ix
  have:=h3 ks hn (fun k=>by
   rw [hm k,ne_eq,r.none]
   constructor
   ·rintro ⟨i,hi,hk⟩ h4
    exact h4 i hi hk
   ·intro h4
    rcases Classical.em (∃ i,i<3∧k∈Q i) with h5 | h5
    ·exact h5
    ·exact absurd (fun i hi hk=>h5 ⟨i,hi,hk⟩) h4)
  rw [this]
  exact ⟨x,h.cells.2.2.1,h1,h2⟩
 obtain ⟨x,c6,c3,hle⟩:=hx
 have hxl:=xlen_any c3
 rw [hl] at hxl hle
 clear H hm hn
 generalize (Q 2).length=n2 at *
 clear hl c3
 go_enter Tryz.func236,Tryz.ntmps236
 go_wp2_with (first
  | (go_at_call 242;refine (blank_any HE.out).mono ?_;rintro ee w1 ⟨rfl,rfl⟩)
  | (go_at_call 252;refine Calls.mono hxl ?_;clear hxl;rintro ee w1 ⟨rfl,rfl⟩)
  | (go_at_call 253;refine Calls.mono hc2 ?_;clear hc2;rintro ee w1 ⟨rfl,rfl⟩))
 go_ret
 exact ⟨by go_num,rfl⟩
theorem most_any (H:EN D w e c Q b) (h1:1≤c) (hc:c≤1024):Calls Tryz.prog 255 #[.pointer (some ⟨e,0,none⟩)] w fun ee w'=>ee=.returned (.int .i64 ((c - max 1 (c / 10):Nat):Int))∧Below w.heap.size w w':=by
 obtain ⟨c0,c1,f1,heo,x,c6⟩:=EN.cells H
 clear H
 go_enter Tryz.func255,Tryz.ntmps255
 go_wp2_with fail
 go_quiet (fail)
 go_wp2
 go_ret
 exact ⟨by simp;omega,below_drewN (Below.refl _ w) _⟩
end
def qs (s:Stt):Nat→List ByteArray:=fun i=>if i=0 then s.t1 else if i=1 then s.b1 else s.t2
def AM (e _b:Nat) (s:Stt) (D:Nat→Prop) (w:World):Prop:=EN D w e s.c (qs s) 20000
theorem three {P:Nat→Prop} (h0:P 0) (h1:P 1) (h2:P 2):∀ i,i<3→P i:=by
 intro i hi
 have:i=0∨i=1∨i=2:=by omega
 rcases this with e | e | e <;> subst e <;> assumption
def Few (n:Nat) (s:Stt):Prop:=s.t1.length+s.b1.length+s.t2.length≤n
theorem Few.of {s:Stt} (h:A.Ok s):Few 5000 s:=by
 have h1:=h.toBase.small
 have h2:=h.res
 have h3:=h.gho
 have h4:=h.hi
 rw [A.keys_length] at h2
 unfold Few
 omega
section
variable {D:Nat→Prop} {w w':World} {e b:Nat} {s s':Stt}
theorem AM.below (H:AM e b s D w) (hb:Below w.heap.size w w'):AM e b s D w':=EN.below H hb
theorem AM.more {b':Nat} (H:AM e b s D w) (_:b≤b'):AM e b' s D w:=H
theorem lay_to (H:AM e b s D w) (hD:∀ k,w.heap.size≤k→D k) (k:ByteArray) (hk:k.size≤1000) (i:Nat) (hi:i<3) (hf:Few 19999 s) (hs:∀ j,j<3→qs s' j=layAt (qs s) k i j) (hc:s'.c=s.c) :
 Calls Tryz.prog 263 #[.pointer (some ⟨e,0,none⟩),.string k,.int .i64 (i:Nat)] w fun ee w'=>ee=.returned (.tuple #[])∧AM e b s' D w'∧Keeps D w w':=by
 refine (lay_any H hD (by omega) k hk i hi (by unfold Few at hf;simp only [qs];simp;omega)).mono ?_
 rintro ee w' ⟨rfl,h,hk⟩
 refine ⟨rfl,?_,hk⟩
 unfold AM
 rw [hc]
 exact EN.congr h hs
theorem leave_to (H:AM e b s D w) (hD:∀ k,w.heap.size≤k→D k) (k:ByteArray) (hk:k.size≤1000) (i:Nat) (hi:i<3) (hs:∀ j,j<3→qs s' j=cutAt (qs s) k i j) (hc:s'.c=s.c) :
 Calls Tryz.prog 259 #[.pointer (some ⟨e,0,none⟩),.string k,.int .i64 (i:Nat)] w fun ee w'=>ee=.returned (.tuple #[])∧AM e b s' D w'∧Keeps D w w':=by
 refine (leave_any H hD (by omega) k hk i hi).mono ?_
 rintro ee w' ⟨rfl,h,hk⟩
 refine ⟨rfl,?_,hk⟩
 unfold AM
 rw [hc]
 exact EN.congr h hs
theorem AM.size (H:AM e b s D w) {k:ByteArray} (h:k∈s.t1∨k∈s.b1∨k∈s.t2):k.size≤1000:=by
 rcases h with h | h | h
 ·exact EN.size (i:=0) H (by omega) h
 ·exact EN.size (i:=1) H (by omega) h
 ·exact EN.size (i:=2) H (by omega) h
theorem count0 (H:AM e b s D w):Calls Tryz.prog 253 #[.pointer (some ⟨e,0,none⟩),.int .i64 0] w fun ee w'=>ee=.returned (.int .i64 (s.t1.length:Nat))∧w'=w:=count_any H (i:=0) (by omega)
theorem count1 (H:AM e b s D w):Calls Tryz.prog 253 #[.pointer (some ⟨e,0,none⟩),.int .i64 1] w fun ee w'=>ee=.returned (.int .i64 (s.b1.length:Nat))∧w'=w:=count_any H (i:=1) (by omega)
theorem first0 (H:AM e b s D w) {k:ByteArray} {r:List ByteArray} (hq:s.t1=k::r):Calls Tryz.prog 262 #[.pointer (some ⟨e,0,none⟩),.int .i64 0] w fun ee w'=>ee=.returned (.string k)∧Below w.heap.size w w':=first_any H (by omega) (i:=0) (by omega) (r:=r) (by simp [qs,hq])
theorem keys_all (hB:A.Base s):(A.keys s++s.t2).Nodup∧∀ k,k∈A.keys s++s.t2↔∃ i,i<3∧k∈qs s i:=by
 constructor
 ·apply A.Once.nodup
  intro k
  rw [A.cnt_append]
  have h1:=hB.once k
  have h2:=hB.og k
  by_cases h:k∈s.t2
  ·have:=A.cnt_zero.2 (hB.ghost h)
   omega
  ·have:=A.cnt_zero.2 h
   omega
 ·intro k
  rw [List.mem_append,A.mem_keys,A.mem_hots]
  constructor
  ·rintro ((h | h) | h)
   ·exact ⟨1,by omega,h⟩
   ·exact ⟨0,by omega,h.1⟩
   ·exact ⟨2,by omega,h⟩
  ·rintro ⟨i,hi,h⟩
   have:i=0∨i=1∨i=2:=by omega
   rcases this with e | e | e <;> subst e
   ·have h:k∈s.t1:=h
    by_cases h1:k∈s.b1
    ·exact .inl (.inl h1)
    ·by_cases h2:k∈s.t2
     ·exact .inr h2
     ·exact .inl (.inr ⟨h,h1,h2⟩)
   ·exact .inl (.inl h)
   ·exact .inr h
theorem lenA (H:AM e b s D w) (hB:A.Base s):Calls Tryz.prog 236 #[.pointer (some ⟨e,0,none⟩)] w fun ee w'=>ee=.returned (.int .i64 ((A.keys s).length:Nat))∧w'=w :=
 len_any H (by omega) (keys_all hB).1 (keys_all hB).2 (n:=(A.keys s).length) (by simp [qs])
theorem hots_any (H:AM e b s D w) (hB:A.Base s):Calls Tryz.prog 254 #[.pointer (some ⟨e,0,none⟩)] w fun ee w'=>ee=.returned (.int .i64 ((A.hots s).length:Nat))∧w'=w:=by
 have hl:=lenA H hB
 have hc:=count1 H
 have hle:=EN.lens H (i:=1) (by omega)
 have hle:s.b1.length≤20000:=hle
 have hk:(A.keys s).length≤40000:=by
  rw [A.keys_length]
  have h2:s.t1.length≤20000:=EN.lens H (i:=0) (by omega)
  have:(A.hots s).length≤s.t1.length:=List.length_filter_le _ _
  omega
 have e1:=A.keys_length s
 clear H hB
 generalize (A.keys s).length=n at *
 generalize s.b1.length=n1 at *
 generalize (A.hots s).length=n2 at *
 go_enter Tryz.func254,Tryz.ntmps254
 go_wp2_with (first
  | (go_at_call 236;refine Calls.mono hl ?_;clear hl;rintro ee w1 ⟨rfl,rfl⟩)
  | (go_at_call 253;refine Calls.mono hc ?_;clear hc;rintro ee w1 ⟨rfl,rfl⟩))
 go_ret
 exact ⟨ret_int (by omega),rfl⟩
theorem mostA (H:AM e b s D w) (h1:1≤s.c) (hc:s.c≤1024):Calls Tryz.prog 255 #[.pointer (some ⟨e,0,none⟩)] w fun ee w'=>ee=.returned (.int .i64 ((A.most s:Nat):Int))∧Below w.heap.size w w':=most_any H h1 hc
theorem fullA (H:AM e b s D w) (hB:A.Base s):Calls Tryz.prog 244 #[.pointer (some ⟨e,0,none⟩)] w fun ee w'=>ee=.returned (.bool (decide (s.c≤(A.keys s).length)))∧Below w.heap.size w w':=by
 obtain ⟨c0,c1,f1,heo,x,c6⟩:=EN.cells H
 have hl:∀ q:Nat,Calls Tryz.prog 236 #[.pointer (some ⟨e,0,none⟩)] (w.drewN q) fun ee w'=>ee=.returned (.int .i64 ((A.keys s).length:Nat))∧w'=w.drewN q:=fun q=>lenA (H.below (below_drewN (Below.refl _ w) q)) hB
 clear H hB
 generalize (A.keys s).length=n at *
 go_enter Tryz.func244,Tryz.ntmps244
 go_wp2_with fail
 go_quiet (first | (go_at_call 236;exact Calls.quiet_of_same (hl _)))
 go_wp2
 go_ret
 exact ⟨rfl,below_drewN (Below.refl _ w) _⟩
end
end Go.Proofs.YtkkkkiejnmpdkaaGreatDoor.Lirs
