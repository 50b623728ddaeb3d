/- Lfu En: En Ea Ec Ed -/
import Derived.Test.YtkkkkiejnmpdkaaGreatDoorLs
import Derived.Test.YtkkkkiejnmpdkaaGreatDoorLfuIy
import Derived.Test.YtkkkkiejnmpdkaaGreatDoorLfuPu
import Derived.Test.YtkkkkiejnmpdkaaGreatDoorLfuSk
import Derived.Test.YtkkkkiejnmpdkaaGreatDoorLfuDr
import Derived.Deep.RegionHeld3
import Derived.BigRegion
import Derived.Deep.RegionWith
import Derived.Deep.Cut
import Derived.Deep.CutRange
import Derived.Deep.LoopGhost
import Derived.BigQuiet
import Derived.WalkSmall
namespace Go.Proofs.YtkkkkiejnmpdkaaGreatDoor.Lfu
open Go.RowKit
namespace Ls
open Go.Proofs.YtkkkkiejnmpdkaaGreatDoor.Ls
end Ls
structure Li where
 pr:Nat
 row:List Nat
 free:List Nat
 va:Nat→ByteArray
 n:Nat
abbrev LiAt (D:Nat→Prop) (w:World) (l:Li):Prop:=Ls.LA Value.string 234 152 D w l.pr l.row l.free l.va l.n
abbrev XAt (D:Nat→Prop) (w:World) (x:Nat) (m:ByteArray→Option Ix.Sp) (b:Nat):Prop:=Ix.IX 277 161 D w x m b
structure Dk where
 pd:Nat
 pk:Nat
 K:Nat
 bs:Nat→Bool
 N:Nat
 ct:Nat→Nat
 sm:Nat
def enc (c:Nat) (R:Nat→Li) (x pd pk:Nat):Array Value :=
 #[.int .i64 (c:Nat),.pointer (some ⟨(R 0).pr,0,none⟩),.pointer (some ⟨(R 1).pr,0,none⟩),.pointer (some ⟨(R 2).pr,0,none⟩),.pointer (some ⟨x,0,none⟩),.pointer (some ⟨pd,0,none⟩),.pointer (some ⟨pk,0,none⟩)]
structure EnIn (D:Nat→Prop) (L:Nat→Nat) (w:World) (e c:Nat) (R:Nat→Li) (x:Nat) (m:ByteArray→Option Ix.Sp) (b:Nat) (z:Dk):Prop where
 de:D e
 le:L e=5
 top:w.heap[e]? = some (.cells (enc c R x z.pd z.pk) 108 (0,0))
 li:∀ i,i<3→LiAt (fun k=>D k∧L k=i) w (R i)
 ix:XAt (fun k=>D k∧L k=4) w x m b
 dr:Dr.DR z.pd z.K z.bs (fun k=>D k∧L k=6) w
 sk:Sk.SK z.pk z.N z.ct z.sm (fun k=>D k∧L k=7) w
def nlab (L:Nat→Nat) (n i:Nat):Nat→Nat:=fun g=>if g<n then L g else i
theorem nlab_old {L:Nat→Nat} {n i g:Nat} (h:g<n):nlab L n i g=L g:=by simp [nlab,h]
theorem nlab_new {L:Nat→Nat} {n i g:Nat} (h:n≤g):nlab L n i g=i:=by simp [nlab,show ¬ g<n by omega]
section
variable {D D':Nat→Prop} {L:Nat→Nat} {w w':World} {e c:Nat} {R:Nat→Li} {x:Nat} {m m':ByteArray→Option Ix.Sp} {b b':Nat} {l:Li} {z:Dk}
theorem EnIn.cells (H:EnIn D L w e c R x m b z) :
 w.cell? ⟨e,0,none⟩=some (.int .i64 (c:Nat))∧w.frozen? ⟨e,0,none⟩=false∧w.cell? ⟨e,4,none⟩=some (.pointer (some ⟨x,0,none⟩)) ∧
 w.frozen? ⟨e,1,none⟩=false∧e<w.heap.size:=by
 have h:=H.top
 refine ⟨?_,frozen_of_block h,?_,frozen_of_block h,lt_of_block h⟩ <;> (rw [cell_of_block h];rfl)
theorem EnIn.four (H:EnIn D L w e c R x m b z) :
 w.cell? ⟨e,1,none⟩=some (.pointer (some ⟨(R 0).pr,0,none⟩))∧w.cell? ⟨e,2,none⟩=some (.pointer (some ⟨(R 1).pr,0,none⟩))∧w.cell? ⟨e,3,none⟩=some (.pointer (some ⟨(R 2).pr,0,none⟩)):=by
 have h:=H.top
 refine ⟨?_,?_,?_⟩ <;> (rw [cell_of_block h];rfl)
theorem EnIn.row (H:EnIn D L w e c R x m b z) {i:Nat} (hi:i<3):w.cell? ⟨e,1+i,none⟩=some (.pointer (some ⟨(R i).pr,0,none⟩)):=by
 obtain ⟨h0,h1,h2⟩:=H.four
 have:i=0∨i=1∨i=2:=by omega
 rcases this with e | e | e <;> subst e <;> assumption
theorem LiAt.old {D D':Nat→Prop} {w w':World} {l:Li} (h:LiAt D w l) (hk:Keeps D' w w') (hd:∀ k,k<w.heap.size→D k→¬ D' k):LiAt (fun k=>D k∧k<w.heap.size) w' l :=
 (Ls.LA.narrow h).kept hk (fun k e=>hd k e.2 e.1)
theorem XAt.old {D D':Nat→Prop} {w w':World} (h:XAt D w x m b) (hk:Keeps D' w w') (hd:∀ k,k<w.heap.size→D k→¬ D' k):XAt (fun k=>D k∧k<w.heap.size) w' x m b :=
 (Ix.IX.narrow h).kept hk (fun k e=>hd k e.2 e.1)
theorem DrAt.old {p K:Nat} {bs:Nat→Bool} {D D':Nat→Prop} {w w':World} (h:Dr.DR p K bs D w) (hk:Keeps D' w w') (hd:∀ k,k<w.heap.size→D k→¬ D' k):Dr.DR p K bs (fun k=>D k∧k<w.heap.size) w':=by
 obtain ⟨v,f,e,g,h⟩:=h
 exact ⟨v,f,e,g,h.narrow.kept hk (fun k e=>hd k e.2 e.1)⟩
theorem DrAt.wide {p K:Nat} {bs:Nat→Bool} {D D':Nat→Prop} {w:World} (h:Dr.DR p K bs D w) (hD:∀ k,k<w.heap.size→D k→D' k):Dr.DR p K bs D' w:=by
 obtain ⟨v,f,e,g,h⟩:=h
 exact ⟨v,f,e,g,h.narrow.wide (fun k e=>hD k e.2 e.1)⟩
theorem SkAt.old {p N s:Nat} {c:Nat→Nat} {D D':Nat→Prop} {w w':World} (h:Sk.SK p N c s D w) (hk:Keeps D' w w') (hd:∀ k,k<w.heap.size→D k→¬ D' k):Sk.SK p N c s (fun k=>D k∧k<w.heap.size) w':=by
 obtain ⟨f,g,h⟩:=h
 exact ⟨f,g,h.narrow.kept hk (fun k e=>hd k e.2 e.1)⟩
theorem SkAt.wide {p N s:Nat} {c:Nat→Nat} {D D':Nat→Prop} {w:World} (h:Sk.SK p N c s D w) (hD:∀ k,k<w.heap.size→D k→D' k):Sk.SK p N c s D' w:=by
 obtain ⟨f,g,h⟩:=h
 exact ⟨f,g,h.narrow.wide (fun k e=>hD k e.2 e.1)⟩
theorem EnIn.kept (H:EnIn D L w e c R x m b z) (hk:Keeps D' w w') (hd:∀ k,k<w.heap.size→D k→¬ D' k):EnIn D L w' e c R x m b z :=
 ⟨H.de,H.le,(hk.block e (lt_of_block H.top) (hd _ (lt_of_block H.top) H.de)).trans H.top,fun i hi=>((H.li i hi).old hk (fun k a h=>hd k a h.1)).wide (fun _ h=>h.1),(XAt.old H.ix hk (fun k a h=>hd k a h.1)).wide (fun _ h=>h.1),DrAt.wide (DrAt.old H.dr hk (fun k a h=>hd k a h.1)) (fun _ _ h=>h.1),SkAt.wide (SkAt.old H.sk hk (fun k a h=>hd k a h.1)) (fun _ _ h=>h.1)⟩
theorem EnIn.below (H:EnIn D L w e c R x m b z) (hb:Below w.heap.size w w'):EnIn D L w' e c R x m b z:=H.kept (D':=fun _=>False) (.of_below hb) (fun _ _ _ e=>e)
def own (D:Nat→Prop) (L:Nat→Nat) (n i:Nat):Nat→Prop:=fun k=>(D k∧L k=i)∨n≤k
theorem own_new (D:Nat→Prop) (L:Nat→Nat) (n i:Nat):∀ k,n≤k→own D L n i k:=fun _ h=>.inr h
theorem EnIn.list (H:EnIn D L w e c R x m b z) {i:Nat} (hi:i<3):LiAt (own D L w.heap.size i) w (R i):=Ls.LA.wide (H.li i hi) (fun _ h=>.inl h)
theorem EnIn.index (H:EnIn D L w e c R x m b z):XAt (own D L w.heap.size 4) w x m b:=Ix.IX.wide H.ix (fun _ h=>.inl h)
theorem nlab_own (hD:∀ k,w.heap.size≤k→D k) {i k:Nat} (h:own D L w.heap.size i k):D k∧nlab L w.heap.size i k=i:=by
 rcases Nat.lt_or_ge k w.heap.size with hk | hk
 ·rw [nlab_old hk]
  rcases h with h | h
  ·exact h
  ·omega
 ·exact ⟨hD k hk,nlab_new hk⟩
theorem own_not {i j k:Nat} (hij:j≠i) (hk:k<w.heap.size) (h:D k∧L k=j):¬ own D L w.heap.size i k:=by
 rintro (h2 | h2)
 ·exact hij (h.2.symm.trans h2.2)
 ·omega
theorem EnIn.putL (H:EnIn D L w e c R x m b z) (hD:∀ k,w.heap.size≤k→D k) {i:Nat} (hi:i<3) (hk:Keeps (own D L w.heap.size i) w w') (hl:LiAt (own D L w.heap.size i) w' l) (hp:l.pr=(R i).pr) :
 EnIn D (nlab L w.heap.size i) w' e c (fun j=>if j=i then l else R j) x m b z:=by
 have he:=lt_of_block H.top
 refine ⟨H.de,by rw [nlab_old he];exact H.le,?_,fun j hj=>?_,(XAt.old H.ix hk (fun k a h=>own_not (by omega) a h)).wide (fun k h=>⟨h.1.1,by rw [nlab_old h.2];exact h.1.2⟩),DrAt.wide (DrAt.old H.dr hk (fun k a h=>own_not (by omega) a h)) (fun k _ h=>⟨h.1.1,by rw [nlab_old h.2];exact h.1.2⟩),SkAt.wide (SkAt.old H.sk hk (fun k a h=>own_not (by omega) a h)) (fun k _ h=>⟨h.1.1,by rw [nlab_old h.2];exact h.1.2⟩)⟩
 ·rw [hk.block e he (own_not (j:=5) (by omega) he ⟨H.de,H.le⟩),H.top]
  have:enc c (fun j=>if j=i then l else R j) x z.pd z.pk=enc c R x z.pd z.pk:=by
   have:i=0∨i=1∨i=2:=by omega
   rcases this with e | e | e <;> subst e <;> simp [enc,hp]
  rw [this]
 ·by_cases hji:j=i
  ·subst hji
   rw [if_pos rfl]
   exact Ls.LA.wide hl (fun k h=>nlab_own hD h)
  ·rw [if_neg hji]
   exact ((H.li j hj).old hk (fun k a h=>own_not hji a h)).wide (fun k h=>⟨h.1.1,by rw [nlab_old h.2];exact h.1.2⟩)
theorem EnIn.putX (H:EnIn D L w e c R x m b z) (hD:∀ k,w.heap.size≤k→D k) (hk:Keeps (own D L w.heap.size 4) w w') (hx:XAt (own D L w.heap.size 4) w' x m' b') :
 EnIn D (nlab L w.heap.size 4) w' e c R x m' b' z:=by
 have he:=lt_of_block H.top
 refine ⟨H.de,by rw [nlab_old he];exact H.le,?_,fun j hj=>?_,Ix.IX.wide hx (fun k h=>nlab_own hD h),DrAt.wide (DrAt.old H.dr hk (fun k a h=>own_not (by omega) a h)) (fun k _ h=>⟨h.1.1,by rw [nlab_old h.2];exact h.1.2⟩),SkAt.wide (SkAt.old H.sk hk (fun k a h=>own_not (by omega) a h)) (fun k _ h=>⟨h.1.1,by rw [nlab_old h.2];exact h.1.2⟩)⟩
 ·rw [hk.block e he (own_not (j:=5) (by omega) he ⟨H.de,H.le⟩),H.top]
 ·exact ((H.li j hj).old hk (fun k a h=>own_not (by omega) a h)).wide (fun k h=>⟨h.1.1,by rw [nlab_old h.2];exact h.1.2⟩)
theorem EnIn.two (H:EnIn D L w e c R x m b z):w.cell? ⟨e,5,none⟩=some (.pointer (some ⟨z.pd,0,none⟩))∧w.cell? ⟨e,6,none⟩=some (.pointer (some ⟨z.pk,0,none⟩)):=by
 have h:=H.top
 refine ⟨?_,?_⟩ <;> (rw [cell_of_block h];rfl)
theorem own_keeps (hD:∀ k,w.heap.size≤k→D k) {i:Nat} (hk:Keeps (own D L w.heap.size i) w w'):Keeps D w w':=hk.mono (fun _ _ h=>(nlab_own (w:=w) hD h).1)
end
structure Rel (R:Nat→Li) (m:ByteArray→Option Ix.Sp) (Q:Nat→List ByteArray) (b:Nat):Prop where
 keys:∀ i,i<3→(R i).row.map (R i).va=Q i
 spot:∀ k i h,m k=some (i,h)↔i<3∧h∈(R i).row∧(R i).va h=k
 few:∀ i,i<3→(R i).n≤b
 size:∀ i,i<3→∀ k∈Q i,k.size≤1000
 nodup:∀ i,i<3→(R i).row.Nodup
section
variable {R:Nat→Li} {m:ByteArray→Option Ix.Sp} {Q:Nat→List ByteArray} {b:Nat}
theorem Rel.none (H:Rel R m Q b) {k:ByteArray}:m k=none↔∀ i,i<3→k∉Q i:=by
 constructor
 ·intro h i hi hk
  rw [← H.keys i hi,List.mem_map] at hk
  obtain ⟨a,ha,hv⟩:=hk
  have:=(H.spot k i a).2 ⟨hi,ha,hv⟩
  rw [h] at this;cases this
 ·intro h
  cases hm:m k with
  | none=>rfl
  | some v =>
    obtain ⟨i,a⟩:=v
    obtain ⟨h1,h2,h3⟩:=(H.spot k i a).1 hm
    exact absurd (by rw [← H.keys i h1];exact List.mem_map.2 ⟨a,h2,h3⟩) (h i h1)
theorem Rel.some (H:Rel R m Q b) {k:ByteArray} {i h:Nat} (hm:m k=some (i,h)):i<3∧k∈Q i∧∀ j,j<3→j≠i→k∉Q j:=by
 obtain ⟨h1,h2,h3⟩:=(H.spot k i h).1 hm
 refine ⟨h1,by rw [← H.keys i h1];exact List.mem_map.2 ⟨h,h2,h3⟩,fun j hj hne hk=>?_⟩
 rw [← H.keys j hj,List.mem_map] at hk
 obtain ⟨a,ha,hv⟩:=hk
 have:=(H.spot k j a).2 ⟨hj,ha,hv⟩
 rw [hm] at this
 cases this
 exact hne rfl
theorem Rel.lay (H:Rel R m Q b) {k:ByteArray} (hn:m k=Option.none) {i:Nat} (hi:i<3) (hs:k.size≤1000) (hh:Ls.handOf (R i).free (R i).n∉(R i).row) :
 Rel (fun j=>if j=i then { R i with row:=(R i).row++[Ls.handOf (R i).free (R i).n],free:=(R i).free.tail,va:=Ls.upd (R i).va (Ls.handOf (R i).free (R i).n) k,n:=Ls.moreOf (R i).free (R i).n } else R j)
  (Ix.put m k (.some (i,Ls.handOf (R i).free (R i).n))) (fun j=>if j=i then Q j++[k] else Q j) (b+1):=by
 have hno:=H.none.1 hn
 have hva:∀ a∈(R i).row,Ls.upd (R i).va (Ls.handOf (R i).free (R i).n) k a=(R i).va a:=fun a ha=>Ls.upd_far _ _ (by rintro rfl;exact hh ha)
 constructor
 ·intro j hj
  by_cases e:j=i
  ·subst e
   simp only [if_true,List.map_append,List.map_cons,List.map_nil,Ls.upd_same]
   rw [List.map_congr_left hva,H.keys j hj]
  ·simp only [if_neg e]
   exact H.keys j hj
 ·intro k' j a
  by_cases hk:k'=k
  ·subst hk
   rw [Ix.put_same]
   constructor
   ·intro e
    cases e
    refine ⟨hi,?_,?_⟩
    ·simp
    ·simp [Ls.upd_same]
   ·rintro ⟨h1,h2,h3⟩
    by_cases e:j=i
    ·subst e
     simp only [if_true,List.mem_append,List.mem_singleton] at h2 h3
     rcases h2 with h2 | h2
     ·rw [hva a h2] at h3
      exact absurd (by rw [← H.keys j h1];exact List.mem_map.2 ⟨a,h2,h3⟩) (hno j h1)
     ·rw [h2]
    ·simp only [if_neg e] at h2 h3
     exact absurd (by rw [← H.keys j h1];exact List.mem_map.2 ⟨a,h2,h3⟩) (hno j h1)
  ·rw [Ix.put_far hk,H.spot]
   by_cases e:j=i
   ·subst e
    simp only [if_true,List.mem_append,List.mem_singleton]
    constructor
    ·rintro ⟨h1,h2,h3⟩
     exact ⟨h1,.inl h2,by rw [hva a h2];exact h3⟩
    ·rintro ⟨h1,h2 | h2,h3⟩
     ·exact ⟨h1,h2,by rw [hva a h2] at h3;exact h3⟩
     ·subst h2
      rw [Ls.upd_same] at h3
      exact absurd h3.symm hk
   ·simp only [if_neg e]
 ·intro j hj
  have:=H.few j hj
  by_cases e:j=i
  ·subst e
   simp only [if_true,Ls.moreOf]
   split <;> omega
  ·simp only [if_neg e]
   omega
 ·intro j hj k' hk'
  by_cases e:j=i
  ·subst e
   simp only [if_true,List.mem_append,List.mem_singleton] at hk'
   rcases hk' with h | h
   ·exact H.size j hj k' h
   ·subst h;exact hs
  ·simp only [if_neg e] at hk'
   exact H.size j hj k' hk'
 ·intro j hj
  by_cases e:j=i
  ·subst e
   simp only [if_true]
   rw [List.nodup_append]
   refine ⟨H.nodup j hj,by simp,?_⟩
   intro a ha b' hb'
   simp at hb'
   subst hb'
   rintro rfl
   exact hh ha
  ·simp only [if_neg e]
   exact H.nodup j hj
end
def EM (D:Nat→Prop) (w:World) (e c:Nat) (Q:Nat→List ByteArray) (m:ByteArray→Option Ix.Sp) (b:Nat) (z:Dk):Prop:=∃ L R x,EnIn D L w e c R x m b z∧Rel R m Q b
def EN (D:Nat→Prop) (w:World) (e c:Nat) (Q:Nat→List ByteArray) (b:Nat) (z:Dk):Prop:=∃ m,EM D w e c Q m b z
section
variable {D D':Nat→Prop} {w w':World} {e c:Nat} {Q:Nat→List ByteArray} {m:ByteArray→Option Ix.Sp} {b:Nat} {z:Dk}
theorem EM.kept (H:EM D w e c Q m b z) (hk:Keeps D' w w') (hd:∀ k,k<w.heap.size→D k→¬ D' k):EM D w' e c Q m b z:=by
 obtain ⟨L,R,x,h,r⟩:=H;exact ⟨L,R,x,h.kept hk hd,r⟩
theorem EM.below (H:EM D w e c Q m b z) (hb:Below w.heap.size w w'):EM D w' e c Q m b z:=by
 obtain ⟨L,R,x,h,r⟩:=H;exact ⟨L,R,x,h.below hb,r⟩
theorem EM.drewN (H:EM D w e c Q m b z) (q:Nat):EM D (w.drewN q) e c Q m b z:=H.kept (D':=fun _=>False) ((Keeps.refl _ w).drewN q) (fun _ _ _ e=>e)
theorem EM.cells (H:EM D w e c Q m b z):w.cell? ⟨e,0,none⟩=some (.int .i64 (c:Nat))∧w.frozen? ⟨e,0,none⟩=false∧w.frozen? ⟨e,1,none⟩=false∧e<w.heap.size∧(∃ x,w.cell? ⟨e,4,none⟩=some (.pointer (some ⟨x,0,none⟩)))∧w.cell? ⟨e,5,none⟩=some (.pointer (some ⟨z.pd,0,none⟩))∧w.cell? ⟨e,6,none⟩=some (.pointer (some ⟨z.pk,0,none⟩)):=by
 obtain ⟨L,R,x,h,r⟩:=H
 obtain ⟨h0,h1,h2,h3,h4⟩:=h.cells
 exact ⟨h0,h1,h3,h4,⟨x,h2⟩,h.two⟩
theorem EM.congr {Q':Nat→List ByteArray} (H:EM D w e c Q m b z) (h:∀ i,i<3→Q' i=Q i):EM D w e c Q' m b z:=by
 obtain ⟨L,R,x,h1,r⟩:=H
 exact ⟨L,R,x,h1,fun i hi=>(r.keys i hi).trans (h i hi).symm,r.spot,r.few,fun i hi k hk=>r.size i hi k (by rw [← h i hi];exact hk),r.nodup⟩
theorem EM.size (H:EM D w e c Q m b z) {i:Nat} (hi:i<3) {k:ByteArray} (hk:k∈Q i):k.size≤1000:=by
 obtain ⟨L,R,x,h,r⟩:=H;exact r.size i hi k hk
theorem EM.out (H:EM D w e c Q m b z) {k:ByteArray}:m k=none↔∀ i,i<3→k∉Q i:=by
 obtain ⟨L,R,x,h,r⟩:=H;exact r.none
theorem EM.spot (H:EM D w e c Q m b z) {k:ByteArray} {i h:Nat} (hm:m k=some (i,h)):i<3∧k∈Q i∧∀ j,j<3→j≠i→k∉Q j:=by
 obtain ⟨L,R,x,h,r⟩:=H;exact r.some hm
theorem EM.has (H:EM D w e c Q m b z) {k:ByteArray} {i:Nat} (hi:i<3) (hk:k∈Q i):∃ h,m k=some (i,h):=by
 cases hm:m k with
 | none=>exact absurd hk (H.out.1 hm i hi)
 | some v =>
   obtain ⟨j,h⟩:=v
   obtain ⟨h1,h2,h3⟩:=H.spot hm
   by_cases e:i=j
   ·subst e;exact ⟨h,rfl⟩
   ·exact absurd hk (h3 i hi e)
theorem EN.cells (H:EN D w e c Q b z):w.cell? ⟨e,0,none⟩=some (.int .i64 (c:Nat))∧w.frozen? ⟨e,0,none⟩=false∧w.frozen? ⟨e,1,none⟩=false∧e<w.heap.size∧(∃ x,w.cell? ⟨e,4,none⟩=some (.pointer (some ⟨x,0,none⟩)))∧w.cell? ⟨e,5,none⟩=some (.pointer (some ⟨z.pd,0,none⟩))∧w.cell? ⟨e,6,none⟩=some (.pointer (some ⟨z.pk,0,none⟩)):=by
 obtain ⟨m,h⟩:=H;exact h.cells
end
end Go.Proofs.YtkkkkiejnmpdkaaGreatDoor.Lfu
namespace Go.Proofs.YtkkkkiejnmpdkaaGreatDoor.Lfu
open Go.RowKit
theorem below_trans {a b c:World} (h:Below a.heap.size a b) (k:Below b.heap.size b c):Below a.heap.size a c :=
 ((Keeps.of_below (D:=fun _=>False) h).trans (Keeps.of_below k)).below (Nat.le_refl _) (fun _ e=>e.elim)
def IntsAt (w:World) (g:Nat) (is:List Nat):Prop:=w.heap[g]? = some (.cells (is.map (fun i:Nat=>Value.int .i64 (i:Nat))).toArray 3 (0,0))
theorem IntsAt.at {w:World} {g:Nat} {is:List Nat} (h:IntsAt w g is) {j i:Nat} (hj:is[j]? = some i):w.cell? ⟨g,j,none⟩=some (.int .i64 (i:Nat)):=by
 rw [cell_of_block h,List.getElem?_toArray,List.getElem?_map,hj]
 rfl
section
variable {D:Nat→Prop} {w:World} {e c:Nat} {Q:Nat→List ByteArray} {m:ByteArray→Option Ix.Sp} {b:Nat} {z:Dk}
theorem blank_any (H:EM D w e c Q m b z):Calls Tryz.prog 312 #[.pointer (some ⟨e,0,none⟩)] w fun ee w'=>ee=.returned (.bool false)∧w'=w:=by
 obtain ⟨c0,c1,f1,heo,⟨x,c6⟩,-,-⟩:=H.cells
 clear H
 go_enter Tryz.func312,Tryz.ntmps312
 go_wp2
 go_ret
 exact ⟨rfl,rfl⟩
theorem EM.len (H:EM D w e c Q m b z) {i:Nat} (hi:i<3):∃ l:Li,(∀ q,LiAt (own D (fun _=>0) 0 0) (w.drewN q) l)∧w.cell? ⟨e,1+i,none⟩=some (.pointer (some ⟨l.pr,0,none⟩))∧l.row.length=(Q i).length∧l.n≤b:=by
 obtain ⟨L,R,x,H,r1⟩:=H
 refine ⟨R i,fun q=>Ls.LA.below (Ls.LA.wide (H.li i hi) (fun _ _=>.inr (Nat.zero_le _))) (below_drewN (Below.refl _ w) q),H.row hi,?_,r1.few i hi⟩
 rw [← r1.keys i hi,List.length_map]
theorem EM.lens (H:EM D w e c Q m b z) {i:Nat} (hi:i<3):(Q i).length≤b:=by
 obtain ⟨L,R,x,H,r1⟩:=H
 rw [← r1.keys i hi,List.length_map]
 obtain ⟨s,_,R',_,hn⟩:=H.li i hi
 have:=R'.len
 have:=r1.few i hi
 omega
set_option maxHeartbeats 1000000 in
theorem count_any (H:EM D w e c Q m b z) {i:Nat} (hi:i<3) :
 Calls Tryz.prog 317 #[.pointer (some ⟨e,0,none⟩),.int .i64 (i:Nat)] w fun ee w'=>ee=.returned (.int .i64 ((Q i).length:Nat))∧w'=w:=by
 obtain ⟨l,HL,c2,hlen,hln⟩:=H.len hi
 have HLq:Hid (LiAt (own D (fun _=>0) 0 0) w l):=HL 0
 clear H HL
 go_enter Tryz.func317,Tryz.ntmps317
 go_wp2_with (go_at_call 200;refine (Ls.len_any HLq.out).mono ?_;rintro ee w1 ⟨rfl,rfl⟩;rw [hlen])
 go_ret
 exact ⟨rfl,rfl⟩
def wr (c:Nat):Nat:=max (c / 8) 1
def mr (c:Nat):Nat:=c - wr c
def pr (c:Nat):Nat:=mr c*4 / 5
theorem wr_le {c:Nat} (h:1≤c):wr c≤c:=by unfold wr;omega
theorem window_any (H:EM D w e c Q m b z) (hc:c≤1024):Calls Tryz.prog 318 #[.pointer (some ⟨e,0,none⟩)] w fun ee w'=>ee=.returned (.int .i64 ((wr c:Nat):Int))∧w'=w:=by
 obtain ⟨c0,c1,f1,heo,⟨x,c6⟩,-,-⟩:=H.cells
 clear H
 unfold wr
 go_enter Tryz.func318,Tryz.ntmps318
 go_wp2
 go_ret
 exact ⟨by simp;omega,rfl⟩
theorem main_any (H:EM D w e c Q m b z) (h1:1≤c) (hc:c≤1024):Calls Tryz.prog 334 #[.pointer (some ⟨e,0,none⟩)] w fun ee w'=>ee=.returned (.int .i64 ((mr c:Nat):Int))∧Below w.heap.size w w':=by
 obtain ⟨c0,c1,f1,heo,⟨x,c6⟩,-,-⟩:=H.cells
 have hw:=window_any H hc
 have hw2:=fun q=>window_any (EM.drewN H q) hc
 have HW2:Hid _:=hw2
 have hle:=wr_le h1
 have hm:((mr c:Nat):Int)=(c:Int) - (wr c:Nat):=by unfold mr;omega
 rw [hm]
 clear H hw2 hm
 generalize wr c=n at *
 go_enter Tryz.func334,Tryz.ntmps334
 go_wp2_with fail
 go_quiet (first | (go_at_call 318;exact Calls.quiet_of_same (HW2.out _)))
 go_wp2
 go_ret
 exact ⟨by go_num,below_drewN (Below.refl _ w) _⟩
theorem full_any (H:EM D w e c Q m b z) (h1:1≤c) (hc:c≤1024) (hb:b≤900000):Calls Tryz.prog 323 #[.pointer (some ⟨e,0,none⟩)] w fun ee w'=>ee=.returned (.bool (decide (mr c≤(Q 1).length+(Q 2).length)))∧Below w.heap.size w w':=by
 have hm:=main_any H h1 hc
 have hc1:=count_any H (i:=1) (by omega)
 have hc2:=count_any H (i:=2) (by omega)
 have l1:=H.lens (i:=1) (by omega)
 have l2:=H.lens (i:=2) (by omega)
 have HX:Hid (decide (((mr c:Nat):Int)≤((Q 1).length:Int)+((Q 2).length:Int))=decide (mr c≤(Q 1).length+(Q 2).length)):=decide_eq_decide.2 (by omega)
 clear H
 generalize (Q 1).length=n1 at *
 generalize (Q 2).length=n2 at *
 have hmr:mr c≤1024:=by unfold mr;omega
 generalize mr c=n at *
 go_enter Tryz.func323,Tryz.ntmps323
 go_wp2_with (first
  | (go_at_call 317;refine Calls.mono hc1 ?_;clear hc1;rintro ee w1 ⟨rfl,rfl⟩)
  | (go_at_call 317;refine Calls.mono hc2 ?_;clear hc2;rintro ee w1 ⟨rfl,rfl⟩)
  | (go_at_call 334;refine Calls.mono hm ?_;clear hm;rintro ee w1 ⟨rfl,hb1⟩))
 go_ret
 exact ⟨congrArg (fun x=>Ending.returned (Value.bool x)) HX.out,hb1⟩
end
end Go.Proofs.YtkkkkiejnmpdkaaGreatDoor.Lfu
namespace Go.Proofs.YtkkkkiejnmpdkaaGreatDoor.Lfu
open Go.RowKit
theorem nodup_len {α:Type} [DecidableEq α] {l m:List α} (h:l.Nodup) (hs:∀ x∈l,x∈m):l.length≤m.length:=by
 induction l generalizing m with
 | nil=>simp
 | cons x l ih =>
   rw [List.nodup_cons] at h
   have hx:x∈m:=hs x (by simp)
   have:=ih (m:=m.erase x) h.2 (fun y hy=>by
    have hne:y≠x:=by rintro rfl;exact h.1 hy
    exact (List.mem_erase_of_ne hne).2 (hs y (by simp [hy])))
   rw [List.length_erase_of_mem hx] at this
   have:0<m.length:=List.length_pos_of_mem hx
   simp
   omega
def laid (Q:Nat→List ByteArray) (k:ByteArray) (i:Nat):Nat→List ByteArray:=fun j=>if j=i then A.cut (Q j) k++[k] else A.cut (Q j) k
def pushR (R:Nat→Li) (i:Nat) (k:ByteArray):Nat→Li:=fun j=>if j=i then { R i with row:=(R i).row++[Ls.handOf (R i).free (R i).n],free:=(R i).free.tail,va:=Ls.upd (R i).va (Ls.handOf (R i).free (R i).n) k,n:=Ls.moreOf (R i).free (R i).n } else R j
section
variable {R:Nat→Li} {m:ByteArray→Option Ix.Sp} {Q:Nat→List ByteArray} {b:Nat}
theorem Rel.fits (H:Rel R m Q b) (l:List ByteArray) (hn:l.Nodup) (hs:∀ k∈l,m k≠Option.none):l.length≤(Q 0).length+(Q 1).length+(Q 2).length:=by
 have:=nodup_len (m:=Q 0++Q 1++Q 2) hn (fun k hk=>by
  have h1:=hs k hk
  cases hm:m k with
  | none=>exact absurd hm h1
  | some v =>
    obtain ⟨i,h⟩:=v
    obtain ⟨h2,h3,-⟩:=H.some hm
    have:i=0∨i=1∨i=2:=by omega
    rcases this with e | e | e <;> subst e <;> simp [h3])
 simp at this
 omega
theorem Rel.tight {b':Nat} (H:Rel R m Q b') (h:∀ i,i<3→(R i).n≤b):Rel R m Q b:=⟨H.keys,H.spot,h,H.size,H.nodup⟩
theorem Rel.lens (H:Rel R m Q b) {i:Nat} (hi:i<3):(R i).row.length=(Q i).length:=by rw [← H.keys i hi,List.length_map]
theorem Rel.push (H:Rel R m Q b) {k:ByteArray} (hn:m k=Option.none) {i:Nat} (hi:i<3) (hs:k.size≤1000) (hh:Ls.handOf (R i).free (R i).n∉(R i).row) (hl:(R i).row.length+(R i).free.length=(R i).n) (hf:(Q i).length+1≤b) :
 Rel (pushR R i k) (Ix.put m k (.some (i,Ls.handOf (R i).free (R i).n))) (laid Q k i) b:=by
 have h1:=(H.lay hn hi hs hh).tight (b:=b) (fun j hj=>by
  by_cases e:j=i
  ·subst e
   simp only [if_true,Ls.moreOf]
   have h2:=H.lens hj
   have h3:=H.few j hj
   split
   ·rename_i hf2
    rw [hf2] at hl
    simp at hl
    omega
   ·exact h3
  ·simp only [if_neg e]
   exact H.few j hj)
 have hQ:(fun j=>if j=i then Q j++[k] else Q j)=fun j=>if j=i then Q j++[k] else Q j:=rfl
 have hno:=H.none.1 hn
 refine ⟨fun j hj=>?_,h1.spot,h1.few,fun j hj k' hk'=>?_,h1.nodup⟩
 ·refine (h1.keys j hj).trans ?_
  unfold laid
  by_cases e:j=i
  ·subst e;simp only [if_true];rw [A.cut_same (hno j hj)]
  ·simp only [if_neg e];rw [A.cut_same (hno j hj)]
 ·refine h1.size j hj k' ?_
  unfold laid at hk'
  by_cases e:j=i
  ·subst e;simp only [if_true] at hk' ⊢;rw [A.cut_same (hno j hj)] at hk';exact hk'
  ·simp only [if_neg e] at hk' ⊢;rw [A.cut_same (hno j hj)] at hk';exact hk'
end
section
variable {D:Nat→Prop} {w:World} {e c:Nat} {Q:Nat→List ByteArray} {m:ByteArray→Option Ix.Sp} {b:Nat} {z:Dk}
theorem EM.get (H:EM D w e c Q m b z) (hb:b≤900000) (key:ByteArray) (hk:key.size≤1000) :
 ∃ x,w.cell? ⟨e,4,none⟩=some (.pointer (some ⟨x,0,none⟩)) ∧
  Calls Tryz.prog 314 #[.pointer (some ⟨x,0,none⟩),.string key] w fun ee w'=>ee=.returned (.tuple #[Ix.V ((m key).getD (0,0)),.bool (m key).isSome])∧Below w.heap.size w w':=by
 obtain ⟨L,R,x,H,r⟩:=H
 refine ⟨x,H.cells.2.2.1,?_⟩
 cases hm:m key with
 | none=>exact Ix.get_miss H.index (by omega) key (by unfold maxLen;omega) hm
 | some v=>exact Ix.get_hit H.index (by omega) key (by unfold maxLen;omega) hm
theorem EM.at (H:EM D w e c Q m b z) (hb:b≤900000) {k:ByteArray} {i h:Nat} (hm:m k=some (i,h)) :
 ∃ p,w.cell? ⟨e,1+i,none⟩=some (.pointer (some ⟨p,0,none⟩))∧Calls Tryz.prog 212 #[.pointer (some ⟨p,0,none⟩),.int .i64 (h:Nat)] w fun ee w'=>ee=.returned (.tuple #[.string k,.bool true])∧w'=w:=by
 obtain ⟨L,R,x,H,r⟩:=H
 obtain ⟨hi,hin,hv⟩:=(r.spot k i h).1 hm
 refine ⟨(R i).pr,H.row hi,?_⟩
 have:=Ls.get_in (H.list hi) h hin (by have:=r.few i hi;omega)
 rw [hv] at this
 exact this
end
end Go.Proofs.YtkkkkiejnmpdkaaGreatDoor.Lfu
namespace Go.Proofs.YtkkkkiejnmpdkaaGreatDoor.Lfu
open Go.RowKit
section
variable {D:Nat→Prop} {L:Nat→Nat} {w:World} {e c x:Nat} {R:Nat→Li} {Q:Nat→List ByteArray} {m:ByteArray→Option Ix.Sp} {b:Nat} {z:Dk}
def Laid (D:Nat→Prop) (w:World) (e c:Nat) (R:Nat→Li) (x:Nat) (m:ByteArray→Option Ix.Sp) (b:Nat) (z:Dk):Prop:=∃ L,EnIn D L w e c R x m b z
theorem push_end {w2:World} {k:ByteArray} {i:Nat} (hi:i<3) (hD:∀ k,w.heap.size≤k→D k) (H:EnIn D L w e c R x m b z)
 (hl:Ls.LA Value.string 234 152 (own D L w.heap.size i) w2 (R i).pr ((R i).row++[Ls.handOf (R i).free (R i).n]) (R i).free.tail (Ls.upd (R i).va (Ls.handOf (R i).free (R i).n) k) (Ls.moreOf (R i).free (R i).n)) (hk:Keeps (own D L w.heap.size i) w w2) :
 EnIn D (nlab L w.heap.size i) w2 e c (pushR R i k) x m b z∧Keeps D w w2 :=
 ⟨H.putL hD hi hk hl rfl,own_keeps hD hk⟩
theorem EnIn.drew (H:EnIn D L w e c R x m b z):EnIn D L w.drew e c R x m b z:=H.kept (D':=fun _=>False) (Keeps.refl _ w).drew (fun _ _ _ e=>e)
set_option maxHeartbeats 1000000 in
theorem lay_in (H:EnIn D L w e c R x m b z) (hD:∀ k,w.heap.size≤k→D k) (hb:b≤900000) (k:ByteArray) (hk:k.size≤1000) (i:Nat) (hi:i<3) (hn:(R i).n≤900000) (hfit:∀ l:List ByteArray,l.Nodup→(∀ k∈l,m k≠none)→l.length+1≤b) :
 Calls Tryz.prog 331 #[.pointer (some ⟨e,0,none⟩),.string k,.int .i64 (i:Nat)] w fun ee w'=>ee=.returned (.tuple #[])∧Laid D w' e c (pushR R i k) x (Ix.put m k (some (i,Ls.handOf (R i).free (R i).n))) b z∧Keeps D w w':=by
 have HH:Hid (EnIn D L w e c R x m b z):=H
 have HD:Hid (∀ k,w.heap.size≤k→D k):=hD
 have HF:Hid (∀ l:List ByteArray,l.Nodup→(∀ k∈l,m k≠none)→l.length+1≤b):=hfit
 obtain ⟨c0,c1,c4,f1,heo⟩:=H.cells
 have hr:=H.row hi
 clear H hD hfit
 go_enter Tryz.func331,Tryz.ntmps331
 go_wp2_with fail
 go_region_with (first
  | (go_at_call 196;refine (Ls.pushBack_any (HH.out.drew.list hi) (own_new _ _ _ _) k hn).mono ?_;rintro ee w3 ⟨rfl,hl3,hk3⟩;have h3:=push_end hi (w:=w.drew) HD.out HH.out.drew hl3 hk3;have H3:Hid (EnIn D _ w3 e c (pushR R i k) x m b z):=h3.1;have HK3:Hid (Keeps D w w3):=(Keeps.undrew h3.2);have c43:=h3.1.cells.2.2.1;have heo3:=lt_of_block h3.1.top;clear hl3 hk3 h3 c0 c1 f1)
  | (go_at_call 345;refine (Ix.put_fit H3.out.index (own_new _ _ _ _) k hk (i,Ls.handOf (R i).free (R i).n) (by omega) HF.out).mono ?_;rintro ee w4 ⟨rfl,hx4,hk4⟩))
 all_goals
  go_end0
  have HD3:∀ k,w3.heap.size≤k→D k:=fun k h=>HD.out k (Nat.le_trans HK3.out.size h)
  exact ⟨rfl,⟨_,H3.out.putX HD3 hk4 hx4⟩,HK3.out.trans (own_keeps HD3 hk4)⟩
end
end Go.Proofs.YtkkkkiejnmpdkaaGreatDoor.Lfu
