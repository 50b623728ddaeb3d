/- common Ag: Ag -/
import Derived.Test.YtkkkkiejnmpdkaaGreatDoorTx
import Derived.Deep.Strs
import Derived.ProofKit
import Derived.OpenShut
import Derived.SizedLaws
import Derived.WideShapes
namespace Go.Proofs.YtkkkkiejnmpdkaaGreatDoor
open Go.RowKit Go.ChangeShapes Go.WideShapes
theorem plain_addr {w:World} {x:Addr} {v:Value} (h:w.cell? (x.add 0)=some v):x=⟨x.block,x.off,none⟩:=by
 obtain ⟨b,off,spot⟩:=x
 have hs:spot=none:=by simpa [Addr.add] using World.cell?_spot h
 subst hs
 rfl
def RowIn {β:Type} (V:β→Value) (w:World) (ad:Option Addr) (zs:List β):Prop :=
 zs=[]∨∃ g off,ad=some ⟨g,off,none⟩∧∀ i z,zs[i]? = some z→w.cell? ⟨g,off+i,none⟩=some (V z)
theorem row_in {β:Type} [Inhabited β] {V:β→Value} {w:World} {x:Addr} {n:Nat} {f:Nat→β} (h:∀ i,i<n→w.cell? (x.add i)=some (V (f i))):RowIn V w (some x) ((List.range n).map f):=by
 rcases Nat.eq_zero_or_pos n with h0 | h0
 ·subst h0;exact .inl rfl
 ·have hx:=plain_addr (h 0 h0)
  rw [hx] at h ⊢
  refine .inr ⟨_,_,rfl,fun i z hz=>?_⟩
  rw [List.getElem?_map] at hz
  by_cases hi:i<n
  ·rw [List.getElem?_range hi] at hz
   simp at hz
   have:=h i hi
   rw [add_plain] at this
   rw [this,hz]
  ·simp [hi] at hz
theorem RowIn.later {β:Type} {V:β→Value} {w w':World} {ad:Option Addr} {zs:List β} (h:RowIn V w ad zs) (hb:Below w.heap.size w w'):RowIn V w' ad zs:=by
 rcases h with h | ⟨g,off,e,h⟩
 ·exact .inl h
 ·exact .inr ⟨g,off,e,fun i z hz=>cell_later hb (h i z hz)⟩
theorem RowIn.at {β:Type} {V:β→Value} {w:World} {ad:Option Addr} {zs:List β} (h:RowIn V w ad zs) {i:Nat} {z:β} (hz:zs[i]? = some z):∃ g off,ad=some ⟨g,off,none⟩∧w.cell? ⟨g,off+i,none⟩=some (V z):=by
 rcases h with h | ⟨g,off,e,h⟩
 ·subst h;simp at hz
 ·exact ⟨g,off,e,h i z hz⟩
section
variable {H:Type} {enc:TypeId × Value→H} {W:World} {a:Option Addr} {len cap:Nat} {d:DataW H} {ps:List MemPlace}
theorem mem_weightsAll {P:Program} {e:TypeId} {x:DataW H} {y:Nat}:∀ {l:List (DataW H)},x∈l→y∈DataW.weights P e x→y∈DataW.weightsAll P e l
 | z::l,hx,hy=>by
   rw [DataW.weightsAll,List.mem_append]
   rcases List.mem_cons.1 hx with rfl | hx
   ·exact .inl hy
   ·exact .inr (mem_weightsAll hx hy)
theorem open_texts (h:DataW.Trod enc Tryz.prog W 0 (fun _=>true) true 38 (.slice a len cap) d ps):∃ zs:List ByteArray,zs.length=len∧len≤maxLen∧RowIn Value.string W a zs∧∀ z∈zs,z.size∈DataW.weights Tryz.prog 38 d:=by
 obtain ⟨fuel,hf⟩:=h
 rcases Go.Deep.open_strs Tryz.underlying38 Tryz.underlying9 (by kernel_rfl) hf with ⟨hcs,_⟩ | ⟨x,l,c,m,Sx,hcs,_,hl,hm,hmm,hd,hcell⟩
 ·simp [Value.cells] at hcs
  obtain ⟨rfl,rfl,rfl⟩:=hcs
  exact ⟨[],rfl,Nat.zero_le _,.inl rfl,by simp⟩
 ·simp [Value.cells] at hcs
  obtain ⟨rfl,rfl,rfl⟩:=hcs
  have hlm:len≤m:=by rw [hmm];simp;omega
  refine ⟨(List.range len).map Sx,by simp,by omega,row_in (fun i hi=>(hcell i (by omega)).1),?_⟩
  intro z hz
  simp at hz
  obtain ⟨i,hi,rfl⟩:=hz
  simp only [Prod.mk.injEq] at hd
  rw [hd.1,DataW.weights,Tryz.underlying38]
  refine List.mem_cons_of_mem _ (List.mem_append_left _ ?_)
  refine mem_weightsAll (x:=.lit (.string (Sx i).data.toList)) (List.mem_map.2 ⟨i,by simpa using hi,rfl⟩) ?_
  simp [DataW.weights]
theorem reach_first {t:TypeId} {ts:List TypeId} {ds:List (DataW H)} {n:Nat} (hsz:(DataW.weightsEach Tryz.prog (t::ts) (d::ds)).all (·≤reachBytes)=true) (h:n∈DataW.weights Tryz.prog t d):n≤140737488351232:=by
 have:=List.all_eq_true.1 hsz n (by rw [DataW.weightsEach];exact List.mem_append_left _ h)
 exact of_decide_eq_true this
end
section
variable {H:Type} {t:TypeId} {ts:List TypeId} {d:DataW H} {ds:List (DataW H)}
theorem reach_tail (hsz:(DataW.weightsEach Tryz.prog (t::ts) (d::ds)).all (·≤reachBytes)=true):(DataW.weightsEach Tryz.prog ts ds).all (·≤reachBytes)=true:=by
 rw [DataW.weightsEach,List.all_append,Bool.and_eq_true] at hsz
 exact hsz.2
end
theorem texts_beq (x y:ByteArray):(x.toList==y.toList)=decide (x=y):=by
 by_cases h:x=y
 ·subst h;simp
 ·have:¬ x.toList=y.toList:=by
   intro e
   rw [ByteArray.toList_eq,ByteArray.toList_eq] at e
   exact h (Go.WideShapes.bytes_inj e)
  simp [h,this]
end Go.Proofs.YtkkkkiejnmpdkaaGreatDoor
