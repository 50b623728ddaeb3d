/- common Ls: Lm Lp La Lb Lc Cn -/
import Derived.Test.YtkkkkiejnmpdkaaGreatDoorTx
import Derived.Maps.AppendAt
import Derived.BigRegion
import Derived.Deep.RegionWith
import Derived.Deep.Cut
import Derived.Deep.CutRange
import Derived.BigQuiet
import Derived.WalkSmall
import Derived.WideShapes
namespace Go.Proofs.YtkkkkiejnmpdkaaGreatDoor
open Go.RowKit
end Go.Proofs.YtkkkkiejnmpdkaaGreatDoor
namespace Go.Proofs.YtkkkkiejnmpdkaaGreatDoor.Ls
open Go.RowKit
def FromRow (w:World) (size:Nat) (a:Option Addr) (m c:Nat) (news:List Value):Prop :=
 (a=none∧m=0∧c=0∧news=[])∨∃ x,a=some x∧news.length=m*size∧(∀ j u,news[j]? = some u→w.cell? (x.add j)=some u)∧∀ u∈news,u.oneCell'=true
theorem run_append_from {P:Program} (w:World) (base:Nat) (t ty e:TypeId) (i:TypeInfo) (z:Value) (size bytes:Nat) (ht:P.underlying t=some (.slice e)) (hi:P.info? e=some i) (hz:i.zero=some z)
 (hsize:i.size=size) (hby:i.bytes=bytes) (hzs:z.cells.size=size) (hsz:0<size)
 (v:Value) (n:Nat) (xs:List Value) (hown:w.ownsRow base e size v n xs) (a:Option Addr) (m c:Nat) (news:List Value) (hsrc:FromRow w size a m c news)
 (h63:n+m≤maxLen) (hbytes:(n+m)*bytes≤140737488355328) (hbase:base≤w.heap.size) :
 ∃ v' w',(Builtin.append_ #[t,t] ty #[v,.slice a m c]).run P w=.ok v' w'∧w'.ownsRow base e size v' (n+m) (xs++news)∧w.grownBy w' v.ownBlock∧(v'.ownBlock=v.ownBlock∨v'.ownBlock=some w.heap.size):=by
 rcases hsrc with ⟨rfl,rfl,rfl,rfl⟩ | ⟨x,rfl,hl,hc,h1⟩
 ·exact ⟨v,w,run_append_owned_none w base t ty e i size ht hi v n xs hown,by simpa using hown,World.grownBy.refl _ _,.inl rfl⟩
 ·obtain ⟨v',w',h,h2,h3,_,h5⟩:=run_append_own_at (P:=P) w base t ty e i z size bytes ht hi hz hsize hby hzs hsz v n xs hown x m c news hl hc h1 h63 hbytes hbase
  exact ⟨v',w',h,h2,h3,h5⟩
theorem ownsRow_shape {w:World} {base:Nat} {e:TypeId} {size:Nat} {v:Value} {n:Nat} {xs:List Value} (h:w.ownsRow base e size v n xs):∃ ad cap,v=.slice ad n cap∧n≤cap:=by
 rcases h.2 with ⟨rfl,rfl⟩ | ⟨g,cap,cur,rfl,_,_,hn,_⟩
 ·exact ⟨none,0,rfl,Nat.le_refl _⟩
 ·exact ⟨_,cap,rfl,hn⟩
theorem wpList_append_from {P:Program} (w:World) {ops:Array Oper} {rest:List Oper} {o:Oper} {a:Act} {Q:Exit→Act→World→Prop} (hgd:o.guard=none) (s x:Operand) (t:TypeId)
 (ho:o.op=.call { callee:=.builtin .append,args:=#[s,x],argTypes:=#[t,t] })
 (base:Nat) (e:TypeId) (i:TypeInfo) (z:Value) (size bytes:Nat) (ht:P.underlying t=some (.slice e)) (hi:P.info? e=some i) (hz:i.zero=some z)
 (hsize:i.size=size) (hby:i.bytes=bytes) (hzs:z.cells.size=size) (hsz:0<size)
 (v:Value) (n:Nat) (xs:List Value) (hs:a.eval s=v) (hown:w.ownsRow base e size v n xs) (ad:Option Addr) (m c:Nat) (news:List Value) (hx:a.eval x=.slice ad m c) (hsrc:FromRow w size ad m c news)
 (h63:n+m≤maxLen) (hbytes:(n+m)*bytes≤140737488355328) (hbase:base≤w.heap.size)
 (h:∀ ad' cap' w',n+m≤cap'→w'.ownsRow base e size (.slice ad' (n+m) cap') (n+m) (xs++news)→w.grownBy w' v.ownBlock→((Value.slice ad' (n+m) cap').ownBlock=v.ownBlock∨(Value.slice ad' (n+m) cap').ownBlock=some w.heap.size) →
   wpList P ops Q rest (a.put o.dst (.slice ad' (n+m) cap')) w'):wpList P ops Q (o::rest) a w:=by
 refine wpList_plain hgd fun K hK=>?_
 obtain ⟨v',w',hrun,h2,h3,h4⟩:=run_append_from (P:=P) w base t o.type e i z size bytes ht hi hz hsize hby hzs hsz v n xs hown ad m c news hsrc h63 hbytes hbase
 obtain ⟨ad',cap',rfl,hc⟩:=ownsRow_shape h2
 unfold Oper.wp
 simp [execOp,ho,resolve,invoke,builtin,hs,hx,hrun,Result.andThen]
 exact hK _ _ (h ad' cap' w' hc h2 h3 h4)
theorem ownsRow_setCell {w:World} {base:Nat} {e:TypeId} {size n cap g k:Nat} {xs:List Value} {u:Value} (h:w.ownsRow base e size (.slice (some ⟨g,0,none⟩) n cap) n xs) :
 (w.setCell ⟨g,k,none⟩ u).ownsRow base e size (.slice (some ⟨g,0,none⟩) n cap) n (xs.set k u):=by
 refine ⟨by simpa using h.1,?_⟩
 rcases h.2 with ⟨h0,_⟩ | ⟨g',cap',cur,hv,hb,hg,hn,hc,hcs,ht⟩
 ·cases h0
 ·cases hv
  refine .inr ⟨g,cap,cur.set! k u,rfl,hb,block_setCell hg,hn,hc,by simpa using hcs,?_⟩
  rw [← ht]
  simp only [Array.set!_eq_setIfInBounds,Array.toList_setIfInBounds,List.take_set]
theorem ownsRow_setCell_far {w:World} {base:Nat} {e:TypeId} {size n:Nat} {v:Value} {xs:List Value} {a:Addr} {u:Value} (h:w.ownsRow base e size v n xs) (hne:v.ownBlock≠some a.block) :
 (w.setCell a u).ownsRow base e size v n xs:=by
 refine ⟨h.1,?_⟩
 rcases h.2 with h0 | ⟨g',cap',cur,hv,hb,hg,r⟩
 ·exact .inl h0
 ·refine .inr ⟨g',cap',cur,hv,hb,?_,r⟩
  rw [Below.heap_setCell _ _ _ _ (by intro e;apply hne;subst hv;simp [Value.ownBlock,e])]
  exact hg
theorem ownsRow_block {w:World} {base:Nat} {e:TypeId} {size n:Nat} {ad:Option Addr} {cap:Nat} {xs:List Value} (h:w.ownsRow base e size (.slice ad n cap) n xs) (hn:0<n) :
 ∃ g cur,ad=some ⟨g,0,none⟩∧base≤g∧w.heap[g]? = some (.cells cur e (0,0))∧∀ k u,xs[k]? = some u→w.cell? ⟨g,k,none⟩=some u:=by
 rcases h.2 with ⟨_,h0⟩ | ⟨g,cap',cur,hv,hb,hg,_⟩
 ·omega
 ·cases hv
  exact ⟨g,cur,rfl,hb,hg,fun k u hu=>by simpa [Addr.add_lit] using h.cells (g:=g) rfl k u hu⟩
theorem cell_four_new (w:World) (a b c d:Value) (t:TypeId):FromRow (w.alloc (.cells #[a,b,c,d] t)) 4 (some ⟨w.heap.size,0,none⟩) 1 1 [a,b,c,d]∨¬ (a.oneCell'=true∧b.oneCell'=true∧c.oneCell'=true∧d.oneCell'=true):=by
 by_cases h:a.oneCell'=true∧b.oneCell'=true∧c.oneCell'=true∧d.oneCell'=true
 ·refine .inl (.inr ⟨_,rfl,rfl,?_,?_⟩)
  ·intro j u hu
   have:=heap_alloc_new w (.cells #[a,b,c,d] t)
   rw [show (⟨w.heap.size,0,none⟩:Addr).add j=⟨w.heap.size,j,none⟩ by simp [Addr.add_lit],cell_of_block this]
   simpa using hu
  ·intro u hu
   simp at hu
   rcases hu with rfl | rfl | rfl | rfl <;> simp [h]
 ·exact .inr h
structure St (α:Type) where
 pv:Nat→Nat
 nx:Nat→Nat
 th:Nat→Bool
 va:Nat→α
 free:Nat
 n:Nat
 count:Nat
def upd {β:Type} (f:Nat→β) (k:Nat) (x:β):Nat→β:=fun j=>if j=k then x else f j
theorem upd_same {β:Type} (f:Nat→β) (k:Nat) (x:β):upd f k x k=x:=by simp [upd]
theorem upd_far {β:Type} (f:Nat→β) {k j:Nat} (x:β) (h:j≠k):upd f k x j=f j:=by simp [upd,h]
def St.cell {α:Type} (V:α→Value) (s:St α) (k:Nat):Value :=
 if k % 4=0 then .int .i64 (s.pv (k / 4+1)) else if k % 4=1 then .int .i64 (s.nx (k / 4+1)) else if k % 4=2 then .bool (s.th (k / 4+1)) else V (s.va (k / 4+1))
def St.row {α:Type} (V:α→Value) (s:St α):List Value:=(List.range (s.n*4)).map (s.cell V)
def ListIn {α:Type} (V:α→Value) (te tl:TypeId) (B:Nat→Prop) (w:World) (p:Nat) (s:St α) (ad:Option Addr) (cap:Nat):Prop :=
 B p∧w.heap[p]? = some (.cells #[.int .i64 (s.pv 0),.int .i64 (s.nx 0),.slice ad s.n cap,.int .i64 s.free,.int .i64 s.count] tl (0,0)) ∧
  w.ownsRow 0 te 4 (.slice ad s.n cap) s.n (s.row V)∧(Value.slice ad s.n cap).ownBlock≠some p∧∀ g,(Value.slice ad s.n cap).ownBlock=some g→B g
def ListAt {α:Type} (V:α→Value) (te tl:TypeId) (B:Nat→Prop) (w:World) (p:Nat) (s:St α):Prop:=∃ ad cap,ListIn V te tl B w p s ad cap
theorem cells_of_five {w:World} {p:Nat} {a b c d e:Value} {t:TypeId} (h:w.heap[p]? = some (.cells #[a,b,c,d,e] t (0,0))) :
 w.cell? ⟨p,0,none⟩=some a∧w.cell? ⟨p,1,none⟩=some b∧w.cell? ⟨p,2,none⟩=some c∧w.cell? ⟨p,3,none⟩=some d∧w.cell? ⟨p,4,none⟩=some e ∧
 w.frozen? ⟨p,0,none⟩=false∧w.frozen? ⟨p,1,none⟩=false∧w.frozen? ⟨p,2,none⟩=false∧w.frozen? ⟨p,3,none⟩=false∧w.frozen? ⟨p,4,none⟩=false:=by
 simp [World.cell?,World.frozen?,h]
theorem row_at {α:Type} (V:α→Value) (s:St α) {i:Nat} (h:i<s.n) :
 (s.row V)[i*4]? = some (.int .i64 (s.pv (i+1)))∧(s.row V)[i*4+1]? = some (.int .i64 (s.nx (i+1)))∧(s.row V)[i*4+2]? = some (.bool (s.th (i+1)))∧(s.row V)[i*4+3]? = some (V (s.va (i+1))):=by
 have h0:(i*4) % 4=0:=by omega
 have h1:(i*4+1) % 4=1:=by omega
 have h2:(i*4+2) % 4=2:=by omega
 have h3:(i*4+3) % 4=3:=by omega
 have d0:(i*4) / 4=i:=by omega
 have d1:(i*4+1) / 4=i:=by omega
 have d2:(i*4+2) / 4=i:=by omega
 have d3:(i*4+3) / 4=i:=by omega
 simp only [St.row,List.getElem?_map,List.getElem?_range (show i*4<s.n*4 by omega),List.getElem?_range (show i*4+1<s.n*4 by omega),List.getElem?_range (show i*4+2<s.n*4 by omega),List.getElem?_range (show i*4+3<s.n*4 by omega),Option.map_some,St.cell,h0,h1,h2,h3,d0,d1,d2,d3]
 simp
theorem map_set {f f':Nat→Value} {m k:Nat} {u:Value} (hk:f' k=u) (h:∀ j,j≠k→f' j=f j):((List.range m).map f).set k u=(List.range m).map f':=by
 apply List.ext_getElem?
 intro j
 rw [List.getElem?_set]
 by_cases e:k=j
 ·subst e
  by_cases hm:k<m
  ·simp [hm,hk]
  ·simp [hm]
 ·rw [if_neg e]
  by_cases hm:j<m
  ·simp [hm,h j (fun x=>e x.symm)]
  ·simp [hm]
section
variable {α:Type} {V:α→Value} {te tl:TypeId} {B:Nat→Prop} {w:World} {p g cap:Nat} {s:St α} {ad:Option Addr}
theorem ListIn.setPv (h:ListIn V te tl B w p s (some ⟨g,0,none⟩) cap) (i u:Nat) :
 ListIn V te tl B (w.setCell ⟨g,i*4,none⟩ (.int .i64 (u:Nat))) p { s with pv:=upd s.pv (i+1) u } (some ⟨g,0,none⟩) cap:=by
 obtain ⟨hB,hh,ho,hne,hD⟩:=h
 have hgp:p≠g:=by intro e;apply hne;simp [Value.ownBlock,e]
 refine ⟨hB,?_,?_,hne,hD⟩
 ·rw [Below.heap_setCell _ _ _ _ (by exact hgp)]
  simpa [upd] using hh
 ·have h2:=ownsRow_setCell (k:=i*4) (u:=.int .i64 (u:Nat)) ho
  rw [St.row,map_set (f':=St.cell V { s with pv:=upd s.pv (i+1) u })] at h2
  ·exact h2
  ·simp [St.cell,upd]
  ·intro j hj
   simp only [St.cell]
   split
   ·rw [upd_far _ _ (by omega)]
   ·rfl
theorem ListIn.setNx (h:ListIn V te tl B w p s (some ⟨g,0,none⟩) cap) (i u:Nat) :
 ListIn V te tl B (w.setCell ⟨g,i*4+1,none⟩ (.int .i64 (u:Nat))) p { s with nx:=upd s.nx (i+1) u } (some ⟨g,0,none⟩) cap:=by
 obtain ⟨hB,hh,ho,hne,hD⟩:=h
 have hgp:p≠g:=by intro e;apply hne;simp [Value.ownBlock,e]
 refine ⟨hB,?_,?_,hne,hD⟩
 ·rw [Below.heap_setCell _ _ _ _ (by exact hgp)]
  simpa [upd] using hh
 ·have h2:=ownsRow_setCell (k:=i*4+1) (u:=.int .i64 (u:Nat)) ho
  rw [St.row,map_set (f':=St.cell V { s with nx:=upd s.nx (i+1) u })] at h2
  ·exact h2
  ·have e1:(i*4+1) % 4=1:=by omega
   have e2:(i*4+1) / 4=i:=by omega
   simp [St.cell,upd,e1,e2]
  ·intro j hj
   simp only [St.cell]
   split
   ·rfl
   ·split
    ·rw [upd_far _ _ (by omega)]
    ·rfl
theorem ListIn.setTh (h:ListIn V te tl B w p s (some ⟨g,0,none⟩) cap) (i:Nat) (u:Bool) :
 ListIn V te tl B (w.setCell ⟨g,i*4+2,none⟩ (.bool u)) p { s with th:=upd s.th (i+1) u } (some ⟨g,0,none⟩) cap:=by
 obtain ⟨hB,hh,ho,hne,hD⟩:=h
 have hgp:p≠g:=by intro e;apply hne;simp [Value.ownBlock,e]
 refine ⟨hB,?_,?_,hne,hD⟩
 ·rw [Below.heap_setCell _ _ _ _ (by exact hgp)]
  exact hh
 ·have h2:=ownsRow_setCell (k:=i*4+2) (u:=.bool u) ho
  rw [St.row,map_set (f':=St.cell V { s with th:=upd s.th (i+1) u })] at h2
  ·exact h2
  ·have e1:(i*4+2) % 4=2:=by omega
   have e2:(i*4+2) / 4=i:=by omega
   simp [St.cell,upd,e1,e2]
  ·intro j hj
   simp only [St.cell]
   split
   ·rfl
   ·split
    ·rfl
    ·split
     ·rw [upd_far _ _ (by omega)]
     ·rfl
theorem ListIn.setVa (h:ListIn V te tl B w p s (some ⟨g,0,none⟩) cap) (i:Nat) (u:α) :
 ListIn V te tl B (w.setCell ⟨g,i*4+3,none⟩ (V u)) p { s with va:=upd s.va (i+1) u } (some ⟨g,0,none⟩) cap:=by
 obtain ⟨hB,hh,ho,hne,hD⟩:=h
 have hgp:p≠g:=by intro e;apply hne;simp [Value.ownBlock,e]
 refine ⟨hB,?_,?_,hne,hD⟩
 ·rw [Below.heap_setCell _ _ _ _ (by exact hgp)]
  exact hh
 ·have h2:=ownsRow_setCell (k:=i*4+3) (u:=V u) ho
  rw [St.row,map_set (f':=St.cell V { s with va:=upd s.va (i+1) u })] at h2
  ·exact h2
  ·have e1:(i*4+3) % 4=3:=by omega
   have e2:(i*4+3) / 4=i:=by omega
   simp [St.cell,upd,e1,e2]
  ·intro j hj
   simp only [St.cell]
   split
   ·rfl
   ·split
    ·rfl
    ·split
     ·rfl
     ·rw [upd_far _ _ (by omega)]
theorem ListIn.setPv0 (h:ListIn V te tl B w p s ad cap) (u:Nat):ListIn V te tl B (w.setCell ⟨p,0,none⟩ (.int .i64 (u:Nat))) p { s with pv:=upd s.pv 0 u } ad cap:=by
 obtain ⟨hB,hh,ho,hne,hD⟩:=h
 refine ⟨hB,by rw [block_setCell hh];simp [upd],?_,hne,hD⟩
 have h2:=ownsRow_setCell_far (a:=⟨p,0,none⟩) (u:=.int .i64 (u:Nat)) ho hne
 have e:St.row V { s with pv:=upd s.pv 0 u } = s.row V:=by simp [St.row,St.cell,upd]
 rw [e];exact h2
theorem ListIn.setNx0 (h:ListIn V te tl B w p s ad cap) (u:Nat):ListIn V te tl B (w.setCell ⟨p,1,none⟩ (.int .i64 (u:Nat))) p { s with nx:=upd s.nx 0 u } ad cap:=by
 obtain ⟨hB,hh,ho,hne,hD⟩:=h
 refine ⟨hB,by rw [block_setCell hh];simp [upd],?_,hne,hD⟩
 have h2:=ownsRow_setCell_far (a:=⟨p,1,none⟩) (u:=.int .i64 (u:Nat)) ho hne
 have e:St.row V { s with nx:=upd s.nx 0 u } = s.row V:=by simp [St.row,St.cell,upd]
 rw [e];exact h2
theorem ListIn.setFree (h:ListIn V te tl B w p s ad cap) (u:Nat):ListIn V te tl B (w.setCell ⟨p,3,none⟩ (.int .i64 (u:Nat))) p { s with free:=u } ad cap:=by
 obtain ⟨hB,hh,ho,hne,hD⟩:=h
 exact ⟨hB,by rw [block_setCell hh];simp,ownsRow_setCell_far ho hne,hne,hD⟩
theorem ListIn.setCount (h:ListIn V te tl B w p s ad cap) (u:Nat):ListIn V te tl B (w.setCell ⟨p,4,none⟩ (.int .i64 (u:Nat))) p { s with count:=u } ad cap:=by
 obtain ⟨hB,hh,ho,hne,hD⟩:=h
 exact ⟨hB,by rw [block_setCell hh];simp,ownsRow_setCell_far ho hne,hne,hD⟩
theorem ListIn.top (h:ListIn V te tl B w p s ad cap) :
 w.cell? ⟨p,0,none⟩=some (.int .i64 (s.pv 0))∧w.cell? ⟨p,1,none⟩=some (.int .i64 (s.nx 0))∧w.cell? ⟨p,2,none⟩=some (.slice ad s.n cap)∧w.cell? ⟨p,3,none⟩=some (.int .i64 s.free)∧w.cell? ⟨p,4,none⟩=some (.int .i64 s.count) ∧
 w.frozen? ⟨p,0,none⟩=false∧w.frozen? ⟨p,1,none⟩=false∧w.frozen? ⟨p,2,none⟩=false∧w.frozen? ⟨p,3,none⟩=false∧w.frozen? ⟨p,4,none⟩=false:=cells_of_five h.2.1
theorem ListIn.slots (h:ListIn V te tl B w p s ad cap) (hn:0<s.n):∃ g,ad=some ⟨g,0,none⟩∧B g∧p≠g:=by
 obtain ⟨_,_,ho,hne,hD⟩:=h
 obtain ⟨g,cur,rfl,hb,_⟩:=ownsRow_block ho hn
 exact ⟨g,rfl,hD g rfl,by intro e;apply hne;simp [Value.ownBlock,e]⟩
theorem ListIn.slot (h:ListIn V te tl B w p s (some ⟨g,0,none⟩) cap) {i:Nat} (hi:i<s.n) :
 w.cell? ⟨g,i*4,none⟩=some (.int .i64 (s.pv (i+1)))∧w.cell? ⟨g,i*4+1,none⟩=some (.int .i64 (s.nx (i+1)))∧w.cell? ⟨g,i*4+2,none⟩=some (.bool (s.th (i+1)))∧w.cell? ⟨g,i*4+3,none⟩=some (V (s.va (i+1))) ∧
 w.frozen? ⟨g,i*4,none⟩=false∧w.frozen? ⟨g,i*4+1,none⟩=false∧w.frozen? ⟨g,i*4+2,none⟩=false∧w.frozen? ⟨g,i*4+3,none⟩=false:=by
 obtain ⟨_,_,ho,hne,_⟩:=h
 obtain ⟨g',cur,hg',_,hg,hc⟩:=ownsRow_block ho (by omega)
 cases hg'
 obtain ⟨r0,r1,r2,r3⟩:=row_at V s hi
 exact ⟨hc _ _ r0,hc _ _ r1,hc _ _ r2,hc _ _ r3,frozen_of_block hg,frozen_of_block hg,frozen_of_block hg,frozen_of_block hg⟩
theorem ListIn.far {w':World} {row:Option Nat} (h:ListIn V te tl B w p s ad cap) (hg:w.grownBy w' row) (hr:∀ k,row=some k→¬ B k∨w.heap.size≤k):ListIn V te tl B w' p s ad cap:=by
 obtain ⟨hB,hh,ho,hne,hD⟩:=h
 refine ⟨hB,?_,ho.kept hg ?_,hne,hD⟩
 ·rw [hg.block p (lt_of_block hh) (fun e=>by have:=lt_of_block hh;rcases hr p e.symm with x | x;exact x hB;omega)]
  exact hh
 ·cases e:(Value.slice ad s.n cap).ownBlock with
  | none=>exact .inl rfl
  | some k =>
    refine .inr fun e2=>?_
    have:=ho.lt k e
    rcases hr k e2.symm with x | x
    ·exact x (hD k e)
    ·omega
structure LinkAt (V:α→Value) (te tl:TypeId) (B:Nat→Prop) (w:World) (p:Nat) (s:St α) (ad:Option Addr) (cap:Nat) (h b off:Nat):Prop where
 lo:B b
 at_:b=p∨ad=some ⟨b,0,none⟩
 c0:w.cell? ⟨b,off,none⟩=some (.int .i64 (s.pv h))
 c1:w.cell? ⟨b,off+1,none⟩=some (.int .i64 (s.nx h))
 f0:w.frozen? ⟨b,off,none⟩=false
 f1:w.frozen? ⟨b,off+1,none⟩=false
 pv:∀ u:Nat,ListIn V te tl B (w.setCell ⟨b,off,none⟩ (.int .i64 (u:Nat))) p { s with pv:=upd s.pv h u } ad cap
 nx:∀ u:Nat,ListIn V te tl B (w.setCell ⟨b,off+1,none⟩ (.int .i64 (u:Nat))) p { s with nx:=upd s.nx h u } ad cap
 both:∀ u v:Nat,ListIn V te tl B ((w.setCell ⟨b,off,none⟩ (.int .i64 (u:Nat))).setCell ⟨b,off+1,none⟩ (.int .i64 (v:Nat))) p { s with pv:=upd s.pv h u,nx:=upd s.nx h v } ad cap
theorem ListIn.link0 (h:ListIn V te tl B w p s ad cap):LinkAt V te tl B w p s ad cap 0 p 0:=by
 obtain ⟨c0,c1,c2,c3,c4,f0,f1,f2,f3,f4⟩:=h.top
 exact ⟨h.1,.inl rfl,c0,c1,f0,f1,fun u=>h.setPv0 u,fun u=>h.setNx0 u,fun u v=>(h.setPv0 u).setNx0 v⟩
theorem ListIn.link (h:ListIn V te tl B w p s (some ⟨g,0,none⟩) cap) (hg:B g) {i:Nat} (hi:i<s.n):LinkAt V te tl B w p s (some ⟨g,0,none⟩) cap (i+1) g (i*4):=by
 obtain ⟨d0,d1,d2,d3,e0,e1,e2,e3⟩:=h.slot hi
 exact ⟨hg,.inr rfl,d0,d1,e0,e1,fun u=>h.setPv i u,fun u=>h.setNx i u,fun u v=>(h.setPv i u).setNx i v⟩
theorem ListIn.old (h:ListIn V te tl B w p s ad cap) {b:Nat} (hb:b=p∨ad=some ⟨b,0,none⟩):b<w.heap.size:=by
 rcases hb with rfl | rfl
 ·exact lt_of_block h.2.1
 ·exact (h.2.2.1.lt b rfl).2
theorem ListIn.drew (h:ListIn V te tl B w p s ad cap):ListIn V te tl B w.drew p s ad cap:=h
theorem ListIn.alloc (h:ListIn V te tl B w p s ad cap) (o:Obj):ListIn V te tl B (w.alloc o) p s ad cap :=
 h.far (World.grownBy_alloc w o none) (fun k e=>by cases e)
theorem ListIn.setSlot (h:ListIn V te tl B w p s (some ⟨g,0,none⟩) cap) (i a b:Nat) (c:Bool) (d:α) :
 ListIn V te tl B ((((w.setCell ⟨g,i*4,none⟩ (.int .i64 (a:Nat))).setCell ⟨g,i*4+1,none⟩ (.int .i64 (b:Nat))).setCell ⟨g,i*4+2,none⟩ (.bool c)).setCell ⟨g,i*4+3,none⟩ (V d)) p
  { s with pv:=upd s.pv (i+1) a,nx:=upd s.nx (i+1) b,th:=upd s.th (i+1) c,va:=upd s.va (i+1) d } (some ⟨g,0,none⟩) cap :=
 (((h.setPv i a).setNx i b).setTh i c).setVa i d
theorem ListAt.lo (h:ListAt V te tl B w p s):B p:=by obtain ⟨_,_,h⟩:=h;exact h.1
theorem ListAt.made (V:α→Value) (te tl:TypeId) {B:Nat→Prop} {w:World} (hB:B w.heap.size) (va:Nat→α) (th:Nat→Bool) :
 ListAt V te tl B (w.alloc (.cells #[.int .i64 0,.int .i64 0,.slice none 0 0,.int .i64 0,.int .i64 0] tl)) w.heap.size ⟨fun _=>0,fun _=>0,th,va,0,0,0⟩ :=
 ⟨none,0,hB,heap_alloc_new w _,World.ownsRow_nil _ _ _ _,by simp [Value.ownBlock],by simp [Value.ownBlock]⟩
def St.has (s:St α) (h:Int):Bool:=decide (1≤h)&&(decide (h≤s.n)&&s.th h.toNat)
theorem row_more (V:α→Value) (s:St α) (v:α) :
 s.row V++[.int .i64 (0:Nat),.int .i64 (0:Nat),.bool true,V v]=St.row V { s with pv:=upd s.pv (s.n+1) 0,nx:=upd s.nx (s.n+1) 0,th:=upd s.th (s.n+1) true,va:=upd s.va (s.n+1) v,n:=s.n+1 }:=by
 have e:(s.n+1)*4=s.n*4+1+1+1+1:=by omega
 simp only [St.row,e,List.range_succ,List.map_append,List.map_cons,List.map_nil,List.append_assoc,List.cons_append,List.nil_append]
 congr 1
 ·apply List.map_congr_left
  intro k hk
  have hk:=List.mem_range.1 hk
  simp only [St.cell]
  rw [upd_far _ _ (show k / 4+1≠s.n+1 by omega),upd_far _ _ (show k / 4+1≠s.n+1 by omega),upd_far _ _ (show k / 4+1≠s.n+1 by omega),upd_far _ _ (show k / 4+1≠s.n+1 by omega)]
 ·have h1:(s.n*4+1) % 4=1:=by omega
  have h2:(s.n*4+1+1) % 4=2:=by omega
  have h3:(s.n*4+1+1+1) % 4=3:=by omega
  have d1:(s.n*4+1) / 4=s.n:=by omega
  have d2:(s.n*4+1+1) / 4=s.n:=by omega
  have d3:(s.n*4+1+1+1) / 4=s.n:=by omega
  simp [St.cell,h1,h2,h3,d1,d2,d3,upd]
theorem ListIn.grow (h:ListIn V te tl B w p s ad cap) (hN:B w.heap.size) (v:α) {w':World} {ad':Option Addr} {cap':Nat}
 (hown:w'.ownsRow 0 te 4 (.slice ad' (s.n+1) cap') (s.n+1) (s.row V++[.int .i64 (0:Nat),.int .i64 (0:Nat),.bool true,V v])) (hg:w.grownBy w' (Value.slice ad s.n cap).ownBlock)
 (hat:(Value.slice ad' (s.n+1) cap').ownBlock=(Value.slice ad s.n cap).ownBlock∨(Value.slice ad' (s.n+1) cap').ownBlock=some w.heap.size) :
 ListIn V te tl B (w'.setCell ⟨p,2,none⟩ (.slice ad' (s.n+1) cap')) p { s with pv:=upd s.pv (s.n+1) 0,nx:=upd s.nx (s.n+1) 0,th:=upd s.th (s.n+1) true,va:=upd s.va (s.n+1) v,n:=s.n+1 } ad' cap':=by
 obtain ⟨hB,hh,ho,hne,hD⟩:=h
 have hlt:=lt_of_block hh
 have hh':w'.heap[p]? = _:=(hg.block p hlt (fun e=>hne e.symm)).trans hh
 have hne':(Value.slice ad' (s.n+1) cap').ownBlock≠some p:=by
  rcases hat with e | e <;> rw [e]
  ·exact hne
  ·intro e2
   cases e2
   omega
 have hD':∀ g,(Value.slice ad' (s.n+1) cap').ownBlock=some g→B g:=by
  intro g e0
  rcases hat with e | e
  ·exact hD g (e ▸ e0)
  ·rw [e] at e0;cases e0;exact hN
 refine ⟨hB,?_,?_,hne',hD'⟩
 ·rw [block_setCell hh']
  simp [upd]
 ·rw [row_more] at hown
  exact ownsRow_setCell_far hown hne'
theorem ListIn.struct (h:ListIn V te tl B w p s ad cap) {w':World} (hg:w.grownBy w' (Value.slice ad s.n cap).ownBlock) :
 w'.cell? ⟨p,2,none⟩=some (.slice ad s.n cap)∧w'.frozen? ⟨p,2,none⟩=false:=by
 obtain ⟨hB,hh,ho,hne,hD⟩:=h
 have hh':w'.heap[p]? = _:=(hg.block p (lt_of_block hh) (fun e=>hne e.symm)).trans hh
 obtain ⟨c0,c1,c2,c3,c4,f0,f1,f2,f3,f4⟩:=cells_of_five hh'
 exact ⟨c2,f2⟩
end
end Go.Proofs.YtkkkkiejnmpdkaaGreatDoor.Ls
namespace Go.Proofs.YtkkkkiejnmpdkaaGreatDoor.Ls
def St.tie {α:Type} (s:St α) (h a b:Nat):St α:={ s with pv:=upd (upd s.pv h a) b h,nx:=upd (upd s.nx h b) a h }
def St.untie {α:Type} (s:St α) (h:Nat):St α:={ s with nx:=upd s.nx (s.pv h) (s.nx h),pv:=upd s.pv (s.nx h) (s.pv h) }
def St.hand {α:Type} (s:St α):Nat:=if s.free=0 then s.n+1 else s.free
def St.give {α:Type} (s:St α) (v:α):St α :=
 { pv:=upd s.pv s.hand 0,nx:=upd s.nx s.hand 0,th:=upd s.th s.hand true,va:=upd s.va s.hand v,free:=if s.free=0 then 0 else s.nx s.free,n:=if s.free=0 then s.n+1 else s.n,count:=s.count+1 }
def St.drop {α:Type} (s:St α) (h:Nat) (z:α):St α :=
 { s with pv:=upd s.pv h 0,nx:=upd s.nx h s.free,th:=upd s.th h false,va:=upd s.va h z,free:=h,count:=s.count - 1 }
theorem nodup_middle {l r:List Nat} {h:Nat}:(l++h::r).Nodup↔(h::(l++r)).Nodup:=List.perm_middle.nodup_iff
def Linked (pv nx:Nat→Nat):List Nat→Prop
 | []=>True
 | a::r=>(match r with | []=>True | b::_=>nx a=b∧pv b=a)∧Linked pv nx r
theorem linked_cons {pv nx:Nat→Nat} {a b:Nat} {r:List Nat}:Linked pv nx (a::b::r)↔nx a=b∧pv b=a∧Linked pv nx (b::r):=by
 rw [Linked];exact and_assoc
theorem linked_append {pv nx:Nat→Nat} {a:Nat} {ys:List Nat}:∀ {xs:List Nat},Linked pv nx (xs++a::ys)↔Linked pv nx (xs++[a])∧Linked pv nx (a::ys)
 | []=>by simp [Linked]
 | [x]=>by simp only [List.cons_append,List.nil_append,linked_cons];simp [Linked,and_assoc]
 | x::y::r=>by
   have:=linked_append (pv:=pv) (nx:=nx) (a:=a) (ys:=ys) (xs:=y::r)
   simp only [List.cons_append,linked_cons] at this ⊢
   rw [this]
   simp only [and_assoc]
theorem linked_congr {pv nx pv' nx':Nat→Nat}:∀ {xs:List Nat},(∀ x∈xs.dropLast,nx' x=nx x)→(∀ y∈xs.tail,pv' y=pv y)→Linked pv nx xs→Linked pv' nx' xs
 | [],_,_,_=>trivial
 | [x],_,_,_=>by simp [Linked]
 | x::y::r,h1,h2,h=>by
   rw [linked_cons] at h ⊢
   refine ⟨(h1 x (by simp)).trans h.1,(h2 y (by simp)).trans h.2.1,linked_congr (xs:=y::r) (fun z hz=>h1 z ?_) (fun z hz=>h2 z ?_) h.2.2⟩
   ·simp only [List.dropLast_cons_cons,List.mem_cons] at hz ⊢
    exact .inr hz
   ·simp only [List.tail_cons] at hz ⊢
    exact List.mem_cons_of_mem _ hz
theorem ring_ahead (l:List Nat):∃ L a,0::l=L++[a]:=⟨(0::l).dropLast,(0::l).getLast (by simp),(List.dropLast_concat_getLast (by simp)).symm⟩
theorem ring_behind (r:List Nat):∃ b R,r++[0]=b::R:=by
 cases r with
 | nil=>exact ⟨0,[],rfl⟩
 | cons b r=>exact ⟨b,r++[0],rfl⟩
theorem linked_insert {pv nx : Nat → Nat} {l r : List Nat} {h a b : Nat} {L R : List Nat} (hnd : (0 :: (l ++ r)).Nodup) (h0 : h ≠ 0) (hh : h ∉ l ++ r) (ha : 0 :: l = L ++ [a]) (hb : r ++ [0] = b :: R)
    (H : Linked pv nx (0 :: (l ++ r ++ [0]))) : Linked (upd (upd pv h a) b h) (upd (upd nx h b) a h) (0 :: (l ++ h :: r ++ [0])) := by
  have e1 : 0 :: (l ++ r ++ [0]) = L ++ a :: b :: R := by
    have : 0 :: (l ++ r ++ [0]) = (0 :: l) ++ (r ++ [0]) := by simp
    rw [this, ha, hb]; simp
  have e2 : 0 :: (l ++ h :: r ++ [0]) = L ++ a :: h :: b :: R := by
    have : 0 :: (l ++ h :: r ++ [0]) = (0 :: l) ++ (h :: (r ++ [0])) := by simp
    rw [this, ha, hb]; simp
  rw [e1, linked_append, linked_cons] at H
  obtain ⟨HL, -, -, HR⟩ := H
  -- who is where
  have hnd1 : (0 :: l).Nodup := by
    refine hnd.sublist ?_
    exact (List.sublist_append_left l r).cons_cons 0
  have hl0 : 0 ∉ l := by simp at hnd1; exact hnd1.1
  have hr0 : 0 ∉ r := by simp at hnd; exact fun e => hnd.1.2 e
  have hdis : ∀ x, x ∈ l → x ∈ r → False := by
    intro x h1 h2
    simp only [List.nodup_cons, List.nodup_append] at hnd
    exact hnd.2.2.2 x h1 x h2 rfl
  have haL : a ∉ L := by
    rw [ha, List.nodup_append] at hnd1
    intro e
    exact hnd1.2.2 a e a (by simp) rfl
  have ha' : a = 0 ∨ a ∈ l := by have : a ∈ 0 :: l := by rw [ha]; simp
                                 simpa using this
  have hLs : ∀ x ∈ L, x = 0 ∨ x ∈ l := by
    intro x hx
    have : x ∈ 0 :: l := by rw [ha]; simp [hx]
    simpa using this
  have hb' : b = 0 ∨ b ∈ r := by
    have : b ∈ r ++ [0] := by rw [hb]; simp
    simpa [or_comm] using this
  have hndr : (r ++ [0]).Nodup := by
    rw [List.nodup_append]
    simp only [List.nodup_cons, List.nodup_append] at hnd
    refine ⟨hnd.2.2.1, by simp, ?_⟩
    intro x hx y hy e
    simp at hy
    exact hr0 (by rw [← hy, ← e]; exact hx)
  have hbR : b ∉ R := by rw [hb] at hndr; simp at hndr; exact hndr.1
  have hRs : ∀ x ∈ R, x = 0 ∨ x ∈ r := by
    intro x hx
    have : x ∈ r ++ [0] := by rw [hb]; simp [hx]
    simpa [or_comm] using this
  have hhl : h ∉ l := fun e => hh (by simp [e])
  have hhr : h ∉ r := fun e => hh (by simp [e])
  have hah : a ≠ h := by rintro rfl; rcases ha' with e | e <;> simp_all
  have hbh : b ≠ h := by rintro rfl; rcases hb' with e | e <;> simp_all
  rw [e2, linked_append, linked_cons, linked_cons]
  refine ⟨linked_congr ?_ ?_ HL, upd_same _ _ _, ?_, ?_, upd_same _ _ _, linked_congr ?_ ?_ HR⟩
  · intro x hx
    simp only [List.dropLast_concat] at hx
    rw [upd_far _ _ (by rintro rfl; exact haL hx), upd_far _ _ (by rintro rfl; rcases hLs _ hx with e | e <;> simp_all)]
  · intro y hy
    rw [← ha, List.tail_cons] at hy
    rw [upd_far _ _ (by rintro rfl; rcases hb' with e | e; · exact hl0 (e ▸ hy)
                        · exact hdis _ hy e), upd_far _ _ (by rintro rfl; exact hhl hy)]
  · rw [upd_far _ _ hbh.symm, upd_same]
  · rw [upd_far _ _ hah.symm, upd_same]
  · intro x hx
    rw [← hb, List.dropLast_concat] at hx
    rw [upd_far _ _ (by rintro rfl; rcases ha' with e | e; · exact hr0 (e ▸ hx)
                        · exact hdis _ e hx), upd_far _ _ (by rintro rfl; exact hhr hx)]
  · intro y hy
    rw [List.tail_cons] at hy
    rw [upd_far _ _ (by rintro rfl; exact hbR hy), upd_far _ _ (by rintro rfl; rcases hRs _ hy with e | e <;> simp_all)]
theorem linked_beside {pv nx:Nat→Nat} {l r:List Nat} {h a b:Nat} {L R:List Nat} (ha:0::l=L++[a]) (hb:r++[0]=b::R) (H:Linked pv nx (0::(l++h::r++[0]))):pv h=a∧nx h=b:=by
 have e2:0::(l++h::r++[0])=L++a::h::b::R:=by
  have:0::(l++h::r++[0])=(0::l)++(h::(r++[0])):=by simp
  rw [this,ha,hb];simp
 rw [e2,linked_append,linked_cons,linked_cons] at H
 exact ⟨H.2.2.1,H.2.2.2.1⟩
theorem linked_remove {pv nx : Nat → Nat} {l r : List Nat} {h a b : Nat} {L R : List Nat} (hnd : (0 :: (l ++ h :: r)).Nodup) (ha : 0 :: l = L ++ [a]) (hb : r ++ [0] = b :: R)
    (H : Linked pv nx (0 :: (l ++ h :: r ++ [0]))) : Linked (upd pv b a) (upd nx a b) (0 :: (l ++ r ++ [0])) := by
  have e1 : 0 :: (l ++ r ++ [0]) = L ++ a :: b :: R := by
    have : 0 :: (l ++ r ++ [0]) = (0 :: l) ++ (r ++ [0]) := by simp
    rw [this, ha, hb]; simp
  have e2 : 0 :: (l ++ h :: r ++ [0]) = L ++ a :: h :: b :: R := by
    have : 0 :: (l ++ h :: r ++ [0]) = (0 :: l) ++ (h :: (r ++ [0])) := by simp
    rw [this, ha, hb]; simp
  rw [e2, linked_append, linked_cons, linked_cons] at H
  obtain ⟨HL, -, -, -, -, HR⟩ := H
  have hnd : (0 :: (l ++ r)).Nodup := hnd.sublist (((List.sublist_cons_self h r).append_left l).cons_cons 0)
  have hnd1 : (0 :: l).Nodup := hnd.sublist ((List.sublist_append_left l r).cons_cons 0)
  have hl0 : 0 ∉ l := by simp at hnd1; exact hnd1.1
  have hr0 : 0 ∉ r := by simp at hnd; exact fun e => hnd.1.2 e
  have hdis : ∀ x, x ∈ l → x ∈ r → False := by
    intro x h1 h2
    simp only [List.nodup_cons, List.nodup_append] at hnd
    exact hnd.2.2.2 x h1 x h2 rfl
  have haL : a ∉ L := by
    rw [ha, List.nodup_append] at hnd1
    intro e
    exact hnd1.2.2 a e a (by simp) rfl
  have ha' : a = 0 ∨ a ∈ l := by have : a ∈ 0 :: l := by rw [ha]; simp
                                 simpa using this
  have hb' : b = 0 ∨ b ∈ r := by
    have : b ∈ r ++ [0] := by rw [hb]; simp
    simpa [or_comm] using this
  have hndr : (r ++ [0]).Nodup := by
    rw [List.nodup_append]
    simp only [List.nodup_cons, List.nodup_append] at hnd
    refine ⟨hnd.2.2.1, by simp, ?_⟩
    intro x hx y hy e
    simp at hy
    exact hr0 (by rw [← hy, ← e]; exact hx)
  have hbR : b ∉ R := by rw [hb] at hndr; simp at hndr; exact hndr.1
  rw [e1, linked_append, linked_cons]
  refine ⟨linked_congr ?_ ?_ HL, upd_same _ _ _, upd_same _ _ _, linked_congr ?_ ?_ HR⟩
  · intro x hx
    simp only [List.dropLast_concat] at hx
    rw [upd_far _ _ (by rintro rfl; exact haL hx)]
  · intro y hy
    rw [← ha, List.tail_cons] at hy
    rw [upd_far _ _ (by rintro rfl; rcases hb' with e | e; · exact hl0 (e ▸ hy)
                        · exact hdis _ hy e)]
  · intro x hx
    rw [← hb, List.dropLast_concat] at hx
    rw [upd_far _ _ (by rintro rfl; rcases ha' with e | e; · exact hr0 (e ▸ hx)
                        · exact hdis _ e hx)]
  · intro y hy
    rw [List.tail_cons] at hy
    rw [upd_far _ _ (by rintro rfl; exact hbR hy)]
def Free (nx:Nat→Nat):Nat→List Nat→Prop
 | f,[]=>f=0
 | f,h::r=>f=h∧Free nx (nx h) r
theorem free_congr {nx nx':Nat→Nat}:∀ {fs:List Nat} {f:Nat},(∀ x∈fs,nx' x=nx x)→Free nx f fs→Free nx' f fs
 | [],_,_,h=>h
 | x::r,_,h1,h=>⟨h.1,by rw [h1 x (by simp)];exact free_congr (fun y hy=>h1 y (by simp [hy])) h.2⟩
structure Rep {α:Type} (s:St α) (row free:List Nat):Prop where
 nodup:(row++free).Nodup
 mem:∀ h,h∈row++free↔1≤h∧h≤s.n
 links:Linked s.pv s.nx (0::(row++[0]))
 there:∀ h∈row,s.th h=true
 gone:∀ h∈free,s.th h=false
 chain:Free s.nx s.free free
 count:s.count=row.length
 len:row.length+free.length=s.n
section
variable {α:Type} {s:St α} {row free:List Nat}
theorem Rep.row0 (R:Rep s row free):0∉row:=fun e=>by have:=(R.mem 0).1 (by simp [e]);omega
theorem Rep.free0 (R:Rep s row free):0∉free:=fun e=>by have:=(R.mem 0).1 (by simp [e]);omega
theorem Rep.rowNd (R:Rep s row free):(0::row).Nodup:=by
 have:=R.nodup
 rw [List.nodup_append] at this
 simp [R.row0,this.1]
theorem Rep.has_in (R:Rep s row free) {h:Nat} (hh:h∈row):s.has h=true:=by
 have:=(R.mem h).1 (by simp [hh])
 simp [St.has,this.2,R.there h hh]
 omega
theorem Rep.empty (va:Nat→α) (th:Nat→Bool):Rep (⟨fun _=>0,fun _=>0,th,va,0,0,0⟩:St α) [] [] :=
 ⟨by simp,by simp;omega,by simp [Linked],by simp,by simp,rfl,rfl,rfl⟩
theorem Rep.hand_eq (R:Rep s row free):s.hand=free.headD (s.n+1)∧s.free≤s.n:=by
 cases free with
 | nil=>have:s.free=0:=R.chain;simp [St.hand,this]
 | cons f r =>
   have:s.free=f:=R.chain.1
   have:=(R.mem f).1 (by simp)
   constructor
   ·simp only [St.hand,List.headD_cons]
    rw [if_neg (by omega)]
    assumption
   ·omega
theorem Rep.hand_new (R:Rep s row free):s.hand≠0∧s.hand∉row∧s.hand≤(if s.free=0 then s.n+1 else s.n)∧s.hand∉free.tail:=by
 cases free with
 | nil =>
   have:s.free=0:=R.chain
   simp only [St.hand,this,if_true]
   refine ⟨by omega,fun e=>?_,by omega,by simp⟩
   have:=(R.mem (s.n+1)).1 (by simp [e])
   omega
 | cons f r =>
   have hf:s.free=f:=R.chain.1
   have:=(R.mem f).1 (by simp)
   have hnd:=R.nodup
   rw [List.nodup_append] at hnd
   simp only [St.hand]
   rw [if_neg (by omega),if_neg (by omega),hf]
   refine ⟨by omega,fun e=>hnd.2.2 f e f (by simp) rfl,by omega,?_⟩
   have:=hnd.2.1
   simp at this ⊢
   exact this.1
theorem Rep.push {l r:List Nat} (R:Rep s (l++r) free) (v:α) {a b:Nat} {L Z:List Nat} (ha:0::l=L++[a]) (hb:r++[0]=b::Z) :
 Rep ((s.give v).tie s.hand a b) (l++s.hand::r) free.tail:=by
 obtain ⟨h0,hr,hle,hf⟩:=R.hand_new
 have hnd:=R.nodup
 rw [List.nodup_append] at hnd
 have hft:free.tail.Nodup:=hnd.2.1.sublist (List.tail_sublist _)
 have hdis:∀ x,x∈l++r→x∈free.tail→False:=fun x h1 h2=>hnd.2.2 x h1 x (List.mem_of_mem_tail h2) rfl
 have hmr:∀ x,x∈l++s.hand::r↔x=s.hand∨x∈l++r:=by intro x;simp;grind
 have hrnd:(l++s.hand::r).Nodup:=by
  rw [nodup_middle]
  exact List.nodup_cons.2 ⟨hr,hnd.1⟩
 have ha':a=0∨a∈l++r:=by
  have:a∈0::l:=by rw [ha];simp
  simp at this ⊢
  grind
 have hb':b=0∨b∈l++r:=by
  have:b∈r++[0]:=by rw [hb];simp
  simp at this ⊢
  grind
 have hlen:(l++s.hand::r).length=(l++r).length+1:=by simp;omega
 refine ⟨?_,?_,?_,?_,?_,?_,?_,?_⟩
 ·rw [List.nodup_append]
  refine ⟨hrnd,hft,?_⟩
  intro x hx y hy e
  subst e
  rcases (hmr x).1 hx with e | e
  ·exact hf (e ▸ hy)
  ·exact hdis x e hy
 ·intro x
  rw [List.mem_append,hmr]
  show _↔1≤x∧x≤(if s.free=0 then s.n+1 else s.n)
  cases free with
  | nil =>
    have hz:s.free=0:=R.chain
    have:=R.mem x
    have e:s.hand=s.n+1:=by simp [St.hand,hz]
    simp only [hz,if_true,e,List.tail_nil,List.append_nil] at this ⊢
    simp only [List.not_mem_nil,or_false,this]
    omega
  | cons f t =>
    have hz:s.free=f:=R.chain.1
    have hfm:=(R.mem f).1 (by simp)
    have:=R.mem x
    have e:s.hand=f:=by simp only [St.hand];rw [if_neg (by omega),hz]
    rw [if_neg (by omega),e,← this]
    simp only [List.mem_append,List.mem_cons,List.tail_cons]
    grind
 ·have H0:Linked (s.give v).pv (s.give v).nx (0::(l++r++[0])):=by
   refine linked_congr ?_ ?_ R.links
   ·intro x hx
    refine upd_far _ _ ?_
    rintro rfl
    have:s.hand∈0::(l++r):=by
     have e:(0::(l++r++[0])).dropLast=0::(l++r):=by
      rw [show 0::(l++r++[0])=(0::(l++r))++[0] by simp,List.dropLast_concat]
     rw [e] at hx;exact hx
    rw [List.mem_cons] at this
    exact this.elim h0 hr
   ·intro x hx
    refine upd_far _ _ ?_
    rintro rfl
    rw [List.tail_cons,List.mem_append] at hx
    rcases hx with e | e
    ·exact hr e
    ·simp at e;exact h0 e
  exact linked_insert R.rowNd h0 hr ha hb H0
 ·intro x hx
  show upd s.th s.hand true x=true
  rcases (hmr x).1 hx with e | e
  ·subst e;exact upd_same _ _ _
  ·rw [upd_far _ _ (by rintro rfl;exact hr e)]
   exact R.there x e
 ·intro x hx
  show upd s.th s.hand true x=false
  rw [upd_far _ _ (by rintro rfl;exact hf hx)]
  exact R.gone x (List.mem_of_mem_tail hx)
 ·show Free (upd (upd (upd s.nx s.hand 0) s.hand b) a s.hand) (if s.free=0 then 0 else s.nx s.free) free.tail
  have hfar:∀ x∈free.tail,upd (upd (upd s.nx s.hand 0) s.hand b) a s.hand x=s.nx x:=by
   intro x hx
   have hx0:x≠0:=by rintro rfl;exact R.free0 (List.mem_of_mem_tail hx)
   rw [upd_far _ _ (by rintro rfl;exact ha'.elim hx0 (fun e=>hdis _ e hx)),upd_far _ _ (by rintro rfl;exact hf hx),upd_far _ _ (by rintro rfl;exact hf hx)]
  refine free_congr hfar ?_
  cases free with
  | nil=>have hz:s.free=0:=R.chain;simp [hz,Free]
  | cons f t =>
    have hz:s.free=f:=R.chain.1
    have hfm:=(R.mem f).1 (by simp)
    rw [if_neg (by omega),hz]
    exact R.chain.2
 ·show s.count+1=_
  rw [hlen,R.count]
 ·show _=(if s.free=0 then s.n+1 else s.n)
  have hl:=R.len
  cases free with
  | nil=>have hz:s.free=0:=R.chain;simp only [hz,if_true];simp at hl ⊢;omega
  | cons f t =>
    have hz:s.free=f:=R.chain.1
    have hfm:=(R.mem f).1 (by simp)
    rw [if_neg (by omega),hlen]
    simp at hl ⊢
    omega
theorem Rep.beside {l r:List Nat} {h:Nat} (R:Rep s (l++h::r) free):s.pv h≤s.n∧s.nx h≤s.n∧h≠0∧h≤s.n:=by
 obtain ⟨L,a,ha⟩:=ring_ahead l
 obtain ⟨b,Z,hb⟩:=ring_behind r
 obtain ⟨e1,e2⟩:=linked_beside ha hb (by simpa using R.links)
 have hm:=R.mem
 have ha':a=0∨a∈l:=by
  have:a∈0::l:=by rw [ha];simp
  simpa using this
 have hb':b=0∨b∈r:=by
  have:b∈r++[0]:=by rw [hb];simp
  simpa [or_comm] using this
 have h1:=(hm h).1 (by simp)
 refine ⟨?_,?_,by omega,h1.2⟩
 ·rw [e1]
  rcases ha' with e | e
  ·omega
  ·exact ((hm a).1 (by simp [e])).2
 ·rw [e2]
  rcases hb' with e | e
  ·omega
  ·exact ((hm b).1 (by simp [e])).2
theorem Rep.untied {l r:List Nat} {h:Nat} (R:Rep s (l++h::r) free):Linked (s.untie h).pv (s.untie h).nx (0::(l++r++[0])):=by
 obtain ⟨L,a,ha⟩:=ring_ahead l
 obtain ⟨b,Z,hb⟩:=ring_behind r
 have H:Linked s.pv s.nx (0::(l++h::r++[0])):=by simpa using R.links
 obtain ⟨e1,e2⟩:=linked_beside ha hb H
 have:=linked_remove R.rowNd ha hb H
 show Linked (upd s.pv (s.nx h) (s.pv h)) (upd s.nx (s.pv h) (s.nx h)) _
 rw [e1,e2]
 exact this
theorem Rep.moved {l r l' r':List Nat} {h:Nat} (R:Rep s (l++h::r) free) (e:l++r=l'++r') {a b:Nat} {L Z:List Nat} (ha:0::l'=L++[a]) (hb:r'++[0]=b::Z) :
 Rep ((s.untie h).tie h a b) (l'++h::r') free:=by
 have hnd:=R.nodup
 rw [List.nodup_append,nodup_middle,List.nodup_cons] at hnd
 obtain ⟨⟨hh,hlr⟩,hfr,hdis⟩:=hnd
 have hm:=(R.mem h).1 (by simp)
 have hmr:∀ x,x∈l'++h::r'↔x∈l++h::r:=by
  intro x
  have:x∈l++r↔x∈l'++r':=by rw [e]
  simp at this ⊢
  grind
 have hnd2:(l'++h::r').Nodup:=by
  rw [nodup_middle,List.nodup_cons,← e]
  exact ⟨hh,hlr⟩
 have hbes:∀ {x},x=s.pv h∨x=s.nx h→x=0∨x∈l++r:=by
  obtain ⟨L1,a1,ha1⟩:=ring_ahead l
  obtain ⟨b1,Z1,hb1⟩:=ring_behind r
  obtain ⟨e1,e2⟩:=linked_beside ha1 hb1 (by simpa using R.links)
  have ha':a1∈0::l:=by rw [ha1];simp
  have hb':b1∈r++[0]:=by rw [hb1];simp
  simp at ha' hb' ⊢
  grind
 have hfar:∀ x∈free,x≠0∧x∉l++h::r:=by
  intro x hx
  refine ⟨by rintro rfl;exact R.free0 hx,fun e=>hdis x e x hx rfl⟩
 have ha':a=0∨a∈l++r:=by
  have:a∈0::l':=by rw [ha];simp
  rw [e]
  simp at this ⊢
  grind
 refine ⟨?_,?_,?_,?_,R.gone,?_,?_,?_⟩
 ·rw [List.nodup_append]
  exact ⟨hnd2,hfr,fun x hx y hy=>hdis x ((hmr x).1 hx) y hy⟩
 ·intro x
  rw [List.mem_append,hmr,← List.mem_append]
  exact R.mem x
 ·have H0:=R.untied
  rw [e] at H0
  refine linked_insert ?_ (by omega) (by rw [← e];exact hh) ha hb H0
  rw [← e]
  refine List.nodup_cons.2 ⟨fun x=>R.row0 ?_,hlr⟩
  simp at x ⊢
  grind
 ·intro x hx
  exact R.there x ((hmr x).1 hx)
 ·show Free (upd (upd (upd s.nx (s.pv h) (s.nx h)) h b) a h) s.free free
  refine free_congr ?_ R.chain
  intro x hx
  obtain ⟨hx0,hxr⟩:=hfar x hx
  have hx1:x∉l++r:=fun e=>hxr (by simp at e ⊢;grind)
  rw [upd_far _ _ (by rintro rfl;exact ha'.elim hx0 hx1),upd_far _ _ (by rintro rfl;exact hxr (by simp)),upd_far _ _ (by intro e2;exact (hbes (.inl e2)).elim hx0 hx1)]
 ·show s.count=_
  rw [R.count]
  have:(l++r).length=(l'++r').length:=by rw [e]
  simp at this ⊢
  omega
 ·have h1:=R.len
  have:(l++r).length=(l'++r').length:=by rw [e]
  show _=s.n
  simp at this h1 ⊢
  omega
theorem Rep.removed {l r:List Nat} {h:Nat} (R:Rep s (l++h::r) free) (z:α):Rep ((s.untie h).drop h z) (l++r) (h::free):=by
 have hnd:=R.nodup
 rw [List.nodup_append,nodup_middle,List.nodup_cons] at hnd
 obtain ⟨⟨hh,hlr⟩,hfr,hdis⟩:=hnd
 have hm:=(R.mem h).1 (by simp)
 have hbes:∀ {x},x=s.pv h∨x=s.nx h→x=0∨x∈l++r:=by
  obtain ⟨L1,a1,ha1⟩:=ring_ahead l
  obtain ⟨b1,Z1,hb1⟩:=ring_behind r
  obtain ⟨e1,e2⟩:=linked_beside ha1 hb1 (by simpa using R.links)
  have ha':a1∈0::l:=by rw [ha1];simp
  have hb':b1∈r++[0]:=by rw [hb1];simp
  simp at ha' hb' ⊢
  grind
 have hsub:∀ x∈l++r,x∈l++h::r:=by intro x hx;simp at hx ⊢;grind
 have hhf:h∉free:=fun e=>hdis h (by simp) h e rfl
 refine ⟨?_,?_,?_,?_,?_,?_,?_,?_⟩
 ·rw [List.nodup_append,List.nodup_cons]
  refine ⟨hlr,⟨hhf,hfr⟩,?_⟩
  intro x hx y hy e2
  subst e2
  rcases List.mem_cons.1 hy with rfl | e
  ·exact hh hx
  ·exact hdis x (hsub x hx) x e rfl
 ·intro x
  show _↔1≤x∧x≤s.n
  rw [← R.mem x]
  simp
  grind
 ·refine linked_congr ?_ ?_ R.untied
  ·intro x hx
   refine upd_far _ _ ?_
   rintro rfl
   rw [show 0::(l++r++[0])=(0::(l++r))++[0] by simp,List.dropLast_concat,List.mem_cons] at hx
   exact hx.elim (by omega) hh
  ·intro x hx
   refine upd_far _ _ ?_
   rintro rfl
   rw [List.tail_cons,List.mem_append] at hx
   rcases hx with e | e
   ·exact hh e
   ·simp at e;omega
 ·intro x hx
  show upd s.th h false x=true
  rw [upd_far _ _ (by rintro rfl;exact hh hx)]
  exact R.there x (hsub x hx)
 ·intro x hx
  show upd s.th h false x=false
  rcases List.mem_cons.1 hx with rfl | e
  ·exact upd_same _ _ _
  ·rw [upd_far _ _ (by rintro rfl;exact hhf e)]
   exact R.gone x e
 ·refine ⟨rfl,?_⟩
  show Free (upd (upd s.nx (s.pv h) (s.nx h)) h s.free) (upd (upd s.nx (s.pv h) (s.nx h)) h s.free h) free
  rw [upd_same]
  refine free_congr ?_ R.chain
  intro x hx
  have hx0:x≠0:=by rintro rfl;exact R.free0 hx
  have hx1:x∉l++r:=fun e=>hdis x (hsub x e) x hx rfl
  rw [upd_far _ _ (by rintro rfl;exact hhf hx),upd_far _ _ (by intro e2;exact (hbes (.inl e2)).elim hx0 hx1)]
 ·show s.count - 1=_
  rw [R.count]
  simp
 ·have h1:=R.len
  show _=s.n
  simp at h1 ⊢
  omega
theorem ring_ahead' (l:List Nat):∃ L,0::l=L++[l.getLastD 0]:=by
 rcases List.eq_nil_or_concat l with rfl | ⟨l',x,rfl⟩
 ·exact ⟨[],rfl⟩
 ·exact ⟨0::l',by simp⟩
theorem ring_behind' (r:List Nat):∃ R,r++[0]=r.headD 0::R:=by
 cases r with
 | nil=>exact ⟨[],rfl⟩
 | cons b r=>exact ⟨r++[0],rfl⟩
theorem Rep.front (R:Rep s row free):s.nx 0=row.headD 0:=by
 have H:=R.links
 cases row with
 | nil=>simpa using (linked_cons.1 H).1
 | cons b r=>simpa using (linked_cons.1 H).1
theorem Rep.back (R:Rep s row free):s.pv 0=row.getLastD 0:=by
 have H:=R.links
 obtain ⟨L,hL⟩:=ring_ahead' row
 rw [show 0::(row++[0])=(0::row)++[0] by simp,hL,show L++[row.getLastD 0]++[0]=L++row.getLastD 0::[0] by simp,linked_append,linked_cons] at H
 exact H.2.2.1
theorem Rep.aside {l r:List Nat} {h:Nat} (R:Rep s (l++h::r) free):s.pv h=l.getLastD 0∧s.nx h=r.headD 0:=by
 obtain ⟨L,ha⟩:=ring_ahead' l
 obtain ⟨Z,hb⟩:=ring_behind' r
 exact linked_beside ha hb (by simpa using R.links)
theorem Rep.ends (R:Rep s row free):s.nx 0≤s.n∧s.pv 0≤s.n:=by
 have hm:=R.mem
 rw [R.front,R.back]
 constructor
 ·cases row with
  | nil=>simp
  | cons b r=>exact ((hm b).1 (by simp)).2
 ·rcases List.eq_nil_or_concat row with e | ⟨l',x,e⟩
  ·subst e;simp
  ·subst e
   have:=(hm x).1 (by simp)
   simpa using this.2
def LA (V:α→Value) (te tl:TypeId) (B:Nat→Prop) (w:World) (p:Nat) (row free:List Nat) (va:Nat→α) (n:Nat):Prop :=
 ∃ s:St α,ListAt V te tl B w p s∧Rep s row free∧s.va=va∧s.n=n
theorem ListIn.narrow {V:α→Value} {te tl:TypeId} {B:Nat→Prop} {w:World} {p:Nat} {ad:Option Addr} {cap:Nat} (h:ListIn V te tl B w p s ad cap):ListIn V te tl (fun k=>B k∧k<w.heap.size) w p s ad cap :=
 ⟨⟨h.1,lt_of_block h.2.1⟩,h.2.1,h.2.2.1,h.2.2.2.1,fun g e=>⟨h.2.2.2.2 g e,(h.2.2.1.lt g e).2⟩⟩
theorem ListIn.wide {V:α→Value} {te tl:TypeId} {B B':Nat→Prop} {w:World} {p:Nat} {ad:Option Addr} {cap:Nat} (h:ListIn V te tl B w p s ad cap) (hB:∀ k,B k→B' k):ListIn V te tl B' w p s ad cap :=
 ⟨hB _ h.1,h.2.1,h.2.2.1,h.2.2.2.1,fun g e=>hB _ (h.2.2.2.2 g e)⟩
theorem LA.narrow {V:α→Value} {te tl:TypeId} {B:Nat→Prop} {w:World} {p:Nat} {va:Nat→α} {n:Nat} (h:LA V te tl B w p row free va n):LA V te tl (fun k=>B k∧k<w.heap.size) w p row free va n:=by
 obtain ⟨s,⟨ad,cap,H⟩,r⟩:=h
 exact ⟨s,⟨ad,cap,H.narrow⟩,r⟩
theorem LA.wide {V:α→Value} {te tl:TypeId} {B B':Nat→Prop} {w:World} {p:Nat} {va:Nat→α} {n:Nat} (h:LA V te tl B w p row free va n) (hB:∀ k,B k→B' k):LA V te tl B' w p row free va n:=by
 obtain ⟨s,⟨ad,cap,H⟩,r⟩:=h
 exact ⟨s,⟨ad,cap,H.wide hB⟩,r⟩
theorem LA.kept {V:α→Value} {te tl:TypeId} {B D:Nat→Prop} {w w':World} {p:Nat} {va:Nat→α} {n:Nat} (h:LA V te tl B w p row free va n) (hk:Keeps D w w') (hd:∀ k,B k→¬ D k):LA V te tl B w' p row free va n:=by
 obtain ⟨s,⟨ad,cap,H⟩,r⟩:=h
 refine ⟨s,⟨ad,cap,H.1,?_,⟨H.2.2.1.1,?_⟩,H.2.2.2.1,H.2.2.2.2⟩,r⟩
 ·rw [hk.block p (lt_of_block H.2.1) (hd _ H.1)]
  exact H.2.1
 ·rcases H.2.2.1.2 with h0 | ⟨g,c,cur,hv,hb,hg,rest⟩
  ·exact .inl h0
  ·refine .inr ⟨g,c,cur,hv,hb,?_,rest⟩
   rw [hk.block g (lt_of_block hg) (hd _ (H.2.2.2.2 g (by rw [hv];rfl)))]
   exact hg
def moreOf (free:List Nat) (n:Nat):Nat:=if free=[] then n+1 else n
def handOf (free:List Nat) (n:Nat):Nat:=free.headD (n+1)
theorem Rep.more (R:Rep s row free):(if s.free=0 then s.n+1 else s.n)=moreOf free s.n∧s.hand=handOf free s.n:=by
 refine ⟨?_,R.hand_eq.1⟩
 cases free with
 | nil=>have hz:s.free=0:=R.chain;simp [hz,moreOf]
 | cons f t =>
   have hz:s.free=f:=R.chain.1
   have hfm:=(R.mem f).1 (by simp)
   rw [if_neg (by omega)]
   simp [moreOf]
theorem ListIn.setDrop {V:α→Value} {te tl:TypeId} {B:Nat→Prop} {w:World} {p g cap:Nat} (h:ListIn V te tl B w p s (some ⟨g,0,none⟩) cap) (i:Nat) (z:α) (c:Int) (hc:c=((s.count - 1:Nat):Int)) :
 ListIn V te tl B ((((((w.setCell ⟨g,i*4,none⟩ (.int .i64 0)).setCell ⟨g,i*4+1,none⟩ (.int .i64 s.free)).setCell ⟨g,i*4+2,none⟩ (.bool false)).setCell ⟨g,i*4+3,none⟩ (V z)).setCell ⟨p,3,none⟩ (.int .i64 ((i:Int)+1))).setCell ⟨p,4,none⟩ (.int .i64 c)) p
  (s.drop (i+1) z) (some ⟨g,0,none⟩) cap:=by
 subst hc
 exact ((h.setSlot i 0 s.free false z).setFree (i+1)).setCount (s.count - 1)
theorem linked_front {pv nx:Nat→Nat} {row:List Nat} (H:Linked pv nx (0::(row++[0]))):nx 0=row.headD 0:=by
 cases row with
 | nil=>simpa using (linked_cons.1 H).1
 | cons b r=>simpa using (linked_cons.1 H).1
theorem linked_back {pv nx:Nat→Nat} {row:List Nat} (H:Linked pv nx (0::(row++[0]))):pv 0=row.getLastD 0:=by
 obtain ⟨L,hL⟩:=ring_ahead' row
 rw [show 0::(row++[0])=(0::row)++[0] by simp,hL,show L++[row.getLastD 0]++[0]=L++row.getLastD 0::[0] by simp,linked_append,linked_cons] at H
 exact H.2.2.1
theorem headD_le {row:List Nat} {n:Nat} (h:∀ x∈row,x≤n):row.headD 0≤n:=by
 cases row with
 | nil=>simp
 | cons b r=>exact h b (by simp)
theorem getLastD_le {row:List Nat} {n:Nat} (h:∀ x∈row,x≤n):row.getLastD 0≤n:=by
 rcases List.eq_nil_or_concat row with e | ⟨l',x,e⟩
 ·subst e;simp
 ·subst e;simpa using h x (by simp)
theorem Rep.untied_ends {l r:List Nat} {h:Nat} (R:Rep s (l++h::r) free) :
 (s.untie h).nx 0=(l++r).headD 0∧(s.untie h).pv 0=(l++r).getLastD 0∧(s.untie h).nx 0≤s.n∧(s.untie h).pv 0≤s.n:=by
 have hle:∀ x∈l++r,x≤s.n:=fun x hx=>((R.mem x).1 (by simp at hx ⊢;grind)).2
 have e1:=linked_front R.untied
 have e2:=linked_back R.untied
 exact ⟨e1,e2,e1 ▸ headD_le hle,e2 ▸ getLastD_le hle⟩
def hdOf (row:List Nat):Nat:=row.headD 0
def lsOf (row:List Nat):Nat:=row.getLastD 0
theorem Rep.front' (R:Rep s row free):s.nx 0=hdOf row:=R.front
theorem Rep.aside' {l r:List Nat} {h:Nat} (R:Rep s (l++h::r) free):s.pv h=lsOf l∧s.nx h=hdOf r:=R.aside
end
end Go.Proofs.YtkkkkiejnmpdkaaGreatDoor.Ls
namespace Go.Proofs.YtkkkkiejnmpdkaaGreatDoor.Ls
open Go.RowKit
theorem has_any {B:Nat→Prop} {w:World} {p:Nat} {s:St ByteArray} (H:ListAt Value.string 234 152 B w p s) (h:Int) (hn:s.n≤1000000) :
 Calls Tryz.prog 214 #[.pointer (some ⟨p,0,none⟩),.int .i64 h] w fun e w'=>e=.returned (.bool (s.has h))∧w'=w:=by
 obtain ⟨ad,cap,H⟩:=H
 obtain ⟨c0,c1,c2,c3,c4,f0,f1,f2,f3,f4⟩:=H.top
 by_cases h1:1≤h
 ·by_cases h2:h≤s.n
  ·obtain ⟨i,rfl⟩:∃ i:Nat,h=((i:Nat):Int)+1:=⟨(h - 1).toNat,by omega⟩
   obtain ⟨g,rfl,hg,hp⟩:=H.slots (by omega)
   obtain ⟨d0,d1,d2,d3,e0,e1,e2,e3⟩:=H.slot (i:=i) (by omega)
   have hh:s.has ((i:Int)+1)=s.th (i+1):=by
    have e:((i:Int)+1).toNat=i+1:=by omega
    simp [St.has,h1,h2,e]
   rw [hh]
   clear H hh
   go_enter Tryz.func214,Tryz.ntmps214
   go_wp2
   go_ret
   exact ⟨rfl,rfl⟩
  ·have hh:s.has h=false:=by simp [St.has,h2]
   rw [hh]
   clear H hh
   go_enter Tryz.func214,Tryz.ntmps214
   go_wp2
   go_ret
   exact ⟨rfl,rfl⟩
 ·have hh:s.has h=false:=by simp [St.has,h1]
  rw [hh]
  clear H hh
  go_enter Tryz.func214,Tryz.ntmps214
  go_wp2
  go_ret
  exact ⟨rfl,rfl⟩
theorem links_any {B:Nat→Prop} {w:World} {p:Nat} {s:St ByteArray} {ad:Option Addr} {cap:Nat} (H:ListIn Value.string 234 152 B w p s ad cap) (hd:Nat) (hh:hd≤s.n) (hn:s.n≤1000000) :
 Calls Tryz.prog 219 #[.pointer (some ⟨p,0,none⟩),.int .i64 hd] w fun e w'=>∃ b off,e=.returned (.pointer (some ⟨b,off,none⟩))∧LinkAt Value.string 234 152 B w p s ad cap hd b off∧w'=w:=by
 obtain ⟨c0,c1,c2,c3,c4,f0,f1,f2,f3,f4⟩:=H.top
 cases hd with
 | zero =>
   have L:=H.link0
   clear H
   go_enter Tryz.func219,Tryz.ntmps219
   go_wp2
   go_ret
   exact ⟨_,_,rfl,L,rfl⟩
 | succ i =>
   obtain ⟨g,rfl,hg,hp⟩:=H.slots (by omega)
   have L:=H.link hg (i:=i) (by omega)
   clear H
   go_enter Tryz.func219,Tryz.ntmps219
   go_wp2
   all_goals go_ret
   all_goals exact ⟨_,_,rfl,L,rfl⟩
set_option maxHeartbeats 400000 in
theorem tie_any {B:Nat→Prop} {w:World} {p:Nat} {s:St ByteArray} (H:ListAt Value.string 234 152 B w p s) (hd pr ne:Nat) (hh:hd≤s.n) (hpr:pr≤s.n) (hne:ne≤s.n) (hn:s.n≤1000000) :
 Calls Tryz.prog 208 #[.pointer (some ⟨p,0,none⟩),.int .i64 hd,.int .i64 pr,.int .i64 ne] w fun e w'=>e=.returned (.tuple #[])∧ListAt Value.string 234 152 B w' p (s.tie hd pr ne)∧Keeps B w w':=by
 obtain ⟨ad,cap,H⟩:=H
 go_enter Tryz.func208,Tryz.ntmps208
 go_wp2_with (go_at_call 219;first
  | (refine (links_any H hd hh hn).mono ?_;rintro e w' ⟨b1,o1,rfl,L1,rfl⟩;have c10:=L1.c0;have c11:=L1.c1;have f10:=L1.f0;have f11:=L1.f1;clear H)
  | (refine (links_any (L1.both pr ne) pr hpr hn).mono ?_;rintro e w' ⟨b2,o2,rfl,L2,rfl⟩;have c20:=L2.c0;have c21:=L2.c1;have f20:=L2.f0;have f21:=L2.f1;have l1:=L1.lo;clear L1)
  | (refine (links_any (L2.nx hd) ne hne hn).mono ?_;rintro e w' ⟨b3,o3,rfl,L3,rfl⟩;have c30:=L3.c0;have c31:=L3.c1;have f30:=L3.f0;have f31:=L3.f1;have l2:=L2.lo;clear L2))
 go_end0
 exact ⟨rfl,⟨_,_,L3.pv hd⟩,(((Keeps.refl B _).setCell l1 _).setCell l1 _ |>.setCell l2 _).setCell L3.lo _⟩
set_option maxHeartbeats 1000000 in
theorem untie_any {B:Nat→Prop} {w:World} {p:Nat} {s:St ByteArray} (H:ListAt Value.string 234 152 B w p s) (hd:Nat) (hh:hd≤s.n) (hpr:s.pv hd≤s.n) (hne:s.nx hd≤s.n) (hn:s.n≤1000000) :
 Calls Tryz.prog 215 #[.pointer (some ⟨p,0,none⟩),.int .i64 hd] w fun e w'=>e=.returned (.tuple #[])∧ListAt Value.string 234 152 B w' p (s.untie hd)∧Keeps B w w':=by
 obtain ⟨ad,cap,H⟩:=H
 go_enter Tryz.func215,Tryz.ntmps215
 go_wp2_with (go_at_call 219;(refine (links_any H hd hh hn).mono ?_;rintro e w' ⟨b1,o1,rfl,L1,rfl⟩;have c10:=L1.c0;have c11:=L1.c1;have f10:=L1.f0;have f11:=L1.f1))
 have H1:=H.alloc (.cells #[.int .i64 (s.pv hd),.int .i64 (s.nx hd)] 149)
 have old:∀ {b},(b=p∨ad=some ⟨b,0,none⟩)→b<w'.heap.size:=H.old
 have HB1:Keeps B w' (w'.alloc (.cells #[.int .i64 (s.pv hd),.int .i64 (s.nx hd)] 149)):=(Keeps.refl B w').alloc _
 have a0:(w'.alloc (.cells #[.int .i64 (s.pv hd),.int .i64 (s.nx hd)] 149)).heap[w'.heap.size]? = some (.cells #[.int .i64 (s.pv hd),.int .i64 (s.nx hd)] 149 (0,0)):=heap_alloc_new w' _
 clear c10 c11 f10 f11 L1
 generalize hW:w'.alloc (.cells #[.int .i64 (s.pv hd),.int .i64 (s.nx hd)] 149)=W at H1 HB1 a0 ⊢
 clear hW
 generalize w'.heap.size=q at a0 old ⊢
 go_cut [] from 10 (fun wx=>ListIn Value.string 234 152 B wx p { s with nx:=upd s.nx (s.pv hd) (s.nx hd) } ad cap∧wx.heap[q]? = some (.cells #[.int .i64 (s.pv hd),.int .i64 (s.nx hd)] 149 (0,0))∧Keeps B w' wx)
 case first =>
  have y0:=cell_of_block (j:=0) a0
  have y1:=cell_of_block (j:=1) a0
  simp at y0 y1
  have HQ:Hid _:=a0
  clear a0
  go_region_with (go_at_call 219;(refine (links_any (w:=W.drew) H1 (s.pv hd) hpr hn).mono ?_;rintro e w' ⟨b2,o2,rfl,L2,rfl⟩;have c10:=L2.c0;have c11:=L2.c1;have f10:=L2.f0;have f11:=L2.f1))
  all_goals (go_wp2_with fail;go_meet;case rel=>exact ⟨L2.nx (s.nx hd),(Below.heap_setCell W _ _ q (Nat.ne_of_gt (old L2.at_))).trans HQ.out,(HB1.setCell L2.lo _).drew⟩)
 case rest =>
  obtain ⟨H2,a2,HB2⟩:=hcut
  have y0:=cell_of_block (j:=0) a2
  have y1:=cell_of_block (j:=1) a2
  simp at y0 y1
  clear H1 HB1 a0 a2
  go_wp2_with fail
  go_region_with (go_at_call 219;(refine (links_any (w:=wc.drew) H2 (s.nx hd) hne hn).mono ?_;rintro e w' ⟨b2,o2,rfl,L2,rfl⟩;have c10:=L2.c0;have c11:=L2.c1;have f10:=L2.f0;have f11:=L2.f1))
  all_goals (go_wp2_with fail;go_end0;exact ⟨rfl,⟨_,_,L2.pv (s.pv hd)⟩,(HB2.setCell L2.lo _).drew⟩)
theorem infoSlot:(Tryz.prog.info? 234).map (fun i=>(i.zero,i.size,i.bytes))=some (some (.agg #[.int .i64 0,.int .i64 0,.bool false,.string ByteArray.empty]),4,40):=by kernel_rfl
theorem new_any (w:World) (B:Nat→Prop) (hB:B w.heap.size) (va:Nat→ByteArray) (th:Nat→Bool) :
 Calls Tryz.prog 57 #[] w fun e w'=>∃ p,e=.returned (.pointer (some ⟨p,0,none⟩))∧ListAt Value.string 234 152 B w' p ⟨fun _=>0,fun _=>0,th,va,0,0,0⟩∧Keeps B w w'∧p=w.heap.size:=by
 go_enter Tryz.func57,Tryz.ntmps57
 go_wp2
 go_ret
 exact ⟨_,rfl,ListAt.made _ _ _ hB va th,(Keeps.refl B w).alloc _,rfl⟩
set_option maxHeartbeats 400000 in
theorem give_any {B:Nat→Prop} {w:World} {p:Nat} {s:St ByteArray} (H:ListAt Value.string 234 152 B w p s) (hB:∀ k,w.heap.size≤k→B k) (v:ByteArray) (hf:s.free≤s.n) (hc:s.count≤1000000) (hn:s.n≤1000000) :
 Calls Tryz.prog 207 #[.pointer (some ⟨p,0,none⟩),.string v] w fun e w'=>e=.returned (.int .i64 s.hand)∧ListAt Value.string 234 152 B w' p (s.give v)∧Keeps B w w':=by
 obtain ⟨ad,cap,H⟩:=H
 obtain ⟨c0,c1,c2,c3,c4,f0,f1,f2,f3,f4⟩:=H.top
 have lp:=H.1
 rcases Nat.eq_zero_or_pos s.free with h0 | h0
 ·obtain ⟨i0,hi,hz0,hz1,hz2⟩:=info_parts infoSlot
  have H1:=(H.setCount (s.count+1)).alloc (Obj.cells #[Value.int IntKind.i64 0,Value.int IntKind.i64 0,Value.bool true,Value.string v] 234)
  have hsrc:=(cell_four_new (w.setCell ⟨p,4,none⟩ (Value.int IntKind.i64 ((s.count:Int)+1))) (Value.int IntKind.i64 0) (Value.int IntKind.i64 0) (Value.bool true) (Value.string v) 234).resolve_right (by simp [Value.oneCell'])
  rw [show (w.setCell ⟨p,4,none⟩ (Value.int IntKind.i64 ((s.count:Int)+1))).heap.size=w.heap.size by simp [World.setCell]] at hsrc
  have eh:s.hand=s.n+1:=by simp [St.hand,h0]
  have eg:s.give v = { s with pv:=upd s.pv (s.n+1) 0,nx:=upd s.nx (s.n+1) 0,th:=upd s.th (s.n+1) true,va:=upd s.va (s.n+1) v,n:=s.n+1,count:=s.count+1 }:=by simp [St.give,eh,h0]
  rw [eg,eh]
  have hlo:∀ k,(Value.slice ad s.n cap).ownBlock=some k→B k∨w.heap.size≤k:=fun k e=>.inl (H.2.2.2.2 k e)
  clear H eg eh
  go_enter Tryz.func207,Tryz.ntmps207
  go_wp2_with (at_builtin;go_must (refine wpList_append_from _ rfl _ _ 150 rfl 0 234 i0 _ 4 40 Tryz.underlying150 hi hz0 hz1 hz2 rfl (by omega) (.slice ad s.n cap) s.n (s.row Value.string) rfl H1.2.2.1 _ 1 1 _ rfl hsrc (by unfold maxLen;omega) (by omega) (Nat.zero_le _) ?_);intro ad' cap' w1 hc1 hown hgrow hat;have H2:=H1.grow (hB _ (by simp [World.setCell])) v hown hgrow hat;obtain ⟨t2,t3⟩:=H1.struct hgrow;clear hsrc hi hz0 hz1 hz2 H1)
  go_ret
  rw [h0] at H2
  exact ⟨rfl,⟨_,_,H2⟩,(((((Keeps.refl B w).setCell lp _).alloc _).grown hgrow hlo).setCell lp _)⟩
 ·obtain ⟨f,hf'⟩:∃ f,s.free=f+1:=⟨s.free - 1,by omega⟩
  obtain ⟨g,rfl,hg,hp⟩:=H.slots (by omega)
  obtain ⟨d0,d1,d2,d3,e0,e1,e2,e3⟩:=H.slot (i:=f) (by omega)
  have H1:=(((H.setCount (s.count+1)).setFree (s.nx (f+1))).setSlot f 0 0 true v)
  have eh:s.hand=f+1:=by simp [St.hand,hf']
  have eg:s.give v = { s with pv:=upd s.pv (f+1) 0,nx:=upd s.nx (f+1) 0,th:=upd s.th (f+1) true,va:=upd s.va (f+1) v,free:=s.nx (f+1),count:=s.count+1 }:=by simp [St.give,eh,hf']
  rw [eg,eh]
  clear H eg eh
  go_enter Tryz.func207,Tryz.ntmps207
  go_wp2
  go_ret
  exact ⟨rfl,⟨_,_,H1⟩,((((((Keeps.refl B w).setCell lp _).setCell lp _).setCell hg _).setCell hg _).setCell hg _).setCell hg _⟩
end Go.Proofs.YtkkkkiejnmpdkaaGreatDoor.Ls
namespace Go.Proofs.YtkkkkiejnmpdkaaGreatDoor.Ls
open Go.RowKit
theorem make_any (w:World) (B:Nat→Prop) (hB:B w.heap.size) :
 Calls Tryz.prog 57 #[] w fun e w'=>∃ p,e=.returned (.pointer (some ⟨p,0,none⟩))∧LA Value.string 234 152 B w' p [] [] (fun _=>⟨#[]⟩) 0∧Keeps B w w' :=
 (new_any w B hB (fun _=>⟨#[]⟩) (fun _=>false)).mono fun _ _ ⟨p,h1,h2,h3,_⟩=>⟨p,h1,⟨_,h2,Rep.empty _ _,rfl,rfl⟩,h3⟩
set_option maxHeartbeats 400000 in
theorem pushBack_any {B:Nat→Prop} {w:World} {p:Nat} {row free:List Nat} {va:Nat→ByteArray} {n:Nat} (H:LA Value.string 234 152 B w p row free va n) (hB:∀ k,w.heap.size≤k→B k) (v:ByteArray) (hn:n≤900000) :
 Calls Tryz.prog 196 #[.pointer (some ⟨p,0,none⟩),.string v] w fun e w'=>e=.returned (.int .i64 (handOf free n))∧LA Value.string 234 152 B w' p (row++[handOf free n]) free.tail (upd va (handOf free n) v) (moreOf free n)∧Keeps B w w':=by
 obtain ⟨s,H,R,rfl,rfl⟩:=H
 obtain ⟨L,hL⟩:=ring_ahead' row
 have hf:=R.hand_eq.2
 obtain ⟨h0,_,hle,_⟩:=R.hand_new
 obtain ⟨em,eh⟩:=R.more
 have hcl:s.count≤1000000:=by have:=R.len;have:=R.count;omega
 have hpv:(s.give v).pv 0=row.getLastD 0:=(upd_far _ _ (Ne.symm h0)).trans R.back
 have R2:Rep ((s.give v).tie s.hand ((s.give v).pv 0) 0) (row++[s.hand]) free.tail:=Rep.push (l:=row) (r:=[]) (by simpa using R) v (a:=(s.give v).pv 0) (b:=0) (L:=L) (Z:=[]) (by rw [hpv];exact hL) rfl
 have hgn:(s.give v).n≤1000000:=by show (if s.free=0 then s.n+1 else s.n)≤_;split <;> omega
 have hgh:s.hand≤(s.give v).n:=hle
 have hgx:(s.give v).pv 0≤(s.give v).n:=by
  rw [hpv,← R.back]
  show _≤(if s.free=0 then s.n+1 else s.n)
  have:=R.ends
  split <;> omega
 have hlo:=H.lo
 have HR:Hid _:=R2
 have HM:Hid _:=em
 rw [← eh]
 clear R2 R hL hpv em eh h0 hle
 go_enter Tryz.func196,Tryz.ntmps196
 go_wp2_with (first
  | (go_at_call 207;refine (give_any H hB v hf hcl (by omega)).mono ?_;rintro e w1 ⟨rfl,⟨ad,cap,H1⟩,hb1⟩;obtain ⟨c0,c1,-,-,-,-⟩:=H1.top;clear H)
  | (go_at_call 208;refine (tie_any ⟨_,_,H1⟩ s.hand ((s.give v).pv 0) 0 hgh hgx (by omega) hgn).mono ?_;rintro e w2 ⟨rfl,H2,hb2⟩;clear H1))
 go_ret
 exact ⟨rfl,⟨_,H2,HR.out,rfl,HM.out⟩,hb1.trans hb2⟩
section
variable {B:Nat→Prop} {w:World} {p:Nat} {row free:List Nat} {va:Nat→ByteArray} {n:Nat}
theorem get_in (H:LA Value.string 234 152 B w p row free va n) (hd:Nat) (ho:hd∈row) (hn:n≤1000000) :
 Calls Tryz.prog 212 #[.pointer (some ⟨p,0,none⟩),.int .i64 hd] w fun e w'=>e=.returned (.tuple #[.string (va hd),.bool true])∧w'=w:=by
 obtain ⟨s,⟨ad,cap,H⟩,R,rfl,rfl⟩:=H
 have hh:=has_any ⟨_,_,H⟩ hd hn
 rw [R.has_in ho] at hh
 have hm:=(R.mem hd).1 (by simp [ho])
 obtain ⟨i,rfl⟩:∃ i,hd=i+1:=⟨hd - 1,by omega⟩
 obtain ⟨c0,c1,c2,c3,c4,f0,f1,f2,f3,f4⟩:=H.top
 obtain ⟨g,rfl,hg,hp⟩:=H.slots (by omega)
 obtain ⟨d0,d1,d2,d3,e0,e1,e2,e3⟩:=H.slot (i:=i) (by omega)
 clear H R ho
 go_enter Tryz.func212,Tryz.ntmps212
 go_wp2_with (go_at_call 214;refine hh.mono ?_;rintro e w1 ⟨rfl,rfl⟩;clear hh)
 go_ret2
 exact ⟨rfl,rfl⟩
set_option maxHeartbeats 1000000 in
theorem remove_in {l r:List Nat} (hd:Nat) (H:LA Value.string 234 152 B w p (l++hd::r) free va n) (hn:n≤1000000) :
 Calls Tryz.prog 202 #[.pointer (some ⟨p,0,none⟩),.int .i64 hd] w fun e w'=>e=.returned (.tuple #[.string (va hd),.bool true])∧LA Value.string 234 152 B w' p (l++r) (hd::free) (upd va hd ⟨#[]⟩) n∧Keeps B w w':=by
 obtain ⟨s,H,R,rfl,rfl⟩:=H
 have hh:=has_any H hd hn
 rw [R.has_in (by simp)] at hh
 have hm:=(R.mem hd).1 (by simp)
 have hc:=R.count
 have hl:=R.len
 obtain ⟨b1,b2,-,-⟩:=R.beside
 have hu:=untie_any H hd hm.2 b1 b2 hn
 obtain ⟨i,rfl⟩:∃ i,hd=i+1:=⟨hd - 1,by omega⟩
 have R2:=R.removed (⟨#[]⟩:ByteArray)
 have hcount:1≤s.count∧s.count≤1000000:=by simp at hc hl;omega
 have hi:i<s.n:=by omega
 obtain ⟨S,hS,en,ec,ev⟩:∃ S,S=s.untie (i+1)∧S.n=s.n∧S.count=s.count∧S.va=s.va:=⟨_,rfl,rfl,rfl,rfl⟩
 rw [← hS] at hu R2
 rw [← en] at hi hn ⊢
 rw [← ec] at hcount
 rw [← ev]
 have HR:Hid _:=R2
 clear H R R2 hc hl b1 b2 hS en ec ev hm
 go_enter Tryz.func202,Tryz.ntmps202
 go_wp2_with (first
  | (go_at_call 214;refine hh.mono ?_;rintro e w1 ⟨rfl,rfl⟩;clear hh)
  | (go_at_call 215;refine hu.mono ?_;rintro e w2 ⟨rfl,⟨ad,cap,H1⟩,hb1⟩;clear hu;obtain ⟨c0,c1,c2,c3,c4,f0,f1,f2,f3,f4⟩:=H1.top;obtain ⟨g,rfl,hg,hp⟩:=H1.slots (Nat.lt_of_le_of_lt (Nat.zero_le _) hi);obtain ⟨d0,d1,d2,d3,e0,e1,e2,e3⟩:=H1.slot (i:=i) hi))
 have lp:=H1.1
 go_region
 go_wp2_with fail
 go_ret2
 exact ⟨rfl,⟨_,⟨_,_,(H1.setDrop i ⟨#[]⟩ ((S.count:Int) - 1) (by omega)).drew⟩,HR.out,rfl,rfl⟩,((((((hb1.setCell hg _).setCell hg _).setCell hg _).setCell hg _).setCell lp _).setCell lp _).drew⟩
theorem front_any (H:LA Value.string 234 152 B w p row free va n):Calls Tryz.prog 213 #[.pointer (some ⟨p,0,none⟩)] w fun e w'=>e=.returned (.int .i64 (hdOf row:Nat))∧w'=w:=by
 obtain ⟨s,⟨ad,cap,H⟩,R,rfl,rfl⟩:=H
 obtain ⟨c0,c1,-,-,-,-⟩:=H.top
 rw [← R.front']
 clear H R
 go_enter Tryz.func213,Tryz.ntmps213
 go_wp2
 go_ret
 exact ⟨rfl,rfl⟩
theorem len_any (H:LA Value.string 234 152 B w p row free va n):Calls Tryz.prog 200 #[.pointer (some ⟨p,0,none⟩)] w fun e w'=>e=.returned (.int .i64 (row.length:Nat))∧w'=w:=by
 obtain ⟨s,⟨ad,cap,H⟩,R,rfl,rfl⟩:=H
 obtain ⟨c0,c1,c2,c3,c4,-⟩:=H.top
 rw [← R.count]
 clear H R
 go_enter Tryz.func200,Tryz.ntmps200
 go_wp2
 go_ret
 exact ⟨rfl,rfl⟩
end
section
variable {α:Type} {V:α→Value} {te tl:TypeId} {B:Nat→Prop} {w w':World} {p:Nat}
theorem ListIn.below {s:St α} {ad:Option Addr} {cap:Nat} (h:ListIn V te tl B w p s ad cap) (hb:Below w.heap.size w w'):ListIn V te tl B w' p s ad cap :=
 h.far (row:=none) ⟨hb.os,hb.tape,hb.output,hb.size,fun k hk _=>hb.block k hk⟩ (fun _ e=>by cases e)
theorem LA.below {row free:List Nat} {va:Nat→α} {n:Nat} (h:LA V te tl B w p row free va n) (hb:Below w.heap.size w w'):LA V te tl B w' p row free va n:=by
 obtain ⟨s,⟨ad,cap,H⟩,r⟩:=h
 exact ⟨s,⟨ad,cap,H.below hb⟩,r⟩
end
def lenOf:Value→Nat | .slice _ n _=>n | _=>0
theorem infoStr:(Tryz.prog.info? 9).map (fun i=>(i.zero,i.size,i.bytes))=some (some (.string ByteArray.empty),1,16):=by kernel_rfl
theorem one_new (w:World) (a:Value) (t:TypeId) (h:a.oneCell'=true):FromRow (w.alloc (.cells #[a] t)) 1 (some ⟨w.heap.size,0,none⟩) 1 1 [a]:=by
 refine .inr ⟨_,rfl,rfl,?_,?_⟩
 ·intro j u hu
  have:=heap_alloc_new w (.cells #[a] t)
  rw [show (⟨w.heap.size,0,none⟩:Addr).add j=⟨w.heap.size,j,none⟩ by simp [Addr.add_lit],cell_of_block this]
  simpa using hu
 ·intro u hu
  simp at hu
  subst hu
  exact h
theorem row_cut {row:List Nat} {k:Nat} (h:k<row.length):∃ x,row=row.take k++x::row.drop (k+1)∧row.drop k=x::row.drop (k+1)∧row.take (k+1)=row.take k++[x]:=by
 refine ⟨row[k],?_,?_,?_⟩
 ·conv=>lhs;rw [← List.take_append_drop k row,List.drop_eq_getElem_cons h]
 ·exact List.drop_eq_getElem_cons h
 ·simp
set_option maxRecDepth 100000 in
set_option maxHeartbeats 2000000 in
theorem all_any {B:Nat→Prop} {w:World} {p:Nat} {row free:List Nat} {va:Nat→ByteArray} {n:Nat} (H:LA Value.string 234 152 B w p row free va n) (hn:n≤1000000) :
 Calls Tryz.prog 192 #[.pointer (some ⟨p,0,none⟩)] w fun e w'=>∃ ad cap,e=.returned (.slice ad row.length cap)∧w'.ownsRow w.heap.size 9 1 (.slice ad row.length cap) row.length (row.map fun h=>Value.string (va h))∧Below w.heap.size w w':=by
 obtain ⟨i0,hi,hz0,hz1,hz2⟩:=info_parts infoStr
 have HL:Hid _:=H
 obtain ⟨s,⟨ad,cap,H⟩,R,rfl,rfl⟩:=H
 have hlen:row.length≤1000000:=by have:=R.len;omega
 obtain ⟨c0,c1,c2,c3,c4,-⟩:=H.top
 rw [R.front'] at c1
 rw [R.count] at c4
 have HR:Hid _:=R
 have HI:=H
 clear R H
 go_enter Tryz.func192,Tryz.ntmps192
 go_wp2_with (at_make;refine wpList_make_own _ rfl _ _ 38 rfl w.heap.size 9 i0 _ 1 Tryz.underlying38 hi hz0 hz1 .i64 .i64 _ row.length rfl rfl rfl (by rw [hz2];omega) (by unfold maxLen;omega) (Nat.le_refl _) ?_;intro w0 hown0 hgrow0;have e1:=hgrow0.cell c1 (by simp))
 go_loopw [3,4] (fun v h wr=>∃ k ad cap,k≤row.length∧v=.slice ad k cap∧h=.int .i64 (hdOf (row.drop k):Nat)∧wr.ownsRow w.heap.size 9 1 (.slice ad k cap) k ((row.take k).map fun h=>Value.string (s.va h))∧Below w.heap.size w wr) (fun v _ _=>row.length - lenOf v)
 case atStart =>
  exact ⟨0,_,_,Nat.zero_le _,rfl,rfl,hown0,(Below.refl _ w).grown hgrow0 (Nat.le_refl _) (fun k e=>by cases e)⟩
 case round =>
  obtain ⟨k,ad1,cap1,hk,rfl,rfl,hown,hb⟩:=hrel
  have hR:=HR.out
  obtain ⟨x0,x1,x2,x3,x4,-⟩:=(HI.below hb).top
  rcases Nat.lt_or_ge k row.length with hlt | hge
  ·obtain ⟨x,hrow,hdrop,htake⟩:=row_cut hlt
   have hx:=(hR.mem x).1 (by rw [hrow];simp)
   have hnx:s.nx x=hdOf (row.drop (k+1)):=by rw [hrow] at hR;simpa using hR.aside'.2
   obtain ⟨i,rfl⟩:∃ i,x=i+1:=⟨x - 1,by omega⟩
   have hH:=HI.below hb
   obtain ⟨g,rfl,hg,hp⟩:=HI.slots (by omega)
   obtain ⟨d0,d1,d2,d3,-⟩:=hH.slot (i:=i) (by omega)
   have hW:=hb.size
   have hd:hdOf (row.drop k)=i+1:=by rw [hdrop];rfl
   rw [hnx] at d1
   have HN:Hid _:=hnx
   have HT:Hid _:=htake
   rw [hd]
   clear hR hH hdrop hrow hnx hd htake
   go_wp2_with (at_builtin;go_must (refine wpList_append_from _ rfl _ _ 38 rfl w.heap.size 9 i0 _ 1 16 Tryz.underlying38 hi hz0 hz1 hz2 rfl (by omega) (.slice ad1 k cap1) k _ rfl (hown.alloc _) _ 1 1 _ rfl (one_new _ _ 9 rfl) (by unfold maxLen;omega) (by omega) (by simp;omega) ?_);intro ad2 cap2 w2 hc2 hown2 hgrow2 hat2;have hb2:Below w.heap.size w w2:=(hb.alloc hW _).grown hgrow2 (by simp;omega) (fun k e=>(hown.lt k e).1);obtain ⟨y0,y1,y2,y3,y4,-⟩:=(HI.below hb2).top;obtain ⟨z0,z1,z2,z3,-⟩:=(HI.below hb2).slot (i:=i) (by omega);rw [HN.out] at z1;clear hgrow2 hat2 d0 d1 d2 d3 x0 x1 x2 x3 x4)
   go_roundw
   case rel =>
    refine ⟨k+1,ad2,cap2,hlt,rfl,rfl,?_,hb2⟩
    rw [HT.out,List.map_append]
    exact hown2
   case measure=>simp [lenOf];omega
  ·have hd:row.drop k=[]:=List.drop_eq_nil_of_le hge
   have hk':k=row.length:=by omega
   subst hk'
   rw [hd,show hdOf []=0 from rfl]
   rw [List.take_length] at hown
   clear hd hR
   go_wp2_with fail
   go_ret
   exact ⟨_,_,rfl,hown,hb⟩
end Go.Proofs.YtkkkkiejnmpdkaaGreatDoor.Ls
namespace Go.Proofs.YtkkkkiejnmpdkaaGreatDoor.Ls
open Go.RowKit
section
variable {B:Nat→Prop} {w:World} {p:Nat} {row free:List Nat} {va:Nat→ByteArray} {n:Nat}
set_option maxHeartbeats 400000 in
theorem toBack_in {l r:List Nat} (hd:Nat) (H:LA Value.string 234 152 B w p (l++hd::r) free va n) (hn:n≤1000000) :
 Calls Tryz.prog 270 #[.pointer (some ⟨p,0,none⟩),.int .i64 hd] w fun e w'=>e=.returned (.bool true)∧LA Value.string 234 152 B w' p (l++r++[hd]) free va n∧Keeps B w w':=by
 obtain ⟨s,H,R,rfl,rfl⟩:=H
 have hh:=has_any H hd hn
 rw [R.has_in (by simp)] at hh
 obtain ⟨b1,b2,-,hm⟩:=R.beside
 have hu:=untie_any H hd hm b1 b2 hn
 obtain ⟨L,hL⟩:=ring_ahead' (l++r)
 obtain ⟨-,e1,-,hx⟩:=R.untied_ends
 have R2:=R.moved (l':=l++r) (r':=[]) (by simp) (a:=(s.untie hd).pv 0) (b:=0) (L:=L) (Z:=[]) (by rw [e1];exact hL) rfl
 obtain ⟨S,hS,en,ev⟩:∃ S,S=s.untie hd∧S.n=s.n∧S.va=s.va:=⟨_,rfl,rfl,rfl⟩
 rw [← hS] at hu R2 hx
 rw [← en] at hm hn hx ⊢
 rw [← ev]
 have HR:Hid _:=R2
 clear H R R2 b1 b2 hS en ev e1 hL
 go_enter Tryz.func270,Tryz.ntmps270
 go_wp2_with (first
  | (go_at_call 214;refine hh.mono ?_;rintro e w1 ⟨rfl,rfl⟩;clear hh)
  | (go_at_call 215;refine hu.mono ?_;rintro e w2 ⟨rfl,⟨ad,cap,H1⟩,hb1⟩;clear hu;obtain ⟨c0,c1,-,-,-,-⟩:=H1.top)
  | (go_at_call 208;refine (tie_any ⟨_,_,H1⟩ hd (S.pv 0) 0 hm hx (by omega) hn).mono ?_;rintro e w3 ⟨rfl,H2,hb2⟩;clear H1))
 go_ret
 exact ⟨rfl,⟨_,H2,HR.out,rfl,rfl⟩,hb1.trans hb2⟩
end
end Go.Proofs.YtkkkkiejnmpdkaaGreatDoor.Ls
namespace Go.Proofs.YtkkkkiejnmpdkaaGreatDoor.Ls
open Go.RowKit
theorem LA.hand {α:Type} {V:α→Value} {te tl:TypeId} {B:Nat→Prop} {w:World} {p:Nat} {row free:List Nat} {va:Nat→α} {n:Nat} (h:LA V te tl B w p row free va n):handOf free n∉row∧row.Nodup:=by
 obtain ⟨s,_,R,_,rfl⟩:=h
 obtain ⟨_,h1,_,_⟩:=R.hand_new
 rw [← R.more.2]
 exact ⟨fun e=>h1 (by simp [e]),(List.nodup_append.1 R.nodup).1⟩
theorem LA.hand0 {α:Type} {V:α→Value} {te tl:TypeId} {B:Nat→Prop} {w:World} {p:Nat} {row free:List Nat} {va:Nat→α} {n:Nat} (h:LA V te tl B w p row free va n):handOf free n≠0:=by
 obtain ⟨s,_,R,_,rfl⟩:=h
 obtain ⟨h0,_⟩:=R.hand_new
 rw [← R.more.2]
 exact h0
theorem LA.lens {α:Type} {V:α→Value} {te tl:TypeId} {B:Nat→Prop} {w:World} {p:Nat} {row free:List Nat} {va:Nat→α} {n:Nat} (h:LA V te tl B w p row free va n):row.length+free.length=n:=by
 obtain ⟨s,_,R,_,rfl⟩:=h
 exact R.len
end Go.Proofs.YtkkkkiejnmpdkaaGreatDoor.Ls
