import Derived.Test.YtblkkhfdeaaidaaGreatDoorTkCellAndTkCells
import Derived.Test.YtblkkhfdeaaidaaGreatDoorTxNuAndHeldSeq
import Derived.Test.YtblkkhfdeaaidaaGreatDoorTkFlAndTkSort
import Derived.Test.YtblkkhfdeaaidaaGreatDoorTxRlsAndMayG
import Derived.Deep.RegionLaw
import Derived.Deep.RegionWith
import Derived.Deep.LoopGhost
set_option maxHeartbeats 6400000
set_option maxRecDepth 100000
namespace Go.Proofs.YtblkkhfdeaaidaaGreatDoor
open Go.RowKit
def nk{ι κ:Type}(kf:ι->Option κ)(P:ι->Option Row)(Q:κ->Option Row)(i:ι):Option Row:=match kf i with|some j=>Q j|none=>P i
theorem ah.join{ι κ:Type}{w w':World}{B:Nat}{P:ι->Option Row}{Q:κ->Option Row}(h:ah w B P)(hb:Below w.heap.size w w')(hQ:ah w' w.heap.size Q)(hB:B<=w.heap.size)(kf:ι->Option κ)(inj:∀i i' j,kf i=some j->kf i'=some j->i=i'):
 ah w' B (nk kf P Q):=by
 have hP:=h.below hb (Nat.le_refl _);refine⟨fun i r hr=> ?_,fun i i' a b hne ha hb' g h1 h2=> ?_⟩
 ·cases hk:kf i with
  |some j=>simp only[nk,hk]at hr;exact jf (hQ.own j r hr) hB
  |none=>simp only[nk,hk]at hr;exact hP.own i r hr
 ·cases hk:kf i with
  |some j=>
   simp only[nk,hk]at ha;cases hk':kf i' with
   |some j'=>
    simp only[nk,hk']at hb';exact hQ.apart j j' a b (fun e=>hne (inj i i' j hk (by rw[e];exact hk'))) ha hb' g h1 h2
   |none=>
    simp only[nk,hk']at hb';have:=(hQ.lt ha h1).1;have:=(h.lt hb' h2).2;omega
  |none=>
   simp only[nk,hk]at ha;cases hk':kf i' with
   |some j'=>
    simp only[nk,hk']at hb';have:=(hQ.lt hb' h2).1;have:=(h.lt ha h1).2;omega
   |none=>
    simp only[nk,hk']at hb';exact h.apart i i' a b hne ha hb' g h1 h2
inductive Tz where
 |cs
 |gs
 |cell (k:Nat) (i:Lp)
 |gr (k:Nat)
 deriving DecidableEq
structure gP where
 cv:Value
 gv:Value
 cg:Nat->Nat
 vr:Nat->Nat->Value
 gg:Nat->Nat
def PZ(M N:Nat)(f:Nat->Nat->Ce)(g:Nat->List Int)(t:gP)(K1 Kc K2 Kg:Nat):Tz->Option Row
 | .cs=>some ⟨t.cv,110,1,K1,(List.range K1).map fun k=> .slice (some ⟨t.cg k,0,none⟩) M M⟩
 | .gs=>some ⟨t.gv,59,1,K2,(List.range K2).map fun k=> .slice (some ⟨t.gg k,0,none⟩) N N⟩
 | .cell k i=>if k<Kc then bE (t.cg k) (t.vr k) (f k) M i else none
 | .gr k=>if k<Kg then some ⟨.slice (some ⟨t.gg k,0,none⟩) N N,3,1,N,(g k).map (Value.int .i64)⟩ else none
section
variable{w w':World}{B M N:Nat}{f:Nat->Nat->Ce}{g:Nat->List Int}{t:gP}{K1 Kc K2 Kg:Nat}
def gP.rH(t:gP)(k:Nat)(cg:Nat)(vr:Nat->Value):gP:={ t with cg:=dG t.cg k cg,vr:=dG t.vr k vr }
def gP.tQ(t:gP)(k:Nat)(gg:Nat):gP:={ t with gg:=dG t.gg k gg }
theorem Tk{K:Nat}{h:Nat->Nat}{x:Nat}{F:Nat->Value}:((List.range K).map fun k=>F (dG h K x k))=(List.range K).map fun k=>F (h k):=List.map_congr_left fun k hk=>by
 have:=List.mem_range.1 hk;simp[dG,show k≠K by omega]
def Ea(K:Nat):Tz->Option Lp
 | .cell k i=>if k=K then some i else none
 |_=>none
def Eb(K:Nat):Tz->Option Unit
 | .gr k=>if k=K then some () else none
 |_=>none
theorem abR(h:ah w B (PZ M N f g t K1 K1 K2 Kg))(hb:Below w.heap.size w w')(hB:B<=w.heap.size){cg:Nat}{vr:Nat->Value}(hQ:ah w' w.heap.size (bE cg vr (f K1) M)):ah w' B (PZ M N f g (t.rH K1 cg vr) K1 (K1+1) K2 Kg):=by
 have:=h.join hb hQ hB (Ea K1) (fun i i' j h1 h2=>by
  cases i<;>cases i'<;>simp[Ea]at h1 h2;rename_i k1 i1 k2 i2;obtain⟨rfl,rfl⟩:=h1;obtain⟨rfl,rfl⟩:=h2
  rfl)
 have e:nk (Ea K1) (PZ M N f g t K1 K1 K2 Kg) (bE cg vr (f K1) M)=PZ M N f g (t.rH K1 cg vr) K1 (K1+1) K2 Kg:=by
  funext i
  cases i with
  |cs=>simp only[nk,Ea,PZ,gP.rH];rw[Tk (F:=fun x=> .slice (some ⟨x,0,none⟩) M M)]
  |gs=>rfl
  |gr k=>rfl
  |cell k i=>
   simp only[nk,Ea,PZ,gP.rH];by_cases hk:k=K1
   ·subst hk;simp[dG]
   ·rw[if_neg hk]
    simp only[dG,if_neg hk];by_cases h2:k<K1
    ·rw[if_pos h2,if_pos (by omega)]
    ·rw[if_neg h2,if_neg (by omega)]
 rwa [e]at this
theorem abS(h:ah w B (PZ M N f g t K1 Kc K2 K2))(hb:Below w.heap.size w w')(hB:B<=w.heap.size){gg:Nat}(hQ:dR w' w.heap.size gg N (g K2)):ah w' B (PZ M N f g (t.tQ K2 gg) K1 Kc K2 (K2+1)):=by
 have hQ':ah w' w.heap.size (fun _:Unit=>some ⟨.slice (some ⟨gg,0,none⟩) N N,3,1,N,(g K2).map (Value.int .i64)⟩):=
  ⟨fun i r hr=>by simp only[Option.some.injEq]at hr;subst hr;exact hQ,fun i j a b hij=>absurd rfl hij⟩
 have:=h.join hb hQ' hB (Eb K2) (fun i i' j h1 h2=>by
  cases i<;>cases i'<;>simp[Eb]at h1 h2
  rw[h1,h2])
 have e:nk (Eb K2) (PZ M N f g t K1 Kc K2 K2) (fun _:Unit=>some ⟨.slice (some ⟨gg,0,none⟩) N N,3,1,N,(g K2).map (Value.int .i64)⟩)=PZ M N f g (t.tQ K2 gg) K1 Kc K2 (K2+1):=by
  funext i
  cases i with
  |cs=>rfl
  |gs=>simp only[nk,Eb,PZ,gP.tQ];rw[Tk (F:=fun x=> .slice (some ⟨x,0,none⟩) N N)]
  |cell k i=>rfl
  |gr k=>
   simp only[nk,Eb,PZ,gP.tQ];by_cases hk:k=K2
   ·subst hk;simp[dG]
   ·rw[if_neg hk]
    simp only[dG,if_neg hk];by_cases h2:k<K2
    ·rw[if_pos h2,if_pos (by omega)]
    ·rw[if_neg h2,if_neg (by omega)]
 rwa [e]at this
theorem abT(h:ah w B (PZ M N f g t K1 Kc K2 Kg)){nv:Value}(hg:w.grownBy w' t.cv.ownBlock)(ho:w'.ownsRow B 110 1 nv (K1+1) (((List.range K1).map fun k=> .slice (some ⟨t.cg k,0,none⟩) M M)++[.slice (some ⟨t.cg K1,0,none⟩) M M]))(hat:∀g,nv.ownBlock=some g->t.cv.ownBlock=some g\/g=w.heap.size):ah w' B (PZ M N f g { t with cv:=nv } (K1+1) Kc K2 Kg):=by
 have h1:=h.turn (i:= .cs) (r':=⟨nv,110,1,K1+1,((List.range K1).map fun k=> .slice (some ⟨t.cg k,0,none⟩) M M)++[.slice (some ⟨t.cg K1,0,none⟩) M M]⟩) rfl hg ho hat
 have e:upd (PZ M N f g t K1 Kc K2 Kg) .cs ⟨nv,110,1,K1+1,((List.range K1).map fun k=> .slice (some ⟨t.cg k,0,none⟩) M M)++[.slice (some ⟨t.cg K1,0,none⟩) M M]⟩=PZ M N f g { t with cv:=nv } (K1+1) Kc K2 Kg:=by
  funext i
  cases i with
  |cs=>simp only[upd,PZ,if_true];rw[List.range_succ,List.map_append];rfl
  |_=>simp[upd,PZ]
 rwa [e]at h1
theorem abU(h:ah w B (PZ M N f g t K1 Kc K2 Kg)){nv:Value}(hg:w.grownBy w' t.gv.ownBlock)(ho:w'.ownsRow B 59 1 nv (K2+1) (((List.range K2).map fun k=> .slice (some ⟨t.gg k,0,none⟩) N N)++[.slice (some ⟨t.gg K2,0,none⟩) N N]))(hat:∀g,nv.ownBlock=some g->t.gv.ownBlock=some g\/g=w.heap.size):ah w' B (PZ M N f g { t with gv:=nv } K1 Kc (K2+1) Kg):=by
 have h1:=h.turn (i:= .gs) (r':=⟨nv,59,1,K2+1,((List.range K2).map fun k=> .slice (some ⟨t.gg k,0,none⟩) N N)++[.slice (some ⟨t.gg K2,0,none⟩) N N]⟩) rfl hg ho hat
 have e:upd (PZ M N f g t K1 Kc K2 Kg) .gs ⟨nv,59,1,K2+1,((List.range K2).map fun k=> .slice (some ⟨t.gg k,0,none⟩) N N)++[.slice (some ⟨t.gg K2,0,none⟩) N N]⟩=PZ M N f g { t with gv:=nv } K1 Kc (K2+1) Kg:=by
  funext i
  cases i with
  |gs=>simp only[upd,PZ,if_true];rw[List.range_succ,List.map_append];rfl
  |_=>simp[upd,PZ]
 rwa [e]at h1
theorem abV(w:World)(B:Nat){t:gP}(h1:t.cv= .slice none 0 0)(h2:t.gv= .slice none 0 0):ah w B (PZ M N f g t 0 0 0 0):=by
 refine⟨fun i r hr=> ?_,fun i j a b hij ha hb x h3 h4=> ?_⟩
 ·cases i with
  |cs=>simp only[PZ,Option.some.injEq]at hr;subst hr;rw[h1];exact World.ownsRow_nil _ _ _ _
  |gs=>simp only[PZ,Option.some.injEq]at hr;subst hr;rw[h2];exact World.ownsRow_nil _ _ _ _
  |cell k i=>simp[PZ]at hr
  |gr k=>simp[PZ]at hr
 ·cases i with
  |cs=>simp only[PZ,Option.some.injEq]at ha;subst ha;rw[h1]at h3;cases h3
  |gs=>simp only[PZ,Option.some.injEq]at ha;subst ha;rw[h2]at h3;cases h3
  |cell k i=>simp[PZ]at ha
  |gr k=>simp[PZ]at ha
theorem abW{K:Nat}(h:ah w B (PZ M N f g t K K K K)):TabAt w t.cv t.gv ((List.range K).map fun k=>(List.range M).map (f k)) ((List.range K).map g):=by
 refine⟨?_,?_⟩
 ·have hh:w.ownsRow B 110 1 t.cv K ((List.range K).map fun k=> .slice (some ⟨t.cg k,0,none⟩) M M):=h.own .cs _ rfl
  obtain⟨a,c,hv⟩:=bK hh;refine⟨⟨a,c,by simpa using hv⟩,fun i hi=> ?_⟩;have hi':i<K:=by simpa using hi
  obtain⟨g1,cap,hv2,_,_⟩:=hh.form (by omega);rw[hv2]at hh;have e1:((List.range K).map fun k=>(List.range M).map (f k)).getD i []=(List.range M).map (f i):=by simp[List.getD,hi']
  refine⟨g1,0,cap,.slice (some ⟨t.cg i,0,none⟩) M M,by simpa using hv2,by rw[Nat.zero_add,hh.cellAt i (by omega)];simp[hi'],?_⟩;rw[e1];refine⟨⟨some ⟨t.cg i,0,none⟩,M,by simp⟩,fun n hn=> ?_⟩;have hn':n<M:=by simpa using hn
  have hP:ah w B (bE (t.cg i) (t.vr i) (f i) M):=⟨fun j r hr=>h.own (.cell i j) r (by simp[PZ,hi',hr]),fun j j' a b hne ha hb=>h.apart (.cell i j) (.cell i j') a b (fun e=>hne (by cases e;rfl)) (by simp[PZ,hi',ha]) (by simp[PZ,hi',hb])⟩;obtain⟨c0,c1,c2,_,_,_⟩:=Lr hP hn';have e2:((List.range M).map (f i)).getD n (0,[],false)=f i n:=by simp[List.getD,hn']
  rw[e2];exact⟨t.cg i,0,M,t.vr i n,by simp,by rw[Nat.zero_add];exact c0,by rw[Nat.zero_add];exact c1,Td (GU hP hn'),by rw[Nat.zero_add];exact c2⟩
 ·have hh:w.ownsRow B 59 1 t.gv K ((List.range K).map fun k=> .slice (some ⟨t.gg k,0,none⟩) N N):=h.own .gs _ rfl
  obtain⟨a,c,hv⟩:=bK hh;refine⟨⟨a,c,by simpa using hv⟩,fun i hi=> ?_⟩;have hi':i<K:=by simpa using hi
  obtain⟨g1,cap,hv2,_,_⟩:=hh.form (by omega);rw[hv2]at hh;have e1:((List.range K).map g).getD i []=g i:=by simp[List.getD,hi']
  refine⟨g1,0,cap,.slice (some ⟨t.gg i,0,none⟩) N N,by simpa using hv2,by rw[Nat.zero_add,hh.cellAt i (by omega)];simp[hi'],?_⟩;rw[e1];exact Td (n:=N) (h.own (.gr i) ⟨.slice (some ⟨t.gg i,0,none⟩) N N,3,1,N,(g i).map (Value.int .i64)⟩ (by simp[PZ,hi']))
end
structure lQ(w wr:World)(t:gP):Prop where
 c0:wr.cell? ⟨w.heap.size+1,0,none⟩=some t.cv
 c1:wr.cell? ⟨w.heap.size+1,1,none⟩=some t.gv
 cf:∀o,wr.frozen? ⟨w.heap.size+1,o,none⟩=false
 r0:wr.cell? ⟨w.heap.size,0,none⟩=some (.slice none 0 0)
 r1:wr.cell? ⟨w.heap.size,1,none⟩=some (.slice none 0 0)
 rf:∀o,wr.frozen? ⟨w.heap.size,o,none⟩=false
 sz:w.heap.size+2<=wr.heap.size
theorem lQ.below{w wr w':World}{t:gP}(h:lQ w wr t){B:Nat}(hb:Below B wr w')(hB:w.heap.size+2<=B):lQ w w' t:=
 ⟨(hb.cell (by simp only;omega)).trans h.c0,(hb.cell (by simp only;omega)).trans h.c1,fun o=>(hb.frozen (by simp only;omega)).trans (h.cf o),(hb.cell (by simp only;omega)).trans h.r0,(hb.cell (by simp only;omega)).trans h.r1,fun o=>(hb.frozen (by simp only;omega)).trans (h.rf o),Nat.le_trans h.sz hb.size⟩
theorem lQ.set0{w wr:World}{t:gP}(h:lQ w wr t)(x:Value):lQ w (wr.setCell ⟨w.heap.size+1,0,none⟩ x) { t with cv:=x }:=
 ⟨World.cell?_setCell_same _ _ _ h.c0,(World.cell?_setCell_other _ _ _ _ (by simp)).trans h.c1,fun o=>(World.frozen?_setCell _ _ _ _).trans (h.cf o),(World.cell?_setCell_other _ _ _ _ (by simp)).trans h.r0,(World.cell?_setCell_other _ _ _ _ (by simp)).trans h.r1,fun o=>(World.frozen?_setCell _ _ _ _).trans (h.rf o),by have:=h.sz;simpa using this⟩
theorem lQ.set1{w wr:World}{t:gP}(h:lQ w wr t)(x:Value):lQ w (wr.setCell ⟨w.heap.size+1,1,none⟩ x) { t with gv:=x }:=
 ⟨(World.cell?_setCell_other _ _ _ _ (by simp)).trans h.c0,World.cell?_setCell_same _ _ _ h.c1,fun o=>(World.frozen?_setCell _ _ _ _).trans (h.cf o),(World.cell?_setCell_other _ _ _ _ (by simp)).trans h.r0,(World.cell?_setCell_other _ _ _ _ (by simp)).trans h.r1,fun o=>(World.frozen?_setCell _ _ _ _).trans (h.rf o),by have:=h.sz;simpa using this⟩
theorem aO.pJ{P:Program}{ops:Array Oper}{S:World->Prop}{K:Act->Prop}{i:Nat}{o:Oper}{l:List Nat}{a:Act}{v:Value}(ho:ops.toList[i]?=some o)(hw:Region.wanted o (yielded ops a.tmps)=true)(hy:∀w,S w->(execOp a.eval o).run P w= .ok (.value v) w)(h:aO P ops S K l (a.put o.dst v)):aO P ops S K (i::l) a:=
 aO.cons (by simpa using ho) hw hy h
theorem dL.pJ{P:Program}{ops:Array Oper}{Q:Exit->Act->World->Prop}{S:World->Prop}{n k:Nat}{o:Oper}{l:List Nat}{a:Act}{w:World}(ho:ops.toList[k]?=some o)(h:∀K:Act->World->Prop,Shut (∀a w,(k<n->S w)->dL P ops Q S n l a w->K a w)->if Region.wanted o (yielded ops a.tmps)=true then Oper.wp P o a w K Q else K (a.put o.dst undef) w):dL P ops Q S n (k::l) a w:=
 dL.cons (by simpa using ho) h
theorem Tryz.infoCeS:(Tryz.prog.info? 110).map (fun i=>(i.zero,i.size,i.bytes))=some (some (.slice none 0 0),1,24):=by kernel_rfl
theorem Tryz.infoIntS:(Tryz.prog.info? 59).map (fun i=>(i.zero,i.size,i.bytes))=some (some (.slice none 0 0),1,24):=by kernel_rfl
theorem abX{w0 w:World}{d:eD}{v:bS}{G:Wy->Option Value}{ng:Nat}{st:LS}{R:List Ru}{Nu:List Bool}{Fi:List (List Bool)}{Ls:List aI}{ZT ZN:Nat->Nat->Int}(E:iT w0 d R Nu Fi)(h:aj w0 w d v G ng st)(hS:iQ R v.OL Ls)(few:v.OL.length<=150)(ol:ng<=10000000)(hc:st.c<=10000000)(hlk:∀s,st.lk s<512)
 (hZ:∀k,k<v.OL.length->∀n,n<=d.T->Says G (k,(true,(n:Int))) (ZT k n)) (Tm:∀k,k<v.OL.length->∀n,n<d.N->Says G (k,(false,(n:Int))) (ZN k n)):
 Calls Tryz.prog 61 #[.pointer (some ⟨d.ma,0,none⟩)] w fun e w'=> ∃cv gv,e= .returned (.agg #[cv,gv])/\(∀w'':World,(∀b,w.heap.size<=b->b<w'.heap.size->w''.heap[b]?=w'.heap[b]?)->TabAt w'' cv gv ((List.range v.OL.length).map fun k=>(List.range (d.T+1)).map fun n=>bN R st.lk k n (v.OL.getD k []) (ZT k n,[],false)) ((List.range v.OL.length).map fun k=>(List.range d.N).map (ZN k)))/\Below w.heap.size w w':=by
 obtain⟨M,vG⟩:∃M,d.T+1=M:=⟨_,rfl⟩;obtain⟨f,hf⟩:∃f:Nat->Nat->Ce,f=fun k n=>bN R st.lk k n (v.OL.getD k []) (ZT k n,[],false):=⟨_,rfl⟩;obtain⟨g,hg⟩:∃g:Nat->List Int,g=fun k=>(List.range d.N).map (ZN k):=⟨_,rfl⟩;have Tn:Hid (∀(w':World) (cv gv:Value),TabAt w' cv gv ((List.range v.OL.length).map fun k=>(List.range M).map (f k)) ((List.range v.OL.length).map g)->TabAt w' cv gv ((List.range v.OL.length).map fun k=>(List.range (d.T+1)).map fun n=>bN R st.lk k n (v.OL.getD k []) (ZT k n,[],false)) ((List.range v.OL.length).map fun k=>(List.range d.N).map (ZN k))):=fun w' cv gv ht=>by rw[vG,<-hg];rw[hf]at ht;exact ht
 have LC:Hid (∀(wx:World) (k:Nat),aj w0 wx d v G ng st->k<v.OL.length->Calls Tryz.prog 85 #[.pointer (some ⟨d.ma,0,none⟩),.int .i64 k] wx fun e w'=> ∃cg vr,e= .returned (.slice (some ⟨cg,0,none⟩) M M)/\ah w' wx.heap.size (bE cg vr (f k) M)/\Below wx.heap.size wx w'):=fun wx k hx hk=>by
  have:=abN E hx hS hk few ol hc hlk (hZ k hk);rw[vG]at this;rw[hf];exact this
 have LD:Hid (∀(wx:World) (k:Nat),aj w0 wx d v G ng st->k<v.OL.length->Calls Tryz.prog 86 #[.pointer (some ⟨d.ma,0,none⟩),.int .i64 k] wx fun e w'=> ∃gg,e= .returned (.slice (some ⟨gg,0,none⟩) d.N d.N)/\dR w' wx.heap.size gg d.N (g k)/\Below wx.heap.size wx w'):=fun wx k hx hk=>by
  have:=abE hx E.hN.2 E.hN.1 (by omega) ol (Tm k hk);rw[hg];exact this
 have HM:Hid (aj w0 w d v G ng st):=h;have hM2:=(h.alloc (.cells #[.slice none 0 0,.slice none 0 0] 67)).alloc (.cells #[.slice none 0 0,.slice none 0 0] 67);have c6:=(hM2.cell (i:=6) rfl (by omega)).1;obtain⟨sa,sc,hsv⟩:=h.states;rw[hsv]at c6;have HB0:Hid (Below w.heap.size w ((w.alloc (.cells #[.slice none 0 0,.slice none 0 0] 67)).alloc (.cells #[.slice none 0 0,.slice none 0 0] 67))):=((Below.refl _ _).alloc (Nat.le_refl _) _).alloc (by simp) _
 have HT0:Hid (lQ w ((w.alloc (.cells #[.slice none 0 0,.slice none 0 0] 67)).alloc (.cells #[.slice none 0 0,.slice none 0 0] 67)) ⟨.slice none 0 0,.slice none 0 0,fun _=>0,fun _ _=> .slice none 0 0,fun _=>0⟩):=by
  refine⟨?_,?_,fun o=> ?_,?_,?_,fun o=> ?_,?_⟩<;>simp[go_sem]
 obtain⟨K,hK⟩:∃K,v.OL.length=K:=⟨_,rfl⟩;rw[hK]at c6 Tn LC LD few;have hKo:=hK;clear E h hS hZ Tm hlk hM2 hsv vG hf hg hK
 go_enter Tryz.func61,Tryz.ntmps61
 go_wp2_with fail
 clear c6;generalize (w.alloc (.cells #[.slice none 0 0,.slice none 0 0] 67)).alloc (.cells #[.slice none 0 0,.slice none 0 0] 67)=W0 at HB0 HT0⊢
 go_loopw [10] (fun s10 wr=> ∃(k:Nat) (t:gP),s10= .int .i64 k/\k<=K/\ah wr (w.heap.size+2) (PZ M d.N f g t k k k k)/\lQ w wr t/\Below w.heap.size w wr) (fun s _=>K-(intOf s).toNat)
 case atStart=>exact⟨0,_,rfl,Nat.zero_le _,abV _ _ rfl rfl,HT0.out,HB0.out⟩
 case round=>
  clear HT0 HB0;obtain⟨k,t,rfl,hk,hO,hT,hB⟩:=hrel;have HO:Hid (ah wr (w.heap.size+2) (PZ M d.N f g t k k k k)):=hO;have HT:Hid (lQ w wr t):=hT;have HB:Hid (Below w.heap.size w wr):=hB;by_cases hlt:k<K
  ·have Bd:=LC.out wr.drew k (HM.out.below hB).drew hlt
   have c0:=hT.c0;obtain⟨ca,cc,hcv⟩:=hO.slice (i:= .cs) rfl;simp only at hcv;rw[hcv]at c0;have Be:Hid (t.cv= .slice ca k cc):=hcv;obtain⟨i5,hi0,hz0,hz1,hz2⟩:=info_parts Tryz.infoCeS;have hn1:k+1<=maxLen:=by unfold maxLen;omega
   have hn2:(k+1)*24<=140737488355328:=by omega
   clear hO hT hB hcv
   go_wp2_with fail
   refine Fu [0,1,2,3] [4,5,6,7,8] 8 (fun w'=>w'.cell? ⟨w.heap.size+1,0,none⟩=some (.slice ca k cc)) (by kernel_rfl) (by kernel_rfl) c0 ?_
   iterate 4
    refine aO.pJ (v:= ?_) rfl (by rfl) ?_ ?_;rotate_left
    ·intro w' hSw
     go_simp
     try with_reducible rfl
    simp only[Act.put,List.setIfInBounds_toArray,List.set_cons_zero,List.set_cons_succ]
   rw[aO];refine dL.pJ rfl (fun K hK=> ?_)
   go_simp
   refine Bd.mono ?_;rintro e w5 ⟨cg,vr,rfl,Ec,ak⟩;dsimp only;have lS:=HT.out.below ((Below.refl _ _).drew.trans ak) HT.out.sz;have xK:=abR HO.out.drew (show Below wr.drew.heap.size wr.drew w5 from ak) HT.out.sz Ec;have oq:Below w.heap.size w w5:=HB.out.trans ((show Below wr.heap.size wr w5 from (Below.refl _ _).drew.trans ak).mono (by have:=HT.out.sz;omega));have c5:=lS.c0;rw[Be.out]at c5;refine hK.out _ _ (fun _=>c5) ?_;clear hK Bd Ec ak HO HT HB c0;obtain⟨W6,Ed⟩:∃W,W=w5.alloc (.cells #[.slice (some ⟨cg,0,none⟩) M M] 110):=⟨_,rfl⟩;have vK:=xK.alloc (.cells #[.slice (some ⟨cg,0,none⟩) M M] 110);have hb6:Below w5.heap.size w5 (w5.alloc (.cells #[.slice (some ⟨cg,0,none⟩) M M] 110)):=(Below.refl _ _).alloc (Nat.le_refl _) _;have iw:=lS.below hb6 lS.sz;have c6:=iw.c0;have f6:=iw.cf 0;have hsz5:=lS.sz;rw[Be.out]at c6
   have dz:(w5.alloc (.cells #[.slice (some ⟨cg,0,none⟩) M M] 110)).ownsRow (w.heap.size+2) 110 1 (.slice ca k cc) k ((List.range k).map fun j=> .slice (some ⟨dG t.cg k cg j,0,none⟩) M M):=by
    have:=vK.own .cs _ rfl;simp only[gP.rH,Be.out]at this;exact this
   have hne:some (w.heap.size+1)≠(Value.slice ca k cc).ownBlock:=fun e1=>by have:=(dz.lt _ e1.symm).1;omega
   have iJ:=World.news_of_block (cs:= #[.slice (some ⟨cg,0,none⟩) M M]) (t:=110) (fr:=(0,0)) (heap_alloc_new w5 (.cells #[.slice (some ⟨cg,0,none⟩) M M] 110));have hs6:(w5.alloc (.cells #[.slice (some ⟨cg,0,none⟩) M M] 110)).heap.size=w5.heap.size+1:=by simp
   have aQ:Below w.heap.size w (w5.alloc (.cells #[.slice (some ⟨cg,0,none⟩) M M] 110)):=oq.alloc (by omega) _;refine dL.pJ rfl (fun K hK=> ?_)
   go_simp
   rw[<-Ed]at vK hb6 iw c6 f6 dz iJ hs6 aQ⊢;refine hK.out _ _ (fun _=>c6) ?_;clear hK xK lS oq c5;refine dL.pJ rfl (fun K hK=> ?_);refine step_append_lies _ rfl _ _ _ rfl (w.heap.size+2) 110 i5 _ 1 24 Tryz.underlying64 hi0 hz0 hz1 hz2 rfl (by omega) (.slice ca k cc) k ((List.range k).map fun j=> .slice (some ⟨dG t.cg k cg j,0,none⟩) M M) rfl dz ⟨w5.heap.size,0,none⟩ 1 1 [.slice (some ⟨cg,0,none⟩) M M] rfl rfl iJ (by simp[Value.oneCell']) (by omega) hn1 hn2 (by omega) (w5.heap.size+1) hs6 ?_;intro g7 kr w7 za fD zb GZ;have c7:=(fD.cell_far ⟨w.heap.size+1,0,none⟩ (by simp;omega) hne).trans c6;have f7:=(fD.frozen_far ⟨w.heap.size+1,0,none⟩ (by simp;omega) hne).trans f6
   have Ee:ah w7 (w.heap.size+2) (PZ M d.N f g { (t.rH k cg vr) with cv:= .slice (some ⟨g7,0,none⟩) (k+1) kr } (k+1) (k+1) k k):=by
    refine abT vK ?_ ?_ ?_
    ·simp only[gP.rH,Be.out];exact fD
    ·simp only[gP.rH]
     have e:(dG t.cg k cg k)=cg:=by simp[dG]
     rw[e];exact za
    ·intro g' hg'
     simp only[gP.rH,Be.out];simp only[Value.ownBlock,Option.some.injEq]at hg';subst hg';rcases zb with h|h
     ·exact .inl h
     ·exact .inr (by omega)
   have G5:Hid (ah (w7.setCell ⟨w.heap.size+1,0,none⟩ (.slice (some ⟨g7,0,none⟩) (k+1) kr)) (w.heap.size+2) (PZ M d.N f g { (t.rH k cg vr) with cv:= .slice (some ⟨g7,0,none⟩) (k+1) kr } (k+1) (k+1) k k)):=Ee.sJ (a:=⟨w.heap.size+1,0,none⟩) (by simp) _
   have tT:lQ w w7 t:=by
    have hne':∀q,q<=w.heap.size+1->some q≠(Value.slice ca k cc).ownBlock:=fun q hq e1=>by have:=(dz.lt _ e1.symm).1;omega
    refine⟨?_,?_,fun o=> ?_,?_,?_,fun o=> ?_,?_⟩
    ·exact(fD.cell_far _ (by simp;omega) (hne' _ (by simp))).trans iw.c0
    ·exact(fD.cell_far _ (by simp;omega) (hne' _ (by simp))).trans iw.c1
    ·exact(fD.frozen_far _ (by simp;omega) (hne' _ (by simp))).trans (iw.cf o)
    ·exact(fD.cell_far _ (by simp;omega) (hne' _ (by simp))).trans iw.r0
    ·exact(fD.cell_far _ (by simp;omega) (hne' _ (by simp))).trans iw.r1
    ·exact(fD.frozen_far _ (by simp;omega) (hne' _ (by simp))).trans (iw.rf o)
    ·exact Nat.le_trans iw.sz fD.size
   have rJ:Hid (lQ w (w7.setCell ⟨w.heap.size+1,0,none⟩ (.slice (some ⟨g7,0,none⟩) (k+1) kr)) { t with cv:= .slice (some ⟨g7,0,none⟩) (k+1) kr }):=tT.set0 _;have CP:Hid (Below w.heap.size w (w7.setCell ⟨w.heap.size+1,0,none⟩ (.slice (some ⟨g7,0,none⟩) (k+1) kr))):=(aQ.grown fD (by omega) (fun b hb=>by have:=(dz.lt _ hb).1;omega)).setCell (by simp) _;refine hK.out _ _ (fun _=>c7) ?_;clear hK za fD zb GZ tT Ee vK hb6 iw c6 f6 dz iJ hs6 aQ hne hi0 hz0 hz1 hz2 hn1 hn2 Ed;refine dL.pJ rfl (fun K hK=> ?_)
   go_simp
   refine hK.out _ _ (fun _=>c7) ?_;clear hK;refine dL.pJ rfl (fun K hK=> ?_)
   go_simp
   refine hK.out _ _ (fun h=>absurd h (by omega)) ?_;clear hK;rw[dL];refine NoPanic.normal ?_;generalize (w7.setCell ⟨w.heap.size+1,0,none⟩ (.slice (some ⟨g7,0,none⟩) (k+1) kr))=W8 at G5 rJ CP⊢;clear c7 f7;obtain⟨t8,LF⟩:∃t8:gP,t8={ (t.rH k cg vr) with cv:= .slice (some ⟨g7,0,none⟩) (k+1) kr }:=⟨_,rfl⟩;have HT:Hid (lQ w W8 t8):=by rw[LF];exact⟨rJ.out.c0,rJ.out.c1,rJ.out.cf,rJ.out.r0,rJ.out.r1,rJ.out.rf,rJ.out.sz⟩
   rw[<-LF]at G5;have HO:Hid (ah W8 (w.heap.size+2) (PZ M d.N f g t8 (k+1) (k+1) k k)):=G5.out;have HB:Hid (Below w.heap.size w W8):=CP.out;have Tp:=LD.out W8.drew k (HM.out.below HB.out).drew hlt;have c0:=HT.out.c1;obtain⟨ga,gc,hgv⟩:=HO.out.slice (i:= .gs) rfl;simp only at hgv;rw[hgv]at c0;have Ef:Hid (t8.gv= .slice ga k gc):=hgv;obtain⟨i5,hi0,hz0,hz1,hz2⟩:=info_parts Tryz.infoIntS;have hn1:k+1<=maxLen:=by unfold maxLen;omega
   have hn2:(k+1)*24<=140737488355328:=by omega
   clear hgv G5 rJ CP LF Be
   go_wp2_with fail
   refine Fu [0,1,2,3] [4,5,6,7,8] 8 (fun w'=>w'.cell? ⟨w.heap.size+1,1,none⟩=some (.slice ga k gc)) (by kernel_rfl) (by kernel_rfl) c0 ?_
   iterate 4
    refine aO.pJ (v:= ?_) rfl (by rfl) ?_ ?_;rotate_left
    ·intro w' hSw
     go_simp
     try with_reducible rfl
    simp only[Act.put,List.setIfInBounds_toArray,List.set_cons_zero,List.set_cons_succ]
   rw[aO];refine dL.pJ rfl (fun K hK=> ?_)
   go_simp
   refine Tp.mono ?_;rintro e w5 ⟨gg,rfl,Ec,ak⟩;dsimp only;have lS:=HT.out.below ((Below.refl _ _).drew.trans ak) HT.out.sz;have xK:=abS HO.out.drew (show Below W8.drew.heap.size W8.drew w5 from ak) HT.out.sz Ec;have oq:Below w.heap.size w w5:=HB.out.trans ((show Below W8.heap.size W8 w5 from (Below.refl _ _).drew.trans ak).mono (by have:=HT.out.sz;omega));have c5:=lS.c1;rw[Ef.out]at c5;refine hK.out _ _ (fun _=>c5) ?_;clear hK Ec ak HO HT HB c0;obtain⟨W6,Ed⟩:∃W,W=w5.alloc (.cells #[.slice (some ⟨gg,0,none⟩) d.N d.N] 59):=⟨_,rfl⟩;have vK:=xK.alloc (.cells #[.slice (some ⟨gg,0,none⟩) d.N d.N] 59);have hb6:Below w5.heap.size w5 (w5.alloc (.cells #[.slice (some ⟨gg,0,none⟩) d.N d.N] 59)):=(Below.refl _ _).alloc (Nat.le_refl _) _;have iw:=lS.below hb6 lS.sz;have c6:=iw.c1;have f6:=iw.cf 1;have hsz5:=lS.sz;rw[Ef.out]at c6
   have dz:(w5.alloc (.cells #[.slice (some ⟨gg,0,none⟩) d.N d.N] 59)).ownsRow (w.heap.size+2) 59 1 (.slice ga k gc) k ((List.range k).map fun j=> .slice (some ⟨dG t8.gg k gg j,0,none⟩) d.N d.N):=by
    have:=vK.own .gs _ rfl;simp only[gP.tQ,Ef.out]at this;exact this
   have hne:some (w.heap.size+1)≠(Value.slice ga k gc).ownBlock:=fun e1=>by have:=(dz.lt _ e1.symm).1;omega
   have iJ:=World.news_of_block (cs:= #[.slice (some ⟨gg,0,none⟩) d.N d.N]) (t:=59) (fr:=(0,0)) (heap_alloc_new w5 (.cells #[.slice (some ⟨gg,0,none⟩) d.N d.N] 59));have hs6:(w5.alloc (.cells #[.slice (some ⟨gg,0,none⟩) d.N d.N] 59)).heap.size=w5.heap.size+1:=by simp
   have aQ:Below w.heap.size w (w5.alloc (.cells #[.slice (some ⟨gg,0,none⟩) d.N d.N] 59)):=oq.alloc (by omega) _;refine dL.pJ rfl (fun K hK=> ?_)
   go_simp
   rw[<-Ed]at vK hb6 iw c6 f6 dz iJ hs6 aQ⊢;refine hK.out _ _ (fun _=>c6) ?_;clear hK xK lS oq c5;refine dL.pJ rfl (fun K hK=> ?_);refine step_append_lies _ rfl _ _ _ rfl (w.heap.size+2) 59 i5 _ 1 24 Tryz.underlying65 hi0 hz0 hz1 hz2 rfl (by omega) (.slice ga k gc) k ((List.range k).map fun j=> .slice (some ⟨dG t8.gg k gg j,0,none⟩) d.N d.N) rfl dz ⟨w5.heap.size,0,none⟩ 1 1 [.slice (some ⟨gg,0,none⟩) d.N d.N] rfl rfl iJ (by simp[Value.oneCell']) (by omega) hn1 hn2 (by omega) (w5.heap.size+1) hs6 ?_;intro g7 kr w7 za fD zb GZ;have c7:=(fD.cell_far ⟨w.heap.size+1,1,none⟩ (by simp;omega) hne).trans c6;have f7:=(fD.frozen_far ⟨w.heap.size+1,1,none⟩ (by simp;omega) hne).trans f6
   have Ee:ah w7 (w.heap.size+2) (PZ M d.N f g { (t8.tQ k gg) with gv:= .slice (some ⟨g7,0,none⟩) (k+1) kr } (k+1) (k+1) (k+1) (k+1)):=by
    refine abU vK ?_ ?_ ?_
    ·simp only[gP.tQ,Ef.out];exact fD
    ·simp only[gP.tQ]
     have e:(dG t8.gg k gg k)=gg:=by simp[dG]
     rw[e];exact za
    ·intro g' hg'
     simp only[gP.tQ,Ef.out];simp only[Value.ownBlock,Option.some.injEq]at hg';subst hg';rcases zb with h|h
     ·exact .inl h
     ·exact .inr (by omega)
   have Tq:Hid (ah (w7.setCell ⟨w.heap.size+1,1,none⟩ (.slice (some ⟨g7,0,none⟩) (k+1) kr)) (w.heap.size+2) (PZ M d.N f g { (t8.tQ k gg) with gv:= .slice (some ⟨g7,0,none⟩) (k+1) kr } (k+1) (k+1) (k+1) (k+1))):=Ee.sJ (a:=⟨w.heap.size+1,1,none⟩) (by simp) _
   have tT:lQ w w7 t8:=by
    have hne':∀q,q<=w.heap.size+1->some q≠(Value.slice ga k gc).ownBlock:=fun q hq e1=>by have:=(dz.lt _ e1.symm).1;omega
    refine⟨?_,?_,fun o=> ?_,?_,?_,fun o=> ?_,?_⟩
    ·exact(fD.cell_far _ (by simp;omega) (hne' _ (by simp))).trans iw.c0
    ·exact(fD.cell_far _ (by simp;omega) (hne' _ (by simp))).trans iw.c1
    ·exact(fD.frozen_far _ (by simp;omega) (hne' _ (by simp))).trans (iw.cf o)
    ·exact(fD.cell_far _ (by simp;omega) (hne' _ (by simp))).trans iw.r0
    ·exact(fD.cell_far _ (by simp;omega) (hne' _ (by simp))).trans iw.r1
    ·exact(fD.frozen_far _ (by simp;omega) (hne' _ (by simp))).trans (iw.rf o)
    ·exact Nat.le_trans iw.sz fD.size
   have xL:Hid (lQ w (w7.setCell ⟨w.heap.size+1,1,none⟩ (.slice (some ⟨g7,0,none⟩) (k+1) kr)) { t8 with gv:= .slice (some ⟨g7,0,none⟩) (k+1) kr }):=tT.set1 _;have G6:Hid (Below w.heap.size w (w7.setCell ⟨w.heap.size+1,1,none⟩ (.slice (some ⟨g7,0,none⟩) (k+1) kr))):=(aQ.grown fD (by omega) (fun b hb=>by have:=(dz.lt _ hb).1;omega)).setCell (by simp) _;refine hK.out _ _ (fun _=>c7) ?_;clear hK za fD zb GZ tT Ee vK hb6 iw c6 f6 dz iJ hs6 aQ hne hi0 hz0 hz1 hz2 hn1 hn2 Ed;refine dL.pJ rfl (fun K hK=> ?_)
   go_simp
   refine hK.out _ _ (fun _=>c7) ?_;clear hK;refine dL.pJ rfl (fun K hK=> ?_)
   go_simp
   refine hK.out _ _ (fun h=>absurd h (by omega)) ?_;clear hK;rw[dL];refine NoPanic.normal ?_;generalize (w7.setCell ⟨w.heap.size+1,1,none⟩ (.slice (some ⟨g7,0,none⟩) (k+1) kr))=W9 at Tq xL G6⊢;clear c7 f7;clear Tp
   go_wp2_with fail
   go_roundw
   case rel=>exact⟨k+1,_,by go_num,by omega,Tq.out,⟨xL.out.c0,xL.out.c1,xL.out.cf,xL.out.r0,xL.out.r1,xL.out.rf,xL.out.sz⟩,G6.out⟩
   case measure=>simp[intOf];omega
  ·obtain rfl:K=k:=by omega
   obtain⟨ca,cc,hcv⟩:=hO.slice (i:= .cs) rfl;obtain⟨ga,gc,hgv⟩:=hO.slice (i:= .gs) rfl;simp only at hcv hgv;have c0:=hT.c0;have c1:=hT.c1;rw[hcv]at c0;rw[hgv]at c1;have x0:=hT.r0;have x1:=hT.r1;have xf0:=hT.rf 0;have xf1:=hT.rf 1;have afP:decide ((K:Int)<(K:Int))=false:=by simp
   have HV:Hid (t.cv= .slice ca K cc/\t.gv= .slice ga K gc):=⟨hcv,hgv⟩;clear hO hT hB hcv hgv LC LD HM
   go_wp2_with fail
   have hP:=(HO.out.sJ (a:=⟨w.heap.size,0,none⟩) (by simp) (.slice ca K cc)).sJ (a:=⟨w.heap.size,1,none⟩) (by simp) (.slice ga K gc);refine bodyPost_ret (v:= .agg #[.slice ca K cc,.slice ga K gc]) (by simp[results,Tryz.results61,go_sem,x0,x1]) rfl ⟨.slice ca K cc,.slice ga K gc,rfl,?_,(HB.out.setCell (by simp) _).setCell (by simp) _⟩;rw[hKo];intro w'' hw'';have hT':=abW (hP.heap (w':=w'') fun i r q hr hq=>hw'' q (by have:=(hP.lt hr hq).1;omega) (hP.lt hr hq).2);rw[HV.out.1,HV.out.2]at hT';exact Tn.out _ _ _ hT'
end Go.Proofs.YtblkkhfdeaaidaaGreatDoor
namespace Go.Proofs.YtblkkhfdeaaidaaGreatDoor
open Classical
section
variable{T N:Nat}{R:List Ru}{OL:List (List It)}{NL:List (List Int)}{Ls:List aI}{st:LS}
theorem abY{k n:Nat}:∀(L:List It) (z:Int) (a:List Int) (b:Bool),bN R st.lk k n L (z,a,b)=
 (z,a++((L.filter fun it=>lN R st.lk k n it&&decide (it.1≠R.length)).map fun it=>(it.1:Int)),b||L.any fun it=>lN R st.lk k n it&&decide (it.1=R.length)):=by
 intro L
 induction L with
 |nil=>intro z a b;simp[bN]
 |cons it L ih=>
  intro z a b;show bN R st.lk k n L (if lN R st.lk k n it then jM R it.1 (z,a,b) else (z,a,b))=_;by_cases hd:lN R st.lk k n it=true
  ·rw[if_pos hd]
   unfold jM;by_cases he:it.1=R.length
   ·rw[if_pos he]
    simp only;rw[ih];simp[hd,he]
   ·rw[if_neg he]
    simp only;rw[ih];simp[hd,he]
  ·have hd':lN R st.lk k n it=false:=by simpa using hd
   rw[if_neg hd,ih];simp[hd']
theorem abZ(A:jq T N R OL NL Ls)(hF:∀n,((jW R (fI R N) T N).getD n []).length<=T)(H:DT T N R OL NL Ls (fI R N) (jW R (fI R N) T N) st){k n:Nat}(hk:k<OL.length){z:Int}(hz:z=if n<T then (NL.getD k []).getD n 0 else -1):
 bN R st.lk k n (OL.getD k []) (z,[],false)=cellP T N R NL Ls k n:=by
 have hin:∀r,xk T N R NL Ls k n r↔(r,(aH R r).length)∈OL.getD k []/\lN R st.lk k n (r,(aH R r).length)=true:=fun r=>by
  unfold xk lN;rw[(A.nU.jo k hk).mem,<-aau A hF H.inv H.none H.zero,show (decide ((r,(aH R r).length).2=(aH R (r,(aH R r).length).1).length))=true from decide_eq_true rfl,Bool.true_and]
 have hdone:∀it,lN R st.lk k n it=true->it=(it.1,(aH R it.1).length):=fun it h=>by
  unfold lN at h;simp only[Bool.and_eq_true,decide_eq_true_eq]at h;rw[<-h.1]
 rw[abY,hz];unfold cellP;refine Prod.ext rfl (Prod.ext ?_ ?_)
 ·simp only[List.nil_append]
  rw[show ∀L:List It,(L.map fun it=>(it.1:Int))=(L.map fun it=>it.1).map fun n:Nat=>(n:Int) from fun L=>by rw[List.map_map];rfl];refine congrArg (List.map fun n:Nat=>(n:Int)) ?_;refine Rh (lt:=(· < ·)) (fun _ _ _=>Nat.lt_trans) Nat.lt_irrefl ?_ ?_ fun x=> ?_
  ·rw[List.pairwise_map]
   refine List.Pairwise.imp_of_mem ?_ ((A.nU.Du k hk).filter _);intro a b ha hb hab;simp only[List.mem_filter,Bool.and_eq_true]at ha hb;have h1:=hdone a ha.2.1;have h2:=hdone b hb.2.1;rcases hab with h|⟨h,h'⟩
   ·exact h
   ·rw[h1,h2]at h'
    simp only[h]at h';exact absurd h' (Nat.lt_irrefl _)
  ·exact(List.pairwise_lt_range).filter _
  ·simp only[List.mem_map,List.mem_filter,Bool.and_eq_true,decide_eq_true_eq,List.mem_range]
   constructor
   ·rintro ⟨it,⟨h1,h2,h3⟩,rfl⟩
    have:=(A.nU.ok k hk it h1).1;have e:=hdone it h2;refine⟨by omega,(hin _).2 ?_⟩;rw[<-e];exact⟨h1,h2⟩
   ·rintro ⟨h1,h2⟩
    have h3:=(hin x).1 h2;exact⟨_,⟨h3.1,h3.2,by simp only;omega⟩,rfl⟩
 ·simp only[Bool.false_or]
  rw[Bool.eq_iff_iff];simp only[List.any_eq_true,Bool.and_eq_true,decide_eq_true_eq];constructor
  ·rintro ⟨it,h1,h2,h3⟩
   have e:=hdone it h2;rw[<-h3];refine(hin _).2 ?_;rw[<-e];exact⟨h1,h2⟩
  ·intro h
   have h3:=(hin R.length).1 h;exact⟨_,h3.1,h3.2,rfl⟩
theorem Tt(A:jq T N R OL NL Ls){k x:Nat}(hk:k<OL.length)(hx:x<T+N):Says (aS T NL) (k,bR T x) ((NL.getD k []).getD x 0):=by
 obtain⟨hl,hg⟩:=A.go k hk x hx;unfold Says;rw[Ay (by rw[hl];exact hx)];by_cases hex:∃i,Ls.getD k bC i/\iO T R i x
 ·obtain⟨n,e,_,_⟩:=hg.some hex
  rw[e,if_pos (Int.natCast_nonneg _)];exact .inl rfl
 ·have e:=hg.none hex
  rw[e,if_neg (by omega)];exact .inr ⟨rfl,rfl⟩
theorem ab1(A:jq T N R OL NL Ls){k n:Nat}(hk:k<OL.length)(hn:n<=T):Says (aS T NL) (k,(true,(n:Int))) (if n<T then (NL.getD k []).getD n 0 else -1):=by
 by_cases h:n<T
 ·rw[if_pos h]
  have:=Tt A hk (x:=n) (by omega);unfold bR at this;rw[if_pos h]at this;exact this
 ·rw[if_neg h]
  refine .inr ⟨KN fun x e=> ?_,rfl⟩;unfold bR at e;split at e
  ·simp only[Prod.mk.injEq,true_and]at e
   omega
  ·simp at e
theorem ab2(A:jq T N R OL NL Ls){k n:Nat}(hk:k<OL.length)(hn:n<N):Says (aS T NL) (k,(false,(n:Int))) ((NL.getD k []).getD (T+n) 0):=by
 have:=Tt A hk (x:=T+n) (by omega);unfold bR at this;rw[if_neg (by omega)]at this;rw[show T+n-T=n by omega]at this;exact this
theorem ab3{K:Nat}(hN:0<N)(A:jq T N R OL (af T N R K).1 (af T N R K).2)(hK:OL.length=K)(hF:∀n,((jW R (fI R N) T N).getD n []).length<=T)(H:DT T N R OL (af T N R K).1 (af T N R K).2 (fI R N) (jW R (fI R N) T N) st):
 ((List.range OL.length).map fun k=>(List.range (T+1)).map fun n=>bN R st.lk k n (OL.getD k []) ((if n<T then ((af T N R K).1.getD k []).getD n 0 else -1),[],false))=bZ T N R K/\
 ((List.range OL.length).map fun k=>(List.range N).map fun n=>((af T N R K).1.getD k []).getD (T+n) 0)=iP T N R K:=by
 constructor
 ·unfold bZ rowP
  rw[hK];refine List.map_congr_left fun k hk=>List.map_congr_left fun n _=> ?_;exact abZ A hF H (by rw[hK];exact List.mem_range.1 hk) rfl
 ·unfold iP
  rw[hK];refine List.map_congr_left fun k hk=> ?_;have hk':=List.mem_range.1 hk;obtain⟨hl,_⟩:=A.go k (by omega) T (by omega);obtain⟨row,hrow⟩:∃row,(af T N R K).1.getD k []=row:=⟨_,rfl⟩;rw[hrow]at hl⊢;refine List.ext_getElem (by simp[hl]) fun i h1 h2=> ?_;have hi:i<N:=by simpa using h1
  have hi2:T+i<row.length:=by omega
  simp[List.getD,hi2]
theorem ab4{K:Nat}(hs:iQ R OL (af T N R K).2)(hK:OL.length=K)(h0:gL OL (0,(R.length,0)))(hsy:∀r,r<=R.length->∀s∈aH R r,(s.1=true->0<=s.2/\s.2<(T:Int))/\(s.1=false->0<=s.2/\s.2<(N:Int))):jq T N R OL (af T N R K).1 (af T N R K).2/\Whole T N R K:=by
 have hW:Whole T N R K:=by
  unfold Whole;rw[<-hs.len];exact hK
 refine⟨⟨hs,fun k hk x hx=> ?_,fun k hk=> ?_,hsy,h0⟩,hW⟩
 ·exact KG (Dj hW) k (by omega) x hx
 ·have hl:k<(af T N R K).2.length:=by rw[<-hs.len];exact hk
  refine Q0 (T:=T) (N:=N) K _ ?_;simp[List.getD,hl]
end
end Go.Proofs.YtblkkhfdeaaidaaGreatDoor
namespace Go.Proofs.YtblkkhfdeaaidaaGreatDoor
open Go.RowKit
section
variable{ι:Type}[DecidableEq ι]
def gN(gr:ι)(X:ι->List Bool)(i:ι)(m:Nat):ι->List Bool:=if bit X i m then X else aU (aU X i m true) gr 0 true
def xM(gr i j:ι)(n:Nat)(X:ι->List Bool):ι->List Bool:=aK n (fun m Y=>if bit Y j m then gN gr Y i m else Y) X
omit [DecidableEq ι] in
structure Mark(c:dw ι)(gr:ι)(gb:Nat):Prop where
 v:c.V gr= .slice (some ⟨gb,0,none⟩) 1 1
 d:c.dom gr=some 1
variable{c:dw ι}{gr:ι}{gb:Nat}
theorem G7{w:World}{B n m:Nat}{i:ι}{X:ι->List Bool}(h:Bt w B c X)(hM:Mark c gr gb)(hd:c.dom i=some n)(hm:m<n)(hi:i≠gr):
 Calls Tryz.prog 73 #[c.V i,.int .i64 m,.pointer (some ⟨gb,0,none⟩)] w fun e w'=>e= .returned (.tuple #[])/\Bt w' B c (gN gr X i m)/\Kept c.K w w':=by
 obtain⟨g,cap,hv,_,_⟩:=Bt.form h hd (by omega);obtain⟨c1,f1⟩:=Bt.cell h hd hv hm;obtain⟨c2,f2⟩:=Bt.cell (i:=gr) h hM.d hM.v (m:=0) (by omega);have hne:=Bt.apart (i:=i) (j:=gr) h hi hd hM.d hv hM.v;have j0:(0:Int)<=(m:Int):=Int.natCast_nonneg _;have j1:(m:Int)<(n:Int):=by omega
 have HB:Hid (Bt w B c X):=h;have HM:Hid (Mark c gr gb):=hM;have HV:Hid (c.V i= .slice (some ⟨g,0,none⟩) n cap):=hv;rw[hv];clear h hv hM;cases hb:bit X i m with
 |true=>
  rw[hb]at c1;have HP:Hid (gN gr X i m=X):=by show gN gr X i m=X;simp[gN,hb]
  clear hb
  go_enter Tryz.func73,Tryz.ntmps73
  go_wp2_with fail
  go_end0
  exact⟨rfl,by rw[HP.out];exact HB.out,Kept.refl _ _⟩
 |false=>
  rw[hb]at c1;have HP:Hid (gN gr X i m=aU (aU X i m true) gr 0 true):=by show gN gr X i m=_;simp[gN,hb]
  have s1:=Bt.set HB.out hd HV.out m true;obtain⟨c3,f3⟩:=Bt.cell (i:=gr) s1 HM.out.d HM.out.v (m:=0) (by omega);have s2:Hid _:=Bt.set (i:=gr) s1 HM.out.d HM.out.v 0 true;clear hb s1
  go_enter Tryz.func73,Tryz.ntmps73
  go_wp2_with fail
  go_end0
  exact⟨rfl,by rw[HP.out];exact s2.out,((Kept.refl _ _).setCell (dw.Jw (c:=c) hd HV.out) _).setCell (dw.Jw (c:=c) (i:=gr) HM.out.d HM.out.v) _⟩
def Does(c:dw ι)(gb B:Nat)(w0:World)(dn:Nat)(caps:Array Value)(R:List Ru)(f:Ru->(ι->List Bool)->ι->List Bool):Prop:=
 ∀k,k<R.length->∀(w1:World) (Y:ι->List Bool) (qa:Option Addr) (qc:Nat),Kept c.K w0 w1->Bt w1 B c Y->fq w1 B qa (R.getD k (0,[])).2->(R.getD k (0,[])).2.length<=qc->
  Calls Tryz.prog dn (#[.agg #[.int .i64 (R.getD k (0,[])).1,.slice qa (R.getD k (0,[])).2.length qc],.func (.func 73) #[] #[.pointer (some ⟨gb,0,none⟩)]]++caps) w1 fun e w'=>
   e= .returned (.tuple #[])/\Bt w' B c (f (R.getD k (0,[])) Y)/\Kept c.K w1 w'
def lT(R:List Ru)(f:Ru->(ι->List Bool)->ι->List Bool)(n:Nat)(X:ι->List Bool):ι->List Bool:=aK n (fun q=>f (R.getD q (0,[]))) X
theorem LG{w:World}{B dn:Nat}{caps:Array Value}{rv:Value}{X:ι->List Bool}{R:List Ru}{f:Ru->(ι->List Bool)->ι->List Bool}{Head:(ι->List Bool)->Prop}{kR:(ι->List Bool)->Nat}
 (h:Bt (w.alloc (.cells #[.bool true] 4)) B c X) (hB:B<=w.heap.size) (hM:Mark c gr w.heap.size) (hr:au (w.alloc (.cells #[.bool true] 4)) B rv R) (zT:R.length<=1000) (hD:Does c w.heap.size B (w.alloc (.cells #[.bool true] 4)) dn caps R f)
 (Tv:∀args w,(callFunc dn args).run Tryz.prog w= .ok (.enter dn args) w) (hA:Head X) (hN:∀Y,Head Y->bit Y gr 0=true->Head (lT R f R.length (aU Y gr 0 false))/\kR (lT R f R.length (aU Y gr 0 false))<kR Y):
 Calls Tryz.prog 51 #[rv,.func (.func dn) #[] caps] w fun e w'=>
  e= .returned (.tuple #[])/\∃Y,Head Y/\bit Y gr 0=false/\Bt w' B c Y/\Kept c.K (w.alloc (.cells #[.bool true] 4)) w':=by
 obtain⟨ra,rc,aG⟩:=hr.1;subst aG;have HB:Hid (Bt (w.alloc (.cells #[.bool true] 4)) B c X):=h;have HM:Hid (Mark c gr w.heap.size):=hM;have HR:Hid (au (w.alloc (.cells #[.bool true] 4)) B (.slice ra R.length rc) R):=hr;have HD:Hid (Does c w.heap.size B (w.alloc (.cells #[.bool true] 4)) dn caps R f):=hD;have HA:Hid (Head X):=hA;have HN:Hid (∀Y,Head Y->bit Y gr 0=true->Head (lT R f R.length (aU Y gr 0 false))/\kR (lT R f R.length (aU Y gr 0 false))<kR Y):=hN;have HEn:Hid (∀args w,(callFunc dn args).run Tryz.prog w= .ok (.enter dn args) w):=Tv;clear h hM hr hD hA hN Tv
 go_enter Tryz.func51,Tryz.ntmps51
 go_wp2_with fail
 go_loopg [] (kR X) (fun n wr=> ∃Y,n=kR Y/\Head Y/\Bt wr B c Y/\Kept c.K (w.alloc (.cells #[.bool true] 4)) wr)
 case atStart=>exact⟨X,rfl,HA.out,HB.out,Kept.refl _ _⟩
 case round=>
  obtain⟨Y,hn,Eg,hBr,hKr⟩:=hrel;have HN':Hid (gk=kR Y):=hn;have Tw:Hid (Head Y):=Eg;have gu:Hid (Bt wr B c Y):=hBr;have lM:Hid (Kept c.K (w.alloc (.cells #[.bool true] 4)) wr):=hKr;have hsz:w.heap.size+1<=wr.heap.size:=by have:=hKr.size;simpa using this
  obtain⟨c1,f1⟩:=Bt.cell (i:=gr) (n:=1) hBr HM.out.d HM.out.v (m:=0) (by omega);clear hn Eg hBr hKr;cases hg:bit Y gr 0 with
  |true=>
   rw[hg]at c1;have hnx:=HN.out Y Tw.out hg;have Tx:Hid (Head (lT R f R.length (aU Y gr 0 false))/\kR (lT R f R.length (aU Y gr 0 false))<kR Y):=hnx;have hB1:=Bt.set (i:=gr) (n:=1) gu.out HM.out.d HM.out.v 0 false;have hK1:Kept c.K wr (wr.setCell ⟨w.heap.size,0,none⟩ (.bool false)):=(Kept.refl _ _).setCell (dw.Jw (c:=c) (i:=gr) HM.out.d HM.out.v) _;have dP:Hid (Kept c.K (w.alloc (.cells #[.bool true] 4)) (wr.setCell ⟨w.heap.size,0,none⟩ (.bool false))):=lM.out.trans hK1;have HB1:Hid (Bt (wr.setCell ⟨w.heap.size,0,none⟩ (.bool false)) B c (aU Y gr 0 false)):=hB1;clear hg hnx hB1 hK1;obtain⟨w3,hw3⟩:∃w3,w3=wr:=⟨_,rfl⟩;subst hw3
   go_wp2_with fail
   clear c1 f1
   go_loopw [12] (fun s wq=> ∃k:Nat,s= .int .i64 k/\k<=R.length/\Bt wq B c (lT R f k (aU Y gr 0 false))/\Kept c.K (w.alloc (.cells #[.bool true] 4)) wq) (fun s _=>R.length-(intOf s).toNat)
   case atStart=>exact⟨0,rfl,Nat.zero_le _,HB1.out,dP.out⟩
   case round=>
    clear HB1 dP;obtain⟨k,rfl,hk,mr,G8⟩:=hrel;obtain⟨Z,hZ⟩:∃Z,lT R f k (aU Y gr 0 false)=Z:=⟨_,rfl⟩;rw[hZ]at mr;have HZ:Hid (lT R f k (aU Y gr 0 false)=Z):=hZ;have vL:Hid (Bt wr B c Z):=mr;have LH:Hid (Kept c.K (w.alloc (.cells #[.bool true] 4)) wr):=G8;have hsz:w.heap.size+1<=wr.heap.size:=by have:=G8.size;simpa using this
    have Bf:=HR.out.below (G8.below (fun b hb=>Bt.ge HB.out hb) (by simp;omega));clear hZ mr G8;by_cases hlt:k<R.length
    ·obtain⟨b,o,rc',qa,qc,hv,hb,k1,k2,hqc,k3⟩:=Bf.2 k hlt
     cases hv;have hstep:lT R f (k+1) (aU Y gr 0 false)=f (R.getD k (0,[])) Z:=by rw[<-HZ.out];rfl
     have hK1:Kept c.K wr (wr.alloc (.cells #[.int .i64 (R.getD k (0,[])).1,.slice qa (R.getD k (0,[])).2.length qc] 91)):=(Kept.refl _ _).alloc _
     have call:=HD.out k hlt (wr.alloc (.cells #[.int .i64 (R.getD k (0,[])).1,.slice qa (R.getD k (0,[])).2.length qc] 91)) Z qa qc (LH.out.trans hK1) (Bt.alloc vL.out _)
      (fq.below (w:=wr) k3 (hK1.below (fun b hb=>Bt.ge HB.out hb) (by omega))) hqc
     have gq:Hid (Kept c.K (w.alloc (.cells #[.bool true] 4)) (wr.alloc (.cells #[.int .i64 (R.getD k (0,[])).1,.slice qa (R.getD k (0,[])).2.length qc] 91))):=LH.out.trans hK1;have HS:Hid (lT R f (k+1) (aU Y gr 0 false)=f (R.getD k (0,[])) Z):=hstep;obtain⟨⟨L,Rt⟩,hre⟩:∃x,R.getD k (0,[])=x:=⟨_,rfl⟩;rw[hre]at k1 k2 call gq HS;simp only at k1 k2 call gq;have k2':wr.cell? ⟨b,o+k*2+1,none⟩=some (.slice qa Rt.length qc):=by rw[Nat.add_assoc];exact k2
     have j0:(0:Int)<=(k:Int):=Int.natCast_nonneg _;have j1:(k:Int)<(R.length:Int):=by omega
     clear hstep hre k2 k3 hK1 Bf hqc
     go_wp2_with fail
     simp only[HEn.out];refine Calls.mono call ?_;rintro e w4 ⟨rfl,hB4,hK4⟩
     go_wp2_with fail
     go_roundw
     case rel=>exact⟨k+1,by go_num,by omega,by rw[HS.out];exact hB4,gq.out.trans hK4⟩
     case measure=>simp[intOf];omega
    ·obtain rfl:k=R.length:=by omega
     clear Bf
     go_wp2_with fail
     go_roundg (kR (lT R f R.length (aU Y gr 0 false)))
     case measure=>have:=Tx.out.2;rw[HN'.out];exact this
     case rel=>exact⟨_,rfl,Tx.out.1,by rw[HZ.out];exact vL.out,LH.out⟩
  |false=>
   rw[hg]at c1;have HG:Hid (bit Y gr 0=false):=hg;clear hg
   go_wp2_with fail
   go_end0
   exact⟨rfl,Y,Tw.out,HG.out,gu.out,lM.out⟩
end
section
variable{ι:Type}[DecidableEq ι]{c:dw ι}{gr:ι}{gb:Nat}
theorem ab5{w:World}{B n nj:Nat}{i j:ι}{X:ι->List Bool}(h:Bt w B c X)(hM:Mark c gr gb)(hd:c.dom i=some n)(hdj:c.dom j=some nj)(hle:nj<=n)(hi:i≠gr)(hs:nj<=1000):
 Calls Tryz.prog 75 #[c.V i,c.V j,.func (.func 73) #[] #[.pointer (some ⟨gb,0,none⟩)]] w fun e w'=>e= .returned (.tuple #[])/\Bt w' B c (xM gr i j nj X)/\Kept c.K w w':=by
 obtain⟨ja,jc,LJ⟩:=Bt.slice h hdj;obtain⟨ia,ic,tV⟩:=Bt.slice h hd;have HB:Hid (Bt w B c X):=h;have HM:Hid (Mark c gr gb):=hM;have HV:Hid (c.V i= .slice ia n ic):=tV;have HJ:Hid (c.V j= .slice ja nj jc):=LJ;rw[tV,LJ];clear h tV LJ hM
 go_enter Tryz.func75,Tryz.ntmps75
 go_wp2_with fail
 go_loopw [10] (fun s wr=> ∃k:Nat,s= .int .i64 k/\k<=nj/\Bt wr B c (xM gr i j k X)/\Kept c.K w wr) (fun s _=>nj-(intOf s).toNat)
 case atStart=>exact⟨0,rfl,Nat.zero_le _,HB.out,Kept.refl _ _⟩
 case round=>
  obtain⟨k,rfl,hk,hB,hK⟩:=hrel;have tX:Hid (Bt wr B c (xM gr i j k X)):=hB;have HK:Hid (Kept c.K w wr):=hK;clear hB hK;by_cases hlt:k<nj
  ·obtain⟨g,cap,hv,_,_⟩:=Bt.form tX.out hdj (by omega)
   have hv':=HJ.out;rw[hv]at hv';cases hv';obtain⟨c1,_⟩:=Bt.cell tX.out hdj hv hlt;have j0:(0:Int)<=(k:Int):=Int.natCast_nonneg _;have j1:(k:Int)<(nj:Int):=by omega
   have put:=G7 tX.out HM.out hd (m:=k) (by omega) hi;rw[HV.out]at put;have HE:Hid (xM gr i j (k+1) X=if bit (xM gr i j k X) j k then gN gr (xM gr i j k X) i k else xM gr i j k X):=rfl;clear hv;cases hb:bit (xM gr i j k X) j k with
   |true=>
    rw[hb]at c1 HE;clear hb
    go_wp2_with (go_at_call 73;refine put.mono ?_;rintro e w2 ⟨rfl,hB2,hK2⟩)
    go_roundw
    case rel=>exact⟨k+1,by go_num,by omega,by rw[HE.out];exact hB2,HK.out.trans hK2⟩
    case measure=>simp[intOf];omega
   |false=>
    rw[hb]at c1 HE;clear hb put
    go_wp2_with fail
    go_roundw
    case rel=>exact⟨k+1,by go_num,by omega,by rw[HE.out];exact tX.out,HK.out⟩
    case measure=>simp[intOf];omega
  ·obtain rfl:k=nj:=by omega
   go_wp2_with fail
   go_end0
   exact⟨rfl,tX.out,HK.out⟩
end
end Go.Proofs.YtblkkhfdeaaidaaGreatDoor
