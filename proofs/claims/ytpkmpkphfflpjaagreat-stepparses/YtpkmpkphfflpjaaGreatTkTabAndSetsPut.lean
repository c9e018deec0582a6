import Derived.Test.YtpkmpkphfflpjaaGreatTkCellAndTkCells
import Derived.Test.YtpkmpkphfflpjaaGreatMathAndHeldSeq
import Derived.Test.YtpkmpkphfflpjaaGreatTkFlAndTkSort
import Derived.Test.YtpkmpkphfflpjaaGreatStOfSAndGrowPut
set_option maxHeartbeats 6400000
set_option maxRecDepth 100000
namespace Go.Proofs.YtpkmpkphfflpjaaGreat
open Go.RowKit
def oK{ι κ:Type}(kf:ι->Option κ)(P:ι->Option Row)(Q:κ->Option Row)(i:ι):Option Row:=match kf i with|some j=>Q j|none=>P i
theorem au.join{ι κ:Type}{w w':World}{B:Nat}{P:ι->Option Row}{Q:κ->Option Row}(h:au w B P)(hb:Below w.heap.size w w')(hQ:au w' w.heap.size Q)(hB:B<=w.heap.size)(kf:ι->Option κ)(inj:∀i i' j,kf i=some j->kf i'=some j->i=i'):
 au w' B (oK kf P Q):=by
 have hP:=h.below hb (Nat.le_refl _);refine⟨fun i r hr=> ?_,fun i i' a b hne ha hb' g h1 h2=> ?_⟩
 ·cases hk:kf i with
  |some j=>simp only[oK,hk]at hr;exact jE (hQ.own j r hr) hB
  |none=>simp only[oK,hk]at hr;exact hP.own i r hr
 ·cases hk:kf i with
  |some j=>
   simp only[oK,hk]at ha;cases hk':kf i' with
   |some j'=>
    simp only[oK,hk']at hb';exact hQ.apart j j' a b (fun e=>hne (inj i i' j hk (by rw[e];exact hk'))) ha hb' g h1 h2
   |none=>
    simp only[oK,hk']at hb';have:=(hQ.lt ha h1).1;have:=(h.lt hb' h2).2;omega
  |none=>
   simp only[oK,hk]at ha;cases hk':kf i' with
   |some j'=>
    simp only[oK,hk']at hb';have:=(hQ.lt hb' h2).1;have:=(h.lt ha h1).2;omega
   |none=>
    simp only[oK,hk']at hb';exact h.apart i i' a b hne ha hb' g h1 h2
inductive Tz where
 |cs
 |gs
 |cell (k:Nat) (i:Ob)
 |gr (k:Nat)
 deriving DecidableEq
structure iR where
 cv:Value
 gv:Value
 cg:Nat->Nat
 vr:Nat->Nat->Value
 gg:Nat->Nat
def PZ(M N:Nat)(f:Nat->Nat->Ce)(g:Nat->List Int)(t:iR)(K1 Kc K2 Kg:Nat):Tz->Option Row
 | .cs=>some ⟨t.cv,97,1,K1,(List.range K1).map fun k=> .slice (some ⟨t.cg k,0,none⟩) M M⟩
 | .gs=>some ⟨t.gv,27,1,K2,(List.range K2).map fun k=> .slice (some ⟨t.gg k,0,none⟩) N N⟩
 | .cell k i=>if k<Kc then bZ (t.cg k) (t.vr k) (f k) M i else none
 | .gr k=>if k<Kg then some ⟨.slice (some ⟨t.gg k,0,none⟩) N N,3,1,N,(g k).map (Value.int .i64)⟩ else none
section
variable{w w':World}{B M N:Nat}{f:Nat->Nat->Ce}{g:Nat->List Int}{t:iR}{K1 Kc K2 Kg:Nat}
def iR.tL(t:iR)(k:Nat)(cg:Nat)(vr:Nat->Value):iR:={ t with cg:=dY t.cg k cg,vr:=dY t.vr k vr }
def iR.uW(t:iR)(k:Nat)(gg:Nat):iR:={ t with gg:=dY t.gg k gg }
theorem Vu{K:Nat}{h:Nat->Nat}{x:Nat}{F:Nat->Value}:((List.range K).map fun k=>F (dY h K x k))=(List.range K).map fun k=>F (h k):=List.map_congr_left fun k hk=>by
 have:=List.mem_range.1 hk;simp[dY,show k≠K by omega]
def Fy(K:Nat):Tz->Option Ob
 | .cell k i=>if k=K then some i else none
 |_=>none
def Fz(K:Nat):Tz->Option Unit
 | .gr k=>if k=K then some () else none
 |_=>none
theorem adI(h:au w B (PZ M N f g t K1 K1 K2 Kg))(hb:Below w.heap.size w w')(hB:B<=w.heap.size){cg:Nat}{vr:Nat->Value}(hQ:au w' w.heap.size (bZ cg vr (f K1) M)):au w' B (PZ M N f g (t.tL K1 cg vr) K1 (K1+1) K2 Kg):=by
 have:=h.join hb hQ hB (Fy K1) (fun i i' j h1 h2=>by
  cases i<;>cases i'<;>simp[Fy]at h1 h2;rename_i k1 i1 k2 i2;obtain⟨rfl,rfl⟩:=h1;obtain⟨rfl,rfl⟩:=h2
  rfl)
 have e:oK (Fy K1) (PZ M N f g t K1 K1 K2 Kg) (bZ cg vr (f K1) M)=PZ M N f g (t.tL K1 cg vr) K1 (K1+1) K2 Kg:=by
  funext i
  cases i with
  |cs=>simp only[oK,Fy,PZ,iR.tL];rw[Vu (F:=fun x=> .slice (some ⟨x,0,none⟩) M M)]
  |gs=>rfl
  |gr k=>rfl
  |cell k i=>
   simp only[oK,Fy,PZ,iR.tL];by_cases hk:k=K1
   ·subst hk;simp[dY]
   ·rw[if_neg hk]
    simp only[dY,if_neg hk];by_cases h2:k<K1
    ·rw[if_pos h2,if_pos (by omega)]
    ·rw[if_neg h2,if_neg (by omega)]
 rwa [e]at this
theorem adJ(h:au w B (PZ M N f g t K1 Kc K2 K2))(hb:Below w.heap.size w w')(hB:B<=w.heap.size){gg:Nat}(hQ:iF w' w.heap.size gg N (g K2)):au w' B (PZ M N f g (t.uW K2 gg) K1 Kc K2 (K2+1)):=by
 have hQ':au w' w.heap.size (fun _:Unit=>some ⟨.slice (some ⟨gg,0,none⟩) N N,3,1,N,(g K2).map (Value.int .i64)⟩):=
  ⟨fun i r hr=>by simp only[Option.some.injEq]at hr;subst hr;exact hQ,fun i j a b hij=>absurd rfl hij⟩
 have:=h.join hb hQ' hB (Fz K2) (fun i i' j h1 h2=>by
  cases i<;>cases i'<;>simp[Fz]at h1 h2
  rw[h1,h2])
 have e:oK (Fz K2) (PZ M N f g t K1 Kc K2 K2) (fun _:Unit=>some ⟨.slice (some ⟨gg,0,none⟩) N N,3,1,N,(g K2).map (Value.int .i64)⟩)=PZ M N f g (t.uW K2 gg) K1 Kc K2 (K2+1):=by
  funext i
  cases i with
  |cs=>rfl
  |gs=>simp only[oK,Fz,PZ,iR.uW];rw[Vu (F:=fun x=> .slice (some ⟨x,0,none⟩) N N)]
  |cell k i=>rfl
  |gr k=>
   simp only[oK,Fz,PZ,iR.uW];by_cases hk:k=K2
   ·subst hk;simp[dY]
   ·rw[if_neg hk]
    simp only[dY,if_neg hk];by_cases h2:k<K2
    ·rw[if_pos h2,if_pos (by omega)]
    ·rw[if_neg h2,if_neg (by omega)]
 rwa [e]at this
theorem adK(h:au w B (PZ M N f g t K1 Kc K2 Kg)){nv:Value}(hg:w.grownBy w' t.cv.ownBlock)(ho:w'.ownsRow B 97 1 nv (K1+1) (((List.range K1).map fun k=> .slice (some ⟨t.cg k,0,none⟩) M M)++[.slice (some ⟨t.cg K1,0,none⟩) M M]))(hat:∀g,nv.ownBlock=some g->t.cv.ownBlock=some g\/g=w.heap.size):au w' B (PZ M N f g { t with cv:=nv } (K1+1) Kc K2 Kg):=by
 have h1:=h.turn (i:= .cs) (r':=⟨nv,97,1,K1+1,((List.range K1).map fun k=> .slice (some ⟨t.cg k,0,none⟩) M M)++[.slice (some ⟨t.cg K1,0,none⟩) M M]⟩) rfl hg ho hat
 have e:upd (PZ M N f g t K1 Kc K2 Kg) .cs ⟨nv,97,1,K1+1,((List.range K1).map fun k=> .slice (some ⟨t.cg k,0,none⟩) M M)++[.slice (some ⟨t.cg K1,0,none⟩) M M]⟩=PZ M N f g { t with cv:=nv } (K1+1) Kc K2 Kg:=by
  funext i
  cases i with
  |cs=>simp only[upd,PZ,if_true];rw[List.range_succ,List.map_append];rfl
  |_=>simp[upd,PZ]
 rwa [e]at h1
theorem adL(h:au w B (PZ M N f g t K1 Kc K2 Kg)){nv:Value}(hg:w.grownBy w' t.gv.ownBlock)(ho:w'.ownsRow B 27 1 nv (K2+1) (((List.range K2).map fun k=> .slice (some ⟨t.gg k,0,none⟩) N N)++[.slice (some ⟨t.gg K2,0,none⟩) N N]))(hat:∀g,nv.ownBlock=some g->t.gv.ownBlock=some g\/g=w.heap.size):au w' B (PZ M N f g { t with gv:=nv } K1 Kc (K2+1) Kg):=by
 have h1:=h.turn (i:= .gs) (r':=⟨nv,27,1,K2+1,((List.range K2).map fun k=> .slice (some ⟨t.gg k,0,none⟩) N N)++[.slice (some ⟨t.gg K2,0,none⟩) N N]⟩) rfl hg ho hat
 have e:upd (PZ M N f g t K1 Kc K2 Kg) .gs ⟨nv,27,1,K2+1,((List.range K2).map fun k=> .slice (some ⟨t.gg k,0,none⟩) N N)++[.slice (some ⟨t.gg K2,0,none⟩) N N]⟩=PZ M N f g { t with gv:=nv } K1 Kc (K2+1) Kg:=by
  funext i
  cases i with
  |gs=>simp only[upd,PZ,if_true];rw[List.range_succ,List.map_append];rfl
  |_=>simp[upd,PZ]
 rwa [e]at h1
theorem adM(w:World)(B:Nat){t:iR}(h1:t.cv= .slice none 0 0)(h2:t.gv= .slice none 0 0):au w B (PZ M N f g t 0 0 0 0):=by
 refine⟨fun i r hr=> ?_,fun i j a b hij ha hb x h3 h4=> ?_⟩
 ·cases i with
  |cs=>simp only[PZ,Option.some.injEq]at hr;subst hr;rw[h1];exact World.ownsRow_nil _ _ _ _
  |gs=>simp only[PZ,Option.some.injEq]at hr;subst hr;rw[h2];exact World.ownsRow_nil _ _ _ _
  |cell k i=>simp[PZ]at hr
  |gr k=>simp[PZ]at hr
 ·cases i with
  |cs=>simp only[PZ,Option.some.injEq]at ha;subst ha;rw[h1]at h3;cases h3
  |gs=>simp only[PZ,Option.some.injEq]at ha;subst ha;rw[h2]at h3;cases h3
  |cell k i=>simp[PZ]at ha
  |gr k=>simp[PZ]at ha
theorem adN{K:Nat}(h:au w B (PZ M N f g t K K K K)):TabAt w t.cv t.gv ((List.range K).map fun k=>(List.range M).map (f k)) ((List.range K).map g):=by
 refine⟨?_,?_⟩
 ·have hh:w.ownsRow B 97 1 t.cv K ((List.range K).map fun k=> .slice (some ⟨t.cg k,0,none⟩) M M):=h.own .cs _ rfl
  obtain⟨a,c,hv⟩:=aY hh;refine⟨⟨a,c,by simpa using hv⟩,fun i hi=> ?_⟩;have hi':i<K:=by simpa using hi
  obtain⟨g1,cap,hv2,_,_⟩:=hh.form (by omega);rw[hv2]at hh;have e1:((List.range K).map fun k=>(List.range M).map (f k)).getD i []=(List.range M).map (f i):=by simp[List.getD,hi']
  refine⟨g1,0,cap,.slice (some ⟨t.cg i,0,none⟩) M M,by simpa using hv2,by rw[Nat.zero_add,hh.cellAt i (by omega)];simp[hi'],?_⟩;rw[e1];refine⟨⟨some ⟨t.cg i,0,none⟩,M,by simp⟩,fun n hn=> ?_⟩;have hn':n<M:=by simpa using hn
  have hP:au w B (bZ (t.cg i) (t.vr i) (f i) M):=⟨fun j r hr=>h.own (.cell i j) r (by simp[PZ,hi',hr]),fun j j' a b hne ha hb=>h.apart (.cell i j) (.cell i j') a b (fun e=>hne (by cases e;rfl)) (by simp[PZ,hi',ha]) (by simp[PZ,hi',hb])⟩;obtain⟨c0,c1,c2,_,_,_⟩:=Oc hP hn';have e2:((List.range M).map (f i)).getD n (0,[],false)=f i n:=by simp[List.getD,hn']
  rw[e2];exact⟨t.cg i,0,M,t.vr i n,by simp,by rw[Nat.zero_add];exact c0,by rw[Nat.zero_add];exact c1,Vn (JB hP hn'),by rw[Nat.zero_add];exact c2⟩
 ·have hh:w.ownsRow B 27 1 t.gv K ((List.range K).map fun k=> .slice (some ⟨t.gg k,0,none⟩) N N):=h.own .gs _ rfl
  obtain⟨a,c,hv⟩:=aY hh;refine⟨⟨a,c,by simpa using hv⟩,fun i hi=> ?_⟩;have hi':i<K:=by simpa using hi
  obtain⟨g1,cap,hv2,_,_⟩:=hh.form (by omega);rw[hv2]at hh;have e1:((List.range K).map g).getD i []=g i:=by simp[List.getD,hi']
  refine⟨g1,0,cap,.slice (some ⟨t.gg i,0,none⟩) N N,by simpa using hv2,by rw[Nat.zero_add,hh.cellAt i (by omega)];simp[hi'],?_⟩;rw[e1];exact Vn (n:=N) (h.own (.gr i) ⟨.slice (some ⟨t.gg i,0,none⟩) N N,3,1,N,(g i).map (Value.int .i64)⟩ (by simp[PZ,hi']))
end
structure nD(w wr:World)(t:iR):Prop where
 c0:wr.cell? ⟨w.heap.size+1,0,none⟩=some t.cv
 c1:wr.cell? ⟨w.heap.size+1,1,none⟩=some t.gv
 cf:∀o,wr.frozen? ⟨w.heap.size+1,o,none⟩=false
 r0:wr.cell? ⟨w.heap.size,0,none⟩=some (.slice none 0 0)
 r1:wr.cell? ⟨w.heap.size,1,none⟩=some (.slice none 0 0)
 rf:∀o,wr.frozen? ⟨w.heap.size,o,none⟩=false
 sz:w.heap.size+2<=wr.heap.size
theorem nD.below{w wr w':World}{t:iR}(h:nD w wr t){B:Nat}(hb:Below B wr w')(hB:w.heap.size+2<=B):nD w w' t:=
 ⟨(hb.cell (by simp only;omega)).trans h.c0,(hb.cell (by simp only;omega)).trans h.c1,fun o=>(hb.frozen (by simp only;omega)).trans (h.cf o),(hb.cell (by simp only;omega)).trans h.r0,(hb.cell (by simp only;omega)).trans h.r1,fun o=>(hb.frozen (by simp only;omega)).trans (h.rf o),Nat.le_trans h.sz hb.size⟩
theorem nD.set0{w wr:World}{t:iR}(h:nD w wr t)(x:Value):nD w (wr.setCell ⟨w.heap.size+1,0,none⟩ x) { t with cv:=x }:=
 ⟨World.cell?_setCell_same _ _ _ h.c0,(World.cell?_setCell_other _ _ _ _ (by simp)).trans h.c1,fun o=>(World.frozen?_setCell _ _ _ _).trans (h.cf o),(World.cell?_setCell_other _ _ _ _ (by simp)).trans h.r0,(World.cell?_setCell_other _ _ _ _ (by simp)).trans h.r1,fun o=>(World.frozen?_setCell _ _ _ _).trans (h.rf o),by have:=h.sz;simpa using this⟩
theorem nD.set1{w wr:World}{t:iR}(h:nD w wr t)(x:Value):nD w (wr.setCell ⟨w.heap.size+1,1,none⟩ x) { t with gv:=x }:=
 ⟨(World.cell?_setCell_other _ _ _ _ (by simp)).trans h.c0,World.cell?_setCell_same _ _ _ h.c1,fun o=>(World.frozen?_setCell _ _ _ _).trans (h.cf o),(World.cell?_setCell_other _ _ _ _ (by simp)).trans h.r0,(World.cell?_setCell_other _ _ _ _ (by simp)).trans h.r1,fun o=>(World.frozen?_setCell _ _ _ _).trans (h.rf o),by have:=h.sz;simpa using this⟩
theorem aU.qK{P:Program}{ops:Array Oper}{S:World->Prop}{K:Act->Prop}{i:Nat}{o:Oper}{l:List Nat}{a:Act}{v:Value}(ho:ops.toList[i]?=some o)(hw:Region.wanted o (yielded ops a.tmps)=true)(hy:∀w,S w->(execOp a.eval o).run P w= .ok (.value v) w)(h:aU P ops S K l (a.put o.dst v)):aU P ops S K (i::l) a:=
 aU.cons (by simpa using ho) hw hy h
theorem dQ.qK{P:Program}{ops:Array Oper}{Q:Exit->Act->World->Prop}{S:World->Prop}{n k:Nat}{o:Oper}{l:List Nat}{a:Act}{w:World}(ho:ops.toList[k]?=some o)(h:∀K:Act->World->Prop,Shut (∀a w,(k<n->S w)->dQ P ops Q S n l a w->K a w)->if Region.wanted o (yielded ops a.tmps)=true then Oper.wp P o a w K Q else K (a.put o.dst undef) w):dQ P ops Q S n (k::l) a w:=
 dQ.cons (by simpa using ho) h
theorem Tryz.infoCeS:(Tryz.prog.info? 97).map (fun i=>(i.zero,i.size,i.bytes))=some (some (.slice none 0 0),1,24):=by kernel_rfl
theorem Tryz.infoIntS:(Tryz.prog.info? 27).map (fun i=>(i.zero,i.size,i.bytes))=some (some (.slice none 0 0),1,24):=by kernel_rfl
theorem adO{w0 w:World}{d:fD}{v:dF}{G:Wy->Option Value}{ng:Nat}{st:LS}{R:List Ru}{Nu:List Bool}{Fi:List (List Bool)}{Ls:List aX}{ZT ZN:Nat->Nat->Int}(E:jQ w0 d R Nu Fi)(h:aA w0 w d v G ng st)(hS:jO R v.OL Ls)(few:v.OL.length<=150)(pQ:ng<=10000000)(hc:st.c<=10000000)(hlk:∀s,st.lk s<512)
 (hZ:∀k,k<v.OL.length->∀n,n<=d.T->Says G (k,(true,(n:Int))) (ZT k n)) (Vv:∀k,k<v.OL.length->∀n,n<d.N->Says G (k,(false,(n:Int))) (ZN k n)):
 Calls Tryz.prog 34 #[.pointer (some ⟨d.ma,0,none⟩)] w fun e w'=> ∃cv gv,e= .returned (.agg #[cv,gv])/\(∀w'':World,(∀b,w.heap.size<=b->b<w'.heap.size->w''.heap[b]?=w'.heap[b]?)->TabAt w'' cv gv ((List.range v.OL.length).map fun k=>(List.range (d.T+1)).map fun n=>dx R st.lk k n (v.OL.getD k []) (ZT k n,[],false)) ((List.range v.OL.length).map fun k=>(List.range d.N).map (ZN k)))/\Below w.heap.size w w':=by
 obtain⟨M,wu⟩:∃M,d.T+1=M:=⟨_,rfl⟩;obtain⟨f,hf⟩:∃f:Nat->Nat->Ce,f=fun k n=>dx R st.lk k n (v.OL.getD k []) (ZT k n,[],false):=⟨_,rfl⟩;obtain⟨g,hg⟩:∃g:Nat->List Int,g=fun k=>(List.range d.N).map (ZN k):=⟨_,rfl⟩;have Vw:Hid (∀(w':World) (cv gv:Value),TabAt w' cv gv ((List.range v.OL.length).map fun k=>(List.range M).map (f k)) ((List.range v.OL.length).map g)->TabAt w' cv gv ((List.range v.OL.length).map fun k=>(List.range (d.T+1)).map fun n=>dx R st.lk k n (v.OL.getD k []) (ZT k n,[],false)) ((List.range v.OL.length).map fun k=>(List.range d.N).map (ZN k))):=fun w' cv gv ht=>by rw[wu,<-hg];rw[hf]at ht;exact ht
 have Oh:Hid (∀(wx:World) (k:Nat),aA w0 wx d v G ng st->k<v.OL.length->Calls Tryz.prog 62 #[.pointer (some ⟨d.ma,0,none⟩),.int .i64 k] wx fun e w'=> ∃cg vr,e= .returned (.slice (some ⟨cg,0,none⟩) M M)/\au w' wx.heap.size (bZ cg vr (f k) M)/\Below wx.heap.size wx w'):=fun wx k hx hk=>by
  have:=adE E hx hS hk few pQ hc hlk (hZ k hk);rw[wu]at this;rw[hf];exact this
 have Oi:Hid (∀(wx:World) (k:Nat),aA w0 wx d v G ng st->k<v.OL.length->Calls Tryz.prog 63 #[.pointer (some ⟨d.ma,0,none⟩),.int .i64 k] wx fun e w'=> ∃gg,e= .returned (.slice (some ⟨gg,0,none⟩) d.N d.N)/\iF w' wx.heap.size gg d.N (g k)/\Below wx.heap.size wx w'):=fun wx k hx hk=>by
  have:=adv hx E.hN.2 E.hN.1 (by omega) pQ (Vv k hk);rw[hg];exact this
 have HM:Hid (aA w0 w d v G ng st):=h;have hM2:=(h.alloc (.cells #[.slice none 0 0,.slice none 0 0] 44)).alloc (.cells #[.slice none 0 0,.slice none 0 0] 44);have c6:=(hM2.cell (i:=6) rfl (by omega)).1;obtain⟨sa,sc,hsv⟩:=h.states;rw[hsv]at c6;have HB0:Hid (Below w.heap.size w ((w.alloc (.cells #[.slice none 0 0,.slice none 0 0] 44)).alloc (.cells #[.slice none 0 0,.slice none 0 0] 44))):=((Below.refl _ _).alloc (Nat.le_refl _) _).alloc (by simp) _
 have HT0:Hid (nD w ((w.alloc (.cells #[.slice none 0 0,.slice none 0 0] 44)).alloc (.cells #[.slice none 0 0,.slice none 0 0] 44)) ⟨.slice none 0 0,.slice none 0 0,fun _=>0,fun _ _=> .slice none 0 0,fun _=>0⟩):=by
  refine⟨?_,?_,fun o=> ?_,?_,?_,fun o=> ?_,?_⟩<;>simp[go_sem]
 obtain⟨K,hK⟩:∃K,v.OL.length=K:=⟨_,rfl⟩;rw[hK]at c6 Vw Oh Oi few;have hKo:=hK;clear E h hS hZ Vv hlk hM2 hsv wu hf hg hK
 go_enter Tryz.func34,Tryz.ntmps34
 go_wp2_with fail
 clear c6;generalize (w.alloc (.cells #[.slice none 0 0,.slice none 0 0] 44)).alloc (.cells #[.slice none 0 0,.slice none 0 0] 44)=W0 at HB0 HT0⊢
 go_loopw [10] (fun s10 wr=> ∃(k:Nat) (t:iR),s10= .int .i64 k/\k<=K/\au wr (w.heap.size+2) (PZ M d.N f g t k k k k)/\nD w wr t/\Below w.heap.size w wr) (fun s _=>K-(intOf s).toNat)
 case atStart=>exact⟨0,_,rfl,Nat.zero_le _,adM _ _ rfl rfl,HT0.out,HB0.out⟩
 case round=>
  clear HT0 HB0;obtain⟨k,t,rfl,hk,hO,hT,hB⟩:=hrel;have HO:Hid (au wr (w.heap.size+2) (PZ M d.N f g t k k k k)):=hO;have HT:Hid (nD w wr t):=hT;have HB:Hid (Below w.heap.size w wr):=hB;by_cases hlt:k<K
  ·have Cj:=Oh.out wr.drew k (HM.out.below hB).drew hlt
   have c0:=hT.c0;obtain⟨ca,cc,hcv⟩:=hO.slice (i:= .cs) rfl;simp only at hcv;rw[hcv]at c0;have Ck:Hid (t.cv= .slice ca k cc):=hcv;obtain⟨i5,hi0,hz0,hz1,hz2⟩:=info_parts Tryz.infoCeS;have hn1:k+1<=maxLen:=by unfold maxLen;omega
   have hn2:(k+1)*24<=140737488355328:=by omega
   clear hO hT hB hcv
   go_wp2_with fail
   refine F9 [0,1,2,3] [4,5,6,7,8] 8 (fun w'=>w'.cell? ⟨w.heap.size+1,0,none⟩=some (.slice ca k cc)) (by kernel_rfl) (by kernel_rfl) c0 ?_
   iterate 4
    refine aU.qK (v:= ?_) rfl (by rfl) ?_ ?_;rotate_left
    ·intro w' hSw
     go_simp
     try with_reducible rfl
    simp only[Act.put,List.setIfInBounds_toArray,List.set_cons_zero,List.set_cons_succ]
   rw[aU];refine dQ.qK rfl (fun K hK=> ?_)
   go_simp
   refine Cj.mono ?_;rintro e w5 ⟨cg,vr,rfl,FB,ay⟩;dsimp only;have jA:=HT.out.below ((Below.refl _ _).drew.trans ay) HT.out.sz;have xH:=adI HO.out.drew (show Below wr.drew.heap.size wr.drew w5 from ay) HT.out.sz FB;have dU:Below w.heap.size w w5:=HB.out.trans ((show Below wr.heap.size wr w5 from (Below.refl _ _).drew.trans ay).mono (by have:=HT.out.sz;omega));have c5:=jA.c0;rw[Ck.out]at c5;refine hK.out _ _ (fun _=>c5) ?_;clear hK Cj FB ay HO HT HB c0;obtain⟨W6,FC⟩:∃W,W=w5.alloc (.cells #[.slice (some ⟨cg,0,none⟩) M M] 97):=⟨_,rfl⟩;have wC:=xH.alloc (.cells #[.slice (some ⟨cg,0,none⟩) M M] 97);have hb6:Below w5.heap.size w5 (w5.alloc (.cells #[.slice (some ⟨cg,0,none⟩) M M] 97)):=(Below.refl _ _).alloc (Nat.le_refl _) _;have iY:=jA.below hb6 jA.sz;have c6:=iY.c0;have f6:=iY.cf 0;have hsz5:=jA.sz;rw[Ck.out]at c6
   have d9:(w5.alloc (.cells #[.slice (some ⟨cg,0,none⟩) M M] 97)).ownsRow (w.heap.size+2) 97 1 (.slice ca k cc) k ((List.range k).map fun j=> .slice (some ⟨dY t.cg k cg j,0,none⟩) M M):=by
    have:=wC.own .cs _ rfl;simp only[iR.tL,Ck.out]at this;exact this
   have hne:some (w.heap.size+1)≠(Value.slice ca k cc).ownBlock:=fun e1=>by have:=(d9.lt _ e1.symm).1;omega
   have jq:=World.news_of_block (cs:= #[.slice (some ⟨cg,0,none⟩) M M]) (t:=97) (fr:=(0,0)) (heap_alloc_new w5 (.cells #[.slice (some ⟨cg,0,none⟩) M M] 97));have hs6:(w5.alloc (.cells #[.slice (some ⟨cg,0,none⟩) M M] 97)).heap.size=w5.heap.size+1:=by simp
   have aK:Below w.heap.size w (w5.alloc (.cells #[.slice (some ⟨cg,0,none⟩) M M] 97)):=dU.alloc (by omega) _;refine dQ.qK rfl (fun K hK=> ?_)
   go_simp
   rw[<-FC]at wC hb6 iY c6 f6 d9 jq hs6 aK⊢;refine hK.out _ _ (fun _=>c6) ?_;clear hK xH jA dU c5;refine dQ.qK rfl (fun K hK=> ?_);refine step_append_lies _ rfl _ _ _ rfl (w.heap.size+2) 97 i5 _ 1 24 Tryz.underlying41 hi0 hz0 hz1 hz2 rfl (by omega) (.slice ca k cc) k ((List.range k).map fun j=> .slice (some ⟨dY t.cg k cg j,0,none⟩) M M) rfl d9 ⟨w5.heap.size,0,none⟩ 1 1 [.slice (some ⟨cg,0,none⟩) M M] rfl rfl jq (by simp[Value.oneCell']) (by omega) hn1 hn2 (by omega) (w5.heap.size+1) hs6 ?_;intro g7 l7 w7 vJ gJ zR JE;have c7:=(gJ.cell_far ⟨w.heap.size+1,0,none⟩ (by simp;omega) hne).trans c6;have f7:=(gJ.frozen_far ⟨w.heap.size+1,0,none⟩ (by simp;omega) hne).trans f6
   have FD:au w7 (w.heap.size+2) (PZ M d.N f g { (t.tL k cg vr) with cv:= .slice (some ⟨g7,0,none⟩) (k+1) l7 } (k+1) (k+1) k k):=by
    refine adK wC ?_ ?_ ?_
    ·simp only[iR.tL,Ck.out];exact gJ
    ·simp only[iR.tL]
     have e:(dY t.cg k cg k)=cg:=by simp[dY]
     rw[e];exact vJ
    ·intro g' hg'
     simp only[iR.tL,Ck.out];simp only[Value.ownBlock,Option.some.injEq]at hg';subst hg';rcases zR with h|h
     ·exact .inl h
     ·exact .inr (by omega)
   have JF:Hid (au (w7.setCell ⟨w.heap.size+1,0,none⟩ (.slice (some ⟨g7,0,none⟩) (k+1) l7)) (w.heap.size+2) (PZ M d.N f g { (t.tL k cg vr) with cv:= .slice (some ⟨g7,0,none⟩) (k+1) l7 } (k+1) (k+1) k k)):=FD.tQ (a:=⟨w.heap.size+1,0,none⟩) (by simp) _
   have uX:nD w w7 t:=by
    have hne':∀q,q<=w.heap.size+1->some q≠(Value.slice ca k cc).ownBlock:=fun q hq e1=>by have:=(d9.lt _ e1.symm).1;omega
    refine⟨?_,?_,fun o=> ?_,?_,?_,fun o=> ?_,?_⟩
    ·exact(gJ.cell_far _ (by simp;omega) (hne' _ (by simp))).trans iY.c0
    ·exact(gJ.cell_far _ (by simp;omega) (hne' _ (by simp))).trans iY.c1
    ·exact(gJ.frozen_far _ (by simp;omega) (hne' _ (by simp))).trans (iY.cf o)
    ·exact(gJ.cell_far _ (by simp;omega) (hne' _ (by simp))).trans iY.r0
    ·exact(gJ.cell_far _ (by simp;omega) (hne' _ (by simp))).trans iY.r1
    ·exact(gJ.frozen_far _ (by simp;omega) (hne' _ (by simp))).trans (iY.rf o)
    ·exact Nat.le_trans iY.sz gJ.size
   have ql:Hid (nD w (w7.setCell ⟨w.heap.size+1,0,none⟩ (.slice (some ⟨g7,0,none⟩) (k+1) l7)) { t with cv:= .slice (some ⟨g7,0,none⟩) (k+1) l7 }):=uX.set0 _;have xA:Hid (Below w.heap.size w (w7.setCell ⟨w.heap.size+1,0,none⟩ (.slice (some ⟨g7,0,none⟩) (k+1) l7))):=(aK.grown gJ (by omega) (fun b hb=>by have:=(d9.lt _ hb).1;omega)).setCell (by simp) _;refine hK.out _ _ (fun _=>c7) ?_;clear hK vJ gJ zR JE uX FD wC hb6 iY c6 f6 d9 jq hs6 aK hne hi0 hz0 hz1 hz2 hn1 hn2 FC;refine dQ.qK rfl (fun K hK=> ?_)
   go_simp
   refine hK.out _ _ (fun _=>c7) ?_;clear hK;refine dQ.qK rfl (fun K hK=> ?_)
   go_simp
   refine hK.out _ _ (fun h=>absurd h (by omega)) ?_;clear hK;rw[dQ];refine NoPanic.normal ?_;generalize (w7.setCell ⟨w.heap.size+1,0,none⟩ (.slice (some ⟨g7,0,none⟩) (k+1) l7))=W8 at JF ql xA⊢;clear c7 f7;obtain⟨t8,Oj⟩:∃t8:iR,t8={ (t.tL k cg vr) with cv:= .slice (some ⟨g7,0,none⟩) (k+1) l7 }:=⟨_,rfl⟩;have HT:Hid (nD w W8 t8):=by rw[Oj];exact⟨ql.out.c0,ql.out.c1,ql.out.cf,ql.out.r0,ql.out.r1,ql.out.rf,ql.out.sz⟩
   rw[<-Oj]at JF;have HO:Hid (au W8 (w.heap.size+2) (PZ M d.N f g t8 (k+1) (k+1) k k)):=JF.out;have HB:Hid (Below w.heap.size w W8):=xA.out;have Vx:=Oi.out W8.drew k (HM.out.below HB.out).drew hlt;have c0:=HT.out.c1;obtain⟨ga,gc,hgv⟩:=HO.out.slice (i:= .gs) rfl;simp only at hgv;rw[hgv]at c0;have FE:Hid (t8.gv= .slice ga k gc):=hgv;obtain⟨i5,hi0,hz0,hz1,hz2⟩:=info_parts Tryz.infoIntS;have hn1:k+1<=maxLen:=by unfold maxLen;omega
   have hn2:(k+1)*24<=140737488355328:=by omega
   clear hgv JF ql xA Oj Ck
   go_wp2_with fail
   refine F9 [0,1,2,3] [4,5,6,7,8] 8 (fun w'=>w'.cell? ⟨w.heap.size+1,1,none⟩=some (.slice ga k gc)) (by kernel_rfl) (by kernel_rfl) c0 ?_
   iterate 4
    refine aU.qK (v:= ?_) rfl (by rfl) ?_ ?_;rotate_left
    ·intro w' hSw
     go_simp
     try with_reducible rfl
    simp only[Act.put,List.setIfInBounds_toArray,List.set_cons_zero,List.set_cons_succ]
   rw[aU];refine dQ.qK rfl (fun K hK=> ?_)
   go_simp
   refine Vx.mono ?_;rintro e w5 ⟨gg,rfl,FB,ay⟩;dsimp only;have jA:=HT.out.below ((Below.refl _ _).drew.trans ay) HT.out.sz;have xH:=adJ HO.out.drew (show Below W8.drew.heap.size W8.drew w5 from ay) HT.out.sz FB;have dU:Below w.heap.size w w5:=HB.out.trans ((show Below W8.heap.size W8 w5 from (Below.refl _ _).drew.trans ay).mono (by have:=HT.out.sz;omega));have c5:=jA.c1;rw[FE.out]at c5;refine hK.out _ _ (fun _=>c5) ?_;clear hK FB ay HO HT HB c0;obtain⟨W6,FC⟩:∃W,W=w5.alloc (.cells #[.slice (some ⟨gg,0,none⟩) d.N d.N] 27):=⟨_,rfl⟩;have wC:=xH.alloc (.cells #[.slice (some ⟨gg,0,none⟩) d.N d.N] 27);have hb6:Below w5.heap.size w5 (w5.alloc (.cells #[.slice (some ⟨gg,0,none⟩) d.N d.N] 27)):=(Below.refl _ _).alloc (Nat.le_refl _) _;have iY:=jA.below hb6 jA.sz;have c6:=iY.c1;have f6:=iY.cf 1;have hsz5:=jA.sz;rw[FE.out]at c6
   have d9:(w5.alloc (.cells #[.slice (some ⟨gg,0,none⟩) d.N d.N] 27)).ownsRow (w.heap.size+2) 27 1 (.slice ga k gc) k ((List.range k).map fun j=> .slice (some ⟨dY t8.gg k gg j,0,none⟩) d.N d.N):=by
    have:=wC.own .gs _ rfl;simp only[iR.uW,FE.out]at this;exact this
   have hne:some (w.heap.size+1)≠(Value.slice ga k gc).ownBlock:=fun e1=>by have:=(d9.lt _ e1.symm).1;omega
   have jq:=World.news_of_block (cs:= #[.slice (some ⟨gg,0,none⟩) d.N d.N]) (t:=27) (fr:=(0,0)) (heap_alloc_new w5 (.cells #[.slice (some ⟨gg,0,none⟩) d.N d.N] 27));have hs6:(w5.alloc (.cells #[.slice (some ⟨gg,0,none⟩) d.N d.N] 27)).heap.size=w5.heap.size+1:=by simp
   have aK:Below w.heap.size w (w5.alloc (.cells #[.slice (some ⟨gg,0,none⟩) d.N d.N] 27)):=dU.alloc (by omega) _;refine dQ.qK rfl (fun K hK=> ?_)
   go_simp
   rw[<-FC]at wC hb6 iY c6 f6 d9 jq hs6 aK⊢;refine hK.out _ _ (fun _=>c6) ?_;clear hK xH jA dU c5;refine dQ.qK rfl (fun K hK=> ?_);refine step_append_lies _ rfl _ _ _ rfl (w.heap.size+2) 27 i5 _ 1 24 Tryz.underlying42 hi0 hz0 hz1 hz2 rfl (by omega) (.slice ga k gc) k ((List.range k).map fun j=> .slice (some ⟨dY t8.gg k gg j,0,none⟩) d.N d.N) rfl d9 ⟨w5.heap.size,0,none⟩ 1 1 [.slice (some ⟨gg,0,none⟩) d.N d.N] rfl rfl jq (by simp[Value.oneCell']) (by omega) hn1 hn2 (by omega) (w5.heap.size+1) hs6 ?_;intro g7 l7 w7 vJ gJ zR JE;have c7:=(gJ.cell_far ⟨w.heap.size+1,1,none⟩ (by simp;omega) hne).trans c6;have f7:=(gJ.frozen_far ⟨w.heap.size+1,1,none⟩ (by simp;omega) hne).trans f6
   have FD:au w7 (w.heap.size+2) (PZ M d.N f g { (t8.uW k gg) with gv:= .slice (some ⟨g7,0,none⟩) (k+1) l7 } (k+1) (k+1) (k+1) (k+1)):=by
    refine adL wC ?_ ?_ ?_
    ·simp only[iR.uW,FE.out];exact gJ
    ·simp only[iR.uW]
     have e:(dY t8.gg k gg k)=gg:=by simp[dY]
     rw[e];exact vJ
    ·intro g' hg'
     simp only[iR.uW,FE.out];simp only[Value.ownBlock,Option.some.injEq]at hg';subst hg';rcases zR with h|h
     ·exact .inl h
     ·exact .inr (by omega)
   have Vy:Hid (au (w7.setCell ⟨w.heap.size+1,1,none⟩ (.slice (some ⟨g7,0,none⟩) (k+1) l7)) (w.heap.size+2) (PZ M d.N f g { (t8.uW k gg) with gv:= .slice (some ⟨g7,0,none⟩) (k+1) l7 } (k+1) (k+1) (k+1) (k+1))):=FD.tQ (a:=⟨w.heap.size+1,1,none⟩) (by simp) _
   have uX:nD w w7 t8:=by
    have hne':∀q,q<=w.heap.size+1->some q≠(Value.slice ga k gc).ownBlock:=fun q hq e1=>by have:=(d9.lt _ e1.symm).1;omega
    refine⟨?_,?_,fun o=> ?_,?_,?_,fun o=> ?_,?_⟩
    ·exact(gJ.cell_far _ (by simp;omega) (hne' _ (by simp))).trans iY.c0
    ·exact(gJ.cell_far _ (by simp;omega) (hne' _ (by simp))).trans iY.c1
    ·exact(gJ.frozen_far _ (by simp;omega) (hne' _ (by simp))).trans (iY.cf o)
    ·exact(gJ.cell_far _ (by simp;omega) (hne' _ (by simp))).trans iY.r0
    ·exact(gJ.cell_far _ (by simp;omega) (hne' _ (by simp))).trans iY.r1
    ·exact(gJ.frozen_far _ (by simp;omega) (hne' _ (by simp))).trans (iY.rf o)
    ·exact Nat.le_trans iY.sz gJ.size
   have xY:Hid (nD w (w7.setCell ⟨w.heap.size+1,1,none⟩ (.slice (some ⟨g7,0,none⟩) (k+1) l7)) { t8 with gv:= .slice (some ⟨g7,0,none⟩) (k+1) l7 }):=uX.set1 _;have Cm:Hid (Below w.heap.size w (w7.setCell ⟨w.heap.size+1,1,none⟩ (.slice (some ⟨g7,0,none⟩) (k+1) l7))):=(aK.grown gJ (by omega) (fun b hb=>by have:=(d9.lt _ hb).1;omega)).setCell (by simp) _;refine hK.out _ _ (fun _=>c7) ?_;clear hK vJ gJ zR JE uX FD wC hb6 iY c6 f6 d9 jq hs6 aK hne hi0 hz0 hz1 hz2 hn1 hn2 FC;refine dQ.qK rfl (fun K hK=> ?_)
   go_simp
   refine hK.out _ _ (fun _=>c7) ?_;clear hK;refine dQ.qK rfl (fun K hK=> ?_)
   go_simp
   refine hK.out _ _ (fun h=>absurd h (by omega)) ?_;clear hK;rw[dQ];refine NoPanic.normal ?_;generalize (w7.setCell ⟨w.heap.size+1,1,none⟩ (.slice (some ⟨g7,0,none⟩) (k+1) l7))=W9 at Vy xY Cm⊢;clear c7 f7;clear Vx
   go_wp2_with fail
   go_roundw
   case rel=>exact⟨k+1,_,by go_num,by omega,Vy.out,⟨xY.out.c0,xY.out.c1,xY.out.cf,xY.out.r0,xY.out.r1,xY.out.rf,xY.out.sz⟩,Cm.out⟩
   case measure=>simp[intOf];omega
  ·obtain rfl:K=k:=by omega
   obtain⟨ca,cc,hcv⟩:=hO.slice (i:= .cs) rfl;obtain⟨ga,gc,hgv⟩:=hO.slice (i:= .gs) rfl;simp only at hcv hgv;have c0:=hT.c0;have c1:=hT.c1;rw[hcv]at c0;rw[hgv]at c1;have x0:=hT.r0;have x1:=hT.r1;have xf0:=hT.rf 0;have xf1:=hT.rf 1;have afQ:decide ((K:Int)<(K:Int))=false:=by simp
   have HV:Hid (t.cv= .slice ca K cc/\t.gv= .slice ga K gc):=⟨hcv,hgv⟩;clear hO hT hB hcv hgv Oh Oi HM
   go_wp2_with fail
   have hP:=(HO.out.tQ (a:=⟨w.heap.size,0,none⟩) (by simp) (.slice ca K cc)).tQ (a:=⟨w.heap.size,1,none⟩) (by simp) (.slice ga K gc);refine bodyPost_ret (v:= .agg #[.slice ca K cc,.slice ga K gc]) (by simp[results,Tryz.results34,go_sem,x0,x1]) rfl ⟨.slice ca K cc,.slice ga K gc,rfl,?_,(HB.out.setCell (by simp) _).setCell (by simp) _⟩;rw[hKo];intro w'' hw'';have hT':=adN (hP.heap (w':=w'') fun i r q hr hq=>hw'' q (by have:=(hP.lt hr hq).1;omega) (hP.lt hr hq).2);rw[HV.out.1,HV.out.2]at hT';exact Vw.out _ _ _ hT'
end Go.Proofs.YtpkmpkphfflpjaaGreat
namespace Go.Proofs.YtpkmpkphfflpjaaGreat
open Classical
section
variable{T N:Nat}{R:List Ru}{OL:List (List It)}{NL:List (List Int)}{Ls:List aX}{st:LS}
theorem adP{k n:Nat}:∀(L:List It) (z:Int) (a:List Int) (b:Bool),dx R st.lk k n L (z,a,b)=
 (z,a++((L.filter fun it=>nC R st.lk k n it&&decide (it.1≠R.length)).map fun it=>(it.1:Int)),b||L.any fun it=>nC R st.lk k n it&&decide (it.1=R.length)):=by
 intro L
 induction L with
 |nil=>intro z a b;simp[dx]
 |cons it L ih=>
  intro z a b;show dx R st.lk k n L (if nC R st.lk k n it then lF R it.1 (z,a,b) else (z,a,b))=_;by_cases hd:nC R st.lk k n it=true
  ·rw[if_pos hd]
   unfold lF;by_cases he:it.1=R.length
   ·rw[if_pos he]
    simp only;rw[ih];simp[hd,he]
   ·rw[if_neg he]
    simp only;rw[ih];simp[hd,he]
  ·have hd':nC R st.lk k n it=false:=by simpa using hd
   rw[if_neg hd,ih];simp[hd']
theorem adQ(A:kG T N R OL NL Ls)(hF:∀n,((jg R (dO R N) T N).getD n []).length<=T)(H:Fj T N R OL NL Ls (dO R N) (jg R (dO R N) T N) st){k n:Nat}(hk:k<OL.length){z:Int}(hz:z=if n<T then (NL.getD k []).getD n 0 else -1):
 dx R st.lk k n (OL.getD k []) (z,[],false)=cellP T N R NL Ls k n:=by
 have hin:∀r,tu T N R NL Ls k n r↔(r,(aJ R r).length)∈OL.getD k []/\nC R st.lk k n (r,(aJ R r).length)=true:=fun r=>by
  unfold tu nC;rw[(A.lD.iZ k hk).mem,<-ach A hF H.inv H.none H.zero,show (decide ((r,(aJ R r).length).2=(aJ R (r,(aJ R r).length).1).length))=true from decide_eq_true rfl,Bool.true_and]
 have hdone:∀it,nC R st.lk k n it=true->it=(it.1,(aJ R it.1).length):=fun it h=>by
  unfold nC at h;simp only[Bool.and_eq_true,decide_eq_true_eq]at h;rw[<-h.1]
 rw[adP,hz];unfold cellP;refine Prod.ext rfl (Prod.ext ?_ ?_)
 ·simp only[List.nil_append]
  rw[show ∀L:List It,(L.map fun it=>(it.1:Int))=(L.map fun it=>it.1).map fun n:Nat=>(n:Int) from fun L=>by rw[List.map_map];rfl];refine congrArg (List.map fun n:Nat=>(n:Int)) ?_;refine TU (lt:=(· < ·)) (fun _ _ _=>Nat.lt_trans) Nat.lt_irrefl ?_ ?_ fun x=> ?_
  ·rw[List.pairwise_map]
   refine List.Pairwise.imp_of_mem ?_ ((A.lD.EW k hk).filter _);intro a b ha hb hab;simp only[List.mem_filter,Bool.and_eq_true]at ha hb;have h1:=hdone a ha.2.1;have h2:=hdone b hb.2.1;rcases hab with h|⟨h,h'⟩
   ·exact h
   ·rw[h1,h2]at h'
    simp only[h]at h';exact absurd h' (Nat.lt_irrefl _)
  ·exact(List.pairwise_lt_range).filter _
  ·simp only[List.mem_map,List.mem_filter,Bool.and_eq_true,decide_eq_true_eq,List.mem_range]
   constructor
   ·rintro ⟨it,⟨h1,h2,h3⟩,rfl⟩
    have:=(A.lD.ok k hk it h1).1;have e:=hdone it h2;refine⟨by omega,(hin _).2 ?_⟩;rw[<-e];exact⟨h1,h2⟩
   ·rintro ⟨h1,h2⟩
    have h3:=(hin x).1 h2;exact⟨_,⟨h3.1,h3.2,by simp only;omega⟩,rfl⟩
 ·simp only[Bool.false_or]
  rw[Bool.eq_iff_iff];simp only[List.any_eq_true,Bool.and_eq_true,decide_eq_true_eq];constructor
  ·rintro ⟨it,h1,h2,h3⟩
   have e:=hdone it h2;rw[<-h3];refine(hin _).2 ?_;rw[<-e];exact⟨h1,h2⟩
  ·intro h
   have h3:=(hin R.length).1 h;exact⟨_,h3.1,h3.2,rfl⟩
theorem Vz(A:kG T N R OL NL Ls){k x:Nat}(hk:k<OL.length)(hx:x<T+N):Says (bF T NL) (k,dD T x) ((NL.getD k []).getD x 0):=by
 obtain⟨hl,hg⟩:=A.go k hk x hx;unfold Says;rw[BJ (by rw[hl];exact hx)];by_cases hex:∃i,Ls.getD k bG i/\jN T R i x
 ·obtain⟨n,e,_,_⟩:=hg.some hex
  rw[e,if_pos (Int.natCast_nonneg _)];exact .inl rfl
 ·have e:=hg.none hex
  rw[e,if_neg (by omega)];exact .inr ⟨rfl,rfl⟩
theorem adR(A:kG T N R OL NL Ls){k n:Nat}(hk:k<OL.length)(hn:n<=T):Says (bF T NL) (k,(true,(n:Int))) (if n<T then (NL.getD k []).getD n 0 else -1):=by
 by_cases h:n<T
 ·rw[if_pos h]
  have:=Vz A hk (x:=n) (by omega);unfold dD at this;rw[if_pos h]at this;exact this
 ·rw[if_neg h]
  refine .inr ⟨Nv fun x e=> ?_,rfl⟩;unfold dD at e;split at e
  ·simp only[Prod.mk.injEq,true_and]at e
   omega
  ·simp at e
theorem adS(A:kG T N R OL NL Ls){k n:Nat}(hk:k<OL.length)(hn:n<N):Says (bF T NL) (k,(false,(n:Int))) ((NL.getD k []).getD (T+n) 0):=by
 have:=Vz A hk (x:=T+n) (by omega);unfold dD at this;rw[if_neg (by omega)]at this;rw[show T+n-T=n by omega]at this;exact this
theorem adT{K:Nat}(hN:0<N)(A:kG T N R OL (ak T N R K).1 (ak T N R K).2)(hK:OL.length=K)(hF:∀n,((jg R (dO R N) T N).getD n []).length<=T)(H:Fj T N R OL (ak T N R K).1 (ak T N R K).2 (dO R N) (jg R (dO R N) T N) st):
 ((List.range OL.length).map fun k=>(List.range (T+1)).map fun n=>dx R st.lk k n (OL.getD k []) ((if n<T then ((ak T N R K).1.getD k []).getD n 0 else -1),[],false))=fU T N R K/\
 ((List.range OL.length).map fun k=>(List.range N).map fun n=>((ak T N R K).1.getD k []).getD (T+n) 0)=lY T N R K:=by
 constructor
 ·unfold fU rowP
  rw[hK];refine List.map_congr_left fun k hk=>List.map_congr_left fun n _=> ?_;exact adQ A hF H (by rw[hK];exact List.mem_range.1 hk) rfl
 ·unfold lY
  rw[hK];refine List.map_congr_left fun k hk=> ?_;have hk':=List.mem_range.1 hk;obtain⟨hl,_⟩:=A.go k (by omega) T (by omega);obtain⟨row,hrow⟩:∃row,(ak T N R K).1.getD k []=row:=⟨_,rfl⟩;rw[hrow]at hl⊢;refine List.ext_getElem (by simp[hl]) fun i h1 h2=> ?_;have hi:i<N:=by simpa using h1
  have hi2:T+i<row.length:=by omega
  simp[List.getD,hi2]
theorem adU{K:Nat}(hs:jO R OL (ak T N R K).2)(hK:OL.length=K)(h0:iP OL (0,(R.length,0)))(hsy:∀r,r<=R.length->∀s∈aJ R r,(s.1=true->0<=s.2/\s.2<(T:Int))/\(s.1=false->0<=s.2/\s.2<(N:Int))):kG T N R OL (ak T N R K).1 (ak T N R K).2/\Whole T N R K:=by
 have hW:Whole T N R K:=by
  unfold Whole;rw[<-hs.len];exact hK
 refine⟨⟨hs,fun k hk x hx=> ?_,fun k hk=> ?_,hsy,h0⟩,hW⟩
 ·exact Np (EQ hW) k (by omega) x hx
 ·have hl:k<(ak T N R K).2.length:=by rw[<-hs.len];exact hk
  refine TK (T:=T) (N:=N) K _ ?_;simp[List.getD,hl]
end
end Go.Proofs.YtpkmpkphfflpjaaGreat
namespace Go.Proofs.YtpkmpkphfflpjaaGreat
open Go.RowKit
section
variable{ι:Type}[DecidableEq ι]{c:dP ι}{gr:ι}{gb:Nat}
theorem adV{w:World}{B n nj:Nat}{i j:ι}{X:ι->List Bool}(h:Bt w B c X)(hM:Mark c gr gb)(hd:c.dom i=some n)(hdj:c.dom j=some nj)(hle:nj<=n)(hi:i≠gr)(hs:nj<=1000):
 Calls Tryz.prog 72 #[c.V i,c.V j,.func (.func 70) #[] #[.pointer (some ⟨gb,0,none⟩)]] w fun e w'=>e= .returned (.tuple #[])/\Bt w' B c (xD gr i j nj X)/\Kept c.K w w':=by
 obtain⟨ja,jc,Ol⟩:=Bt.slice h hdj;obtain⟨ia,ic,uY⟩:=Bt.slice h hd;have HB:Hid (Bt w B c X):=h;have HM:Hid (Mark c gr gb):=hM;have HV:Hid (c.V i= .slice ia n ic):=uY;have HJ:Hid (c.V j= .slice ja nj jc):=Ol;rw[uY,Ol];clear h uY Ol hM
 go_enter Tryz.func72,Tryz.ntmps72
 go_wp2_with fail
 go_loopw [10] (fun s wr=> ∃k:Nat,s= .int .i64 k/\k<=nj/\Bt wr B c (xD gr i j k X)/\Kept c.K w wr) (fun s _=>nj-(intOf s).toNat)
 case atStart=>exact⟨0,rfl,Nat.zero_le _,HB.out,Kept.refl _ _⟩
 case round=>
  obtain⟨k,rfl,hk,hB,hK⟩:=hrel;have uM:Hid (Bt wr B c (xD gr i j k X)):=hB;have HK:Hid (Kept c.K w wr):=hK;clear hB hK;by_cases hlt:k<nj
  ·obtain⟨g,cap,hv,_,_⟩:=Bt.form uM.out hdj (by omega)
   have hv':=HJ.out;rw[hv]at hv';cases hv';obtain⟨c1,_⟩:=Bt.cell uM.out hdj hv hlt;have j0:(0:Int)<=(k:Int):=Int.natCast_nonneg _;have j1:(k:Int)<(nj:Int):=by omega
   have put:=Iu uM.out HM.out hd (m:=k) (by omega) hi;rw[HV.out]at put;have HE:Hid (xD gr i j (k+1) X=if bit (xD gr i j k X) j k then iN gr (xD gr i j k X) i k else xD gr i j k X):=rfl;clear hv;cases hb:bit (xD gr i j k X) j k with
   |true=>
    rw[hb]at c1 HE;clear hb
    go_wp2_with (go_at_call 70;refine put.mono ?_;rintro e w2 ⟨rfl,hB2,hK2⟩)
    go_roundw
    case rel=>exact⟨k+1,by go_num,by omega,by rw[HE.out];exact hB2,HK.out.trans hK2⟩
    case measure=>simp[intOf];omega
   |false=>
    rw[hb]at c1 HE;clear hb put
    go_wp2_with fail
    go_roundw
    case rel=>exact⟨k+1,by go_num,by omega,by rw[HE.out];exact uM.out,HK.out⟩
    case measure=>simp[intOf];omega
  ·obtain rfl:k=nj:=by omega
   go_wp2_with fail
   go_end0
   exact⟨rfl,uM.out,HK.out⟩
end
inductive Iy where
 |null|gr
 |f (n:Nat)
 |g (n:Nat)
 deriving DecidableEq
abbrev Xs:=Iy->List Bool
def ko(X:Xs)(i:Iy)(m:Nat):Xs:=if bit X i m then X else bH (bH X i m true) .gr 0 true
def fK(i j:Iy)(n:Nat)(X:Xs):Xs:=bO n (fun m Y=>if bit Y j m then ko Y i m else Y) X
def bM(T:Nat)(i:Iy):List Sy->Xs->Xs×Bool
 | [],X=>(X,true)
 |s::l,X=>if s.1 then (ko X i s.2.toNat,false) else
  if bit (fK i (.f s.2.toNat) T X) .null s.2.toNat then bM T i l (fK i (.f s.2.toNat) T X) else (fK i (.f s.2.toNat) T X,false)
def di(T N:Nat):Iy->Option Nat
 | .null=>some N
 | .gr=>some 1
 | .f n=>if n<N then some T else none
 | .g n=>if n<N then some (T+1) else none
def aL(T N:Nat)(nv:Value)(vf vg:Nat->Value)(gb:Nat):dP Iy:=
 ⟨fun| .null=>nv| .gr=> .slice (some ⟨gb,0,none⟩) 1 1| .f n=>vf n| .g n=>vg n,di T N⟩
def ku(w:World)(K:Nat->Prop)(N:Nat)(fv:Value)(vs:Nat->Value):Prop:=
 (∃a c,fv= .slice a N c)/\∀n,n<N->∃g c,fv= .slice (some ⟨g,0,none⟩) N c/\¬K g/\w.cell? ⟨g,n,none⟩=some (vs n)
theorem ku.kept{w w':World}{K:Nat->Prop}{N:Nat}{fv:Value}{vs:Nat->Value}(h:ku w K N fv vs)(hk:Kept K w w'):ku w' K N fv vs:=
 ⟨h.1,fun n hn=>let ⟨g,c,h1,h2,h3⟩:=h.2 n hn;⟨g,c,h1,h2,hk.cell h2 h3⟩⟩
section
variable{T N:Nat}{nv:Value}{vf vg:Nat->Value}{gb:Nat}
theorem Om(T N:Nat)(nv:Value)(vf vg:Nat->Value)(gb:Nat):Mark (aL T N nv vf vg gb) .gr gb:=⟨rfl,rfl⟩
theorem VA{w:World}{B n m:Nat}{i:Iy}{X:Xs}(h:Bt w B (aL T N nv vf vg gb) X)(hd:di T N i=some n)(hm:m<n)(hi:i≠ .gr):
 Calls Tryz.prog 70 #[(aL T N nv vf vg gb).V i,.int .i64 m,.pointer (some ⟨gb,0,none⟩)] w fun e w'=>e= .returned (.tuple #[])/\Bt w' B (aL T N nv vf vg gb) (ko X i m)/\Kept (aL T N nv vf vg gb).K w w':=Iu h (Om T N nv vf vg gb) hd hm hi
theorem VB{w:World}{B n nj:Nat}{i j:Iy}{X:Xs}(h:Bt w B (aL T N nv vf vg gb) X)(hd:di T N i=some n)(hdj:di T N j=some nj)(hle:nj<=n)(hi:i≠ .gr)(hs:nj<=1000):
 Calls Tryz.prog 72 #[(aL T N nv vf vg gb).V i,(aL T N nv vf vg gb).V j,.func (.func 70) #[] #[.pointer (some ⟨gb,0,none⟩)]] w fun e w'=>e= .returned (.tuple #[])/\Bt w' B (aL T N nv vf vg gb) (fK i j nj X)/\Kept (aL T N nv vf vg gb).K w w':=adV h (Om T N nv vf vg gb) hd hdj hle hi hs
theorem VD{w:World}{B n lc gl gc:Nat}{fv:Value}{la ga:Option Addr}{i:Iy}{X:Xs}{l:List Sy}(h:Bt w B (aL T N nv vf vg gb) X)(hB:B<=w.heap.size)(hd:di T N i=some n)(xZ:T<=n)(hi:i≠ .gr)
 (hF:ku w (aL T N nv vf vg gb).K N fv vf) (hl:iq w B la l) (hin:∀s∈l,0<=s.2/\s.2<if s.1 then (T:Int) else (N:Int)) (hT:T<=1000) (h8:l.length<=1000):
 Calls Tryz.prog 71 #[.agg #[nv,fv,.slice ga gl gc],(aL T N nv vf vg gb).V i,.slice la l.length lc,.func (.func 70) #[] #[.pointer (some ⟨gb,0,none⟩)]] w fun e w'=>
  e= .returned (.bool (bM T i l X).2)/\Bt w' B (aL T N nv vf vg gb) (bM T i l X).1/\Kept (aL T N nv vf vg gb).K w w':=by
 obtain⟨ia,ic,uY⟩:=Bt.slice h hd;obtain⟨na,nc,tN⟩:=Bt.slice (i:=Iy.null) (n:=N) h rfl;have zS:nv= .slice na N nc:=tN;clear tN;obtain⟨fa,fc,qF⟩:=hF.1;subst zS;subst qF;have HB:Hid (Bt w B (aL T N (.slice na N nc) vf vg gb) X):=h;have HV:Hid ((aL T N (.slice na N nc) vf vg gb).V i= .slice ia n ic):=uY;have HF:Hid (ku w (aL T N (.slice na N nc) vf vg gb).K N (.slice fa N fc) vf):=hF;have HL:Hid (iq w B la l):=hl;have HI:Hid (∀s∈l,0<=s.2/\s.2<if s.1 then (T:Int) else (N:Int)):=hin;rw[uY];clear h uY hF hl hin
 go_enter Tryz.func71,Tryz.ntmps71
 go_wp2_with fail
 go_loopw [13] (fun s wr=> ∃k:Nat,s= .int .i64 k/\k<=l.length/\∃Y,bM T i l X=bM T i (l.drop k) Y/\Bt wr B (aL T N (.slice na N nc) vf vg gb) Y/\
  Kept (aL T N (.slice na N nc) vf vg gb).K (w.alloc (.cells #[.slice na N nc,.slice fa N fc,.slice ga gl gc] 84)) wr) (fun s _=>l.length-(intOf s).toNat)
 case atStart=>exact⟨0,rfl,Nat.zero_le _,X,rfl,Bt.alloc HB.out _,Kept.refl _ _⟩
 case round=>
  obtain⟨k,rfl,hk,Y,hY,hBr,hKr⟩:=hrel;have HY:Hid (bM T i l X=bM T i (l.drop k) Y):=hY;have iC:Hid (Bt wr B (aL T N (.slice na N nc) vf vg gb) Y):=hBr;have mZ:Hid (Kept (aL T N (.slice na N nc) vf vg gb).K (w.alloc (.cells #[.slice na N nc,.slice fa N fc,.slice ga gl gc] 84)) wr):=hKr;have pR:Hid (Kept (aL T N (.slice na N nc) vf vg gb).K w wr):=((Kept.refl _ _).alloc _).trans hKr;have hsz:w.heap.size+1<=wr.heap.size:=by have:=hKr.size;simpa using this
  have b0:wr.cell? ⟨w.heap.size,0,none⟩=some (.slice na N nc):=hKr.cell (Bt.iV HB.out (Nat.le_refl _)) (by simp[go_sem]);have b1:wr.cell? ⟨w.heap.size,1,none⟩=some (.slice fa N fc):=hKr.cell (Bt.iV HB.out (Nat.le_refl _)) (by simp[go_sem]);have xE:Hid (Below B w wr):=pR.out.below (fun b hb=>Bt.ge HB.out hb) hB;clear hY hBr hKr;by_cases hlt:k<l.length
  ·obtain⟨b',o',eF,hb',k3,k4⟩:=HL.out k hlt
   subst eF;have hmem:l.getD k (false,0)∈l:=by simp[List.getD,hlt]
   have hin:=HI.out _ hmem;have hdrop:l.drop k=l.getD k (false,0)::l.drop (k+1):=by rw[List.drop_eq_getElem_cons hlt];simp[List.getD,hlt]
   obtain⟨⟨t,v⟩,hsy⟩:∃x,l.getD k (false,0)=x:=⟨_,rfl⟩;rw[hsy]at k3 k4 hin hdrop;simp only at hin;obtain⟨y,rfl⟩:∃y:Nat,v=y:=⟨v.toNat,by omega⟩;have Er:wr.cell? ⟨b',o'+k*2,none⟩=some (.bool t):=(xE.out.cell (p:=⟨b',o'+k*2,none⟩) hb').trans k3;have yT:wr.cell? ⟨b',o'+k*2+1,none⟩=some (.int .i64 y):=by rw[Nat.add_assoc];exact(xE.out.cell (p:=⟨b',o'+(k*2+1),none⟩) hb').trans k4
   have j0:(0:Int)<=(k:Int):=Int.natCast_nonneg _;have j1:(k:Int)<(l.length:Int):=by omega
   have m0:(wr.alloc (.cells #[.bool t,.int .i64 y] 104)).cell? ⟨w.heap.size,0,none⟩=some (.slice na N nc):=by rw[World.cell?_alloc_past _ _ _ (by omega)];exact b0
   have m1:(wr.alloc (.cells #[.bool t,.int .i64 y] 104)).cell? ⟨w.heap.size,1,none⟩=some (.slice fa N fc):=by rw[World.cell?_alloc_past _ _ _ (by omega)];exact b1
   have HA:Hid (Bt (wr.alloc (.cells #[.bool t,.int .i64 y] 104)) B (aL T N (.slice na N nc) vf vg gb) Y):=Bt.alloc iC.out _;have ni:Hid (Kept (aL T N (.slice na N nc) vf vg gb).K w (wr.alloc (.cells #[.bool t,.int .i64 y] 104))):=pR.out.alloc _;have HD:Hid (l.drop k=(t,(y:Int))::l.drop (k+1)):=hdrop;clear hmem hsy k3 k4 b0 b1 hdrop;cases t with
   |true=>
    have hyT:y<T:=by simp at hin;omega
    have put:=VA HA.out hd (m:=y) (by omega) hi;rw[HV.out]at put
    have HP:Hid (bM T i l X=(ko Y i y,false)):=by
     show bM T i l X=_;rw[HY.out,HD.out];simp[bM]
    clear hin
    go_wp2_with (go_at_call 70;refine put.mono ?_;rintro e w2 ⟨rfl,hB2,hK2⟩)
    go_ret;exact⟨by rw[HP.out];rfl,by rw[HP.out];exact hB2,ni.out.trans hK2⟩
   |false=>
    have wD:y<N:=by simp at hin;omega
    have all:=VB (i:=i) (j:= .f y) (nj:=T) HA.out hd (by simp[di,wD]) xZ hi hT;rw[HV.out]at all;have all':Calls Tryz.prog 72 #[.slice ia n ic,vf y,.func (.func 70) #[] #[.pointer (some ⟨gb,0,none⟩)]] _ _:=all;obtain⟨fg,fc',hfe,hnK,k5⟩:=HF.out.2 y wD;cases hfe;have k6:(wr.alloc (.cells #[.bool false,.int .i64 y] 104)).cell? ⟨fg,y,none⟩=some (vf y):=ni.out.cell hnK k5;have j2:(0:Int)<=(y:Int):=Int.natCast_nonneg _;have j3:(y:Int)<(N:Int):=by omega
    have HP:Hid (bM T i l X=if bit (fK i (.f y) T Y) .null y then bM T i (l.drop (k+1)) (fK i (.f y) T Y) else (fK i (.f y) T Y,false)):=by
     show bM T i l X=_;rw[HY.out,HD.out];simp[bM]
    clear hin k5 all;cases hz:bit (fK i (.f y) T Y) .null y with
    |true=>
     rw[hz]at HP;have HZ:Hid (bit (fK i (.f y) T Y) .null y=true):=hz;clear hz
     go_wp2_with
      (go_at_call 72;refine all'.mono ?_;rintro e w2 ⟨rfl,hB2,hK2⟩
       have n0:=hK2.cell (p:=⟨w.heap.size,0,none⟩) (Bt.iV HB.out (Nat.le_refl _)) m0;have n2:=hK2.cell (p:=⟨wr.heap.size,1,none⟩) (Bt.iV iC.out (Nat.le_refl _)) (v:= .int .i64 y) (by simp[go_sem]);obtain⟨ng,nc',hne,_,_⟩:=Bt.form (i:=Iy.null) (n:=N) hB2 rfl (by omega);cases hne;obtain⟨n3,_⟩:=Bt.cell (i:=Iy.null) (n:=N) hB2 rfl rfl wD;rw[HZ.out]at n3;have HB2:Hid (Bt w2 B _ _):=hB2;have fC:Hid (Kept _ _ w2):=hK2
       clear hB2 hK2)
     go_roundw
     case rel=>exact⟨k+1,by go_num,by omega,_,HP.out,HB2.out,(mZ.out.alloc _).trans fC.out⟩
     case measure=>simp[intOf];omega
    |false=>
     rw[hz]at HP;have HZ:Hid (bit (fK i (.f y) T Y) .null y=false):=hz;clear hz
     go_wp2_with
      (go_at_call 72;refine all'.mono ?_;rintro e w2 ⟨rfl,hB2,hK2⟩
       have n0:=hK2.cell (p:=⟨w.heap.size,0,none⟩) (Bt.iV HB.out (Nat.le_refl _)) m0;have n2:=hK2.cell (p:=⟨wr.heap.size,1,none⟩) (Bt.iV iC.out (Nat.le_refl _)) (v:= .int .i64 y) (by simp[go_sem]);obtain⟨ng,nc',hne,_,_⟩:=Bt.form (i:=Iy.null) (n:=N) hB2 rfl (by omega);cases hne;obtain⟨n3,_⟩:=Bt.cell (i:=Iy.null) (n:=N) hB2 rfl rfl wD;rw[HZ.out]at n3;have HB2:Hid (Bt w2 B _ _):=hB2;have fC:Hid (Kept _ _ w2):=hK2
       clear hB2 hK2)
     go_ret;exact⟨by rw[HP.out];rfl,by rw[HP.out];exact HB2.out,ni.out.trans fC.out⟩
  ·obtain rfl:k=l.length:=by omega
   have HP:Hid (bM T i l X=(Y,true)):=by
    show bM T i l X=_;rw[HY.out,List.drop_length];rfl
   go_wp2_with fail
   go_ret;exact⟨by rw[HP.out];rfl,by rw[HP.out];exact iC.out,pR.out⟩
end
end Go.Proofs.YtpkmpkphfflpjaaGreat
