import Derived.Test.YtpkmpkphfflpjaaGreatMem8AndDerMath
import Derived.Test.YtpkmpkphfflpjaaGreatDerdMathAndOne8Mem
set_option maxHeartbeats 6400000
set_option maxRecDepth 100000
namespace Go.Proofs.YtpkmpkphfflpjaaGreat
open Go.RowKit
def iH(lv:Value)(RL:List (Value×Ru)):Option Nat->Option Row
 |none=>some ⟨lv,79,2,RL.length,dN RL⟩
 |some k=>(RL[k]?).map fun x=>⟨x.1,104,2,x.2.2.length,bC x.2.2⟩
section
variable{w w5 w6:World}{B:Nat}{lv nv v:Value}{RL:List (Value×Ru)}{L:Int}{l:List Sy}
theorem Ky{k:Nat}{a:Row}(h:iH lv RL (some k)=some a):∃hk:k<RL.length,a=⟨RL[k].1,104,2,RL[k].2.2.length,bC RL[k].2.2⟩:=by
 change (RL[k]?).map (fun x=>(⟨x.1,104,2,x.2.2.length,bC x.2.2⟩:Row))=some a at h;by_cases hk:k<RL.length
 ·rw[List.getElem?_eq_getElem hk]at h
  simp only[Option.map_some,Option.some.injEq]at h;exact⟨hk,h.symm⟩
 ·rw[List.getElem?_eq_none (by omega)]at h
  simp at h
theorem tV{k:Nat}(hk:k<RL.length):iH lv RL (some k)=some ⟨RL[k].1,104,2,RL[k].2.2.length,bC RL[k].2.2⟩:=by
 change (RL[k]?).map (fun x=>(⟨x.1,104,2,x.2.2.length,bC x.2.2⟩:Row))=_;rw[List.getElem?_eq_getElem hk];rfl
theorem P5(w:World)(B:Nat):au w B (iH (.slice none 0 0) []):=by
 refine⟨fun i r hr=> ?_,fun i j a b hij ha hb g h1 h2=> ?_⟩
 ·cases i with
  |none=>cases hr;exact World.ownsRow_nil _ _ _ _
  |some k=>obtain⟨hk,_⟩:=Ky hr;simp at hk
 ·cases i with
  |none=>cases ha;cases h1
  |some k=>obtain⟨hk,_⟩:=Ky ha;simp at hk
theorem au.pY(h:au w B (iH lv RL)):w.ownsRow B 79 2 lv RL.length (dN RL):=h.own none _ rfl
theorem au.yH(h:au w B (iH lv RL)){k:Nat}(hk:k<RL.length):w.ownsRow B 104 2 RL[k].1 RL[k].2.2.length (bC RL[k].2.2):=h.own (some k) _ (tV hk)
theorem au.P6(h:au w B (iH lv RL))(hB:B<=w.heap.size)(hb:Below w.heap.size w w5)(ho:w5.ownsRow w.heap.size 104 2 v l.length (bC l))(hg:w5.grownBy w6 lv.ownBlock)(hn:w6.ownsRow B 79 2 nv (RL.length+1) (dN (RL++[(v,(L,l))])))(hat:∀g,nv.ownBlock=some g->lv.ownBlock=some g\/w5.heap.size<=g):au w6 B (iH nv (RL++[(v,(L,l))])):=by
 have hs5:=hb.size;have hlv:∀g,lv.ownBlock=some g->g<w.heap.size:=fun g hg=>(h.pY.lt g hg).2
 have old:∀k (hk:k<RL.length),w6.ownsRow B 104 2 RL[k].1 RL[k].2.2.length (bC RL[k].2.2):=fun k hk=>by
  refine(own_below (h.yH hk) hb fun g hg=>(((h.yH hk).lt g hg).2)).kept hg ?_;cases e:RL[k].1.ownBlock with
  |none=>exact .inl rfl
  |some g=>exact .inr fun e'=>h.apart (some k) none _ _ (by simp) (tV hk) rfl g e e'.symm
 have new:w6.ownsRow w.heap.size 104 2 v l.length (bC l):=by
  refine ho.kept hg ?_;cases e:v.ownBlock with
  |none=>exact .inl rfl
  |some g=>exact .inr fun e'=>by have:=hlv g e'.symm;have:=(ho.lt g e).1;omega
 have cases':∀{k:Nat} {a:Row},iH nv (RL++[(v,(L,l))]) (some k)=some a->(∃hk:k<RL.length,a=⟨RL[k].1,104,2,RL[k].2.2.length,bC RL[k].2.2⟩)\/(k=RL.length/\a=⟨v,104,2,l.length,bC l⟩):=fun {k a} hr=>by
  obtain⟨hk,e⟩:=Ky hr;rcases Nat.lt_or_ge k RL.length with hlt|hge
  ·refine .inl ⟨hlt,?_⟩
   simp only[List.getElem_append_left hlt]at e;exact e
  ·have:k=RL.length:=by simp at hk;omega
   subst this;refine .inr ⟨rfl,?_⟩;simpa using e
 have P7:∀{k:Nat} {a:Row},iH nv (RL++[(v,(L,l))]) (some k)=some a->∀g,a.v.ownBlock=some g->nv.ownBlock=some g->False:=fun {k a} ha g h1 h2=>by
  rcases cases' ha with⟨hk,rfl⟩|⟨_,rfl⟩
  ·have hlt:=((h.yH hk).lt g h1).2
   rcases hat g h2 with e|e
   ·exact h.apart (some k) none _ _ (by simp) (tV hk) rfl g h1 e
   ·omega
  ·have hl1:=(ho.lt g h1)
   rcases hat g h2 with e|e
   ·have:=hlv g e;omega
   ·omega
 refine⟨fun i r hr=> ?_,fun i j a b hij ha hb' g h1 h2=> ?_⟩
 ·cases i with
  |none=>
   cases hr;simp only[List.length_append,List.length_singleton];exact hn
  |some k=>
   rcases cases' hr with⟨hk,rfl⟩|⟨_,rfl⟩
   ·exact old k hk
   ·exact jE new hB
 ·cases i with
  |none=>
   cases j with
   |none=>exact hij rfl
   |some k=>cases ha;exact P7 hb' g h2 h1
  |some k=>
   cases j with
   |none=>cases hb';exact P7 ha g h1 h2
   |some k'=>
    rcases cases' ha with⟨hk,rfl⟩|⟨e1,rfl⟩
    ·rcases cases' hb' with⟨hk',rfl⟩|⟨_,rfl⟩
     ·exact h.apart (some k) (some k') _ _ hij (tV hk) (tV hk') g h1 h2
     ·have:=((h.yH hk).lt g h1).2
      have:=(ho.lt g h2).1;omega
    ·rcases cases' hb' with⟨hk',rfl⟩|⟨e2,rfl⟩
     ·have:=((h.yH hk').lt g h2).2
      have:=(ho.lt g h1).1;omega
     ·exact hij (by rw[e1,e2])
theorem au.CX(h:au w B (iH lv RL)):bA w B lv RL:=by
 refine⟨h.pY,fun x hx=> ?_⟩;obtain⟨k,hk,rfl⟩:=List.getElem_of_mem hx;refine(wK (h.yH hk)).kept (Nat.le_refl _) fun b hA _=>⟨rfl,hA.2,fun e=> ?_⟩;exact h.apart (some k) none _ _ (by simp) (tV hk) rfl b hA.1 e
end
theorem Ao(RL:List (Value×Ru))(v:Value)(L:Int)(l:List Sy):dN (RL++[(v,(L,l))])=dN RL++[.int .i64 L,v]:=by rw[Kw];rfl
theorem Ap{w:World}{L:Int}{va:Option Addr}{n d:Nat}:dI (w.alloc (.cells #[.int .i64 L,.slice va n d] 79)) (.slice (some ⟨w.heap.size,0,none⟩) 1 1) 1 [.int .i64 L,.slice va n d]:=
 ⟨⟨_,_,rfl,Nat.le_refl _⟩,rfl,by simp[Value.oneCell'],fun _=>⟨_,_,rfl,World.news_of_block (cs:= #[.int .i64 L,.slice va n d]) (t:=79) (fr:=(0,0)) (heap_alloc_new w _)⟩⟩
theorem Gj{w:World}{T N:Int}{ra:Option Addr}{rc:Nat}{op a b c:Int}{R:List Ru}(hr:aD w w.heap.size (.slice ra R.length rc) R)(hl:R.length<=1000)(hl2:∀q,q<R.length->(R.getD q (0,[])).2.length<=1000):
 Calls Tryz.prog 134 #[.agg #[.int .i64 T,.int .i64 N,.slice ra R.length rc,.int .i64 op,.int .i64 a,.int .i64 b,.int .i64 c]] w fun e w'=> ∃lv RL,e= .returned lv/\au w' w.heap.size (iH lv RL)/\(RL.map fun x=>x.2)=R/\Below w.heap.size w w':=by
 have HR:Hid (aD w w.heap.size (.slice ra R.length rc) R):=hr;have H2:Hid (∀q,q<R.length->(R.getD q (0,[])).2.length<=1000):=hl2;clear hr hl2;have hB1:Below w.heap.size w (w.alloc (.cells #[.int .i64 T,.int .i64 N,.slice ra R.length rc,.int .i64 op,.int .i64 a,.int .i64 b,.int .i64 c] 60)):=(Below.refl _ _).alloc (Nat.le_refl _) _;have HB1:Hid (Below w.heap.size w (w.alloc (.cells #[.int .i64 T,.int .i64 N,.slice ra R.length rc,.int .i64 op,.int .i64 a,.int .i64 b,.int .i64 c] 60))):=hB1;clear hB1
 go_enter Tryz.func134,Tryz.ntmps134
 go_wp2_with fail
 go_loopw [3,10] (fun s3 s10 wr=> ∃(k:Nat) (lv:Value) (RL:List (Value×Ru)),lv=s3/\s10= .int .i64 k/\k<=R.length/\RL.length=k/\(RL.map fun x=>x.2)=R.take k/\au wr w.heap.size (iH lv RL)/\Below w.heap.size w wr) (fun _ s _=>R.length-(intOf s).toNat)
 case atStart=>exact⟨0,_,[],rfl,rfl,Nat.zero_le _,rfl,rfl,P5 _ _,HB1.out⟩
 case round=>
  obtain⟨k,lv,RL,rfl,rfl,hk,hlen,hmap,hO,hB⟩:=hrel;have HB:Hid (Below w.heap.size w wr):=hB;have HO:Hid (au wr w.heap.size (iH lv RL)):=hO;have HM:Hid ((RL.map fun x=>x.2)=R.take k/\RL.length=k):=⟨hmap,hlen⟩;by_cases hlt:k<R.length
  ·obtain⟨b0,o0,nX,qa,qc,hv,_,k1,k2,hsy⟩:=(HR.out.below hB).jF hlt
   cases hv;have lJ:=H2.out k hlt;obtain⟨⟨L,l⟩,hx⟩:∃x,R.getD k (0,[])=x:=⟨_,rfl⟩;rw[hx]at k1 k2 hsy lJ;simp only at k1 k2 hsy lJ;obtain⟨n,hn⟩:∃n,l.length=n:=⟨_,rfl⟩;rw[hn]at k2 hsy lJ
   have HX:Hid (R.take (k+1)=R.take k++[(L,l)]/\l.length=n):=by
    refine⟨?_,hn⟩;rw[List.take_succ_eq_append_getElem hlt]
    congr 2
    rw[<-hx];simp[List.getD,hlt]
   obtain⟨W1,hW1⟩:∃W,wr.alloc (.cells #[.int .i64 L,.slice qa n qc] 79)=W:=⟨_,rfl⟩;have hB2:Below wr.heap.size wr W1:=by rw[<-hW1];exact(Below.refl _ _).alloc (Nat.le_refl _) _
   have HB2:Hid (Below wr.heap.size wr W1):=hB2;have d0:W1.cell? ⟨wr.heap.size,0,none⟩=some (.int .i64 L):=by rw[<-hW1];simp[go_sem]
   have d1:W1.cell? ⟨wr.heap.size,1,none⟩=some (.slice qa n qc):=by rw[<-hW1];simp[go_sem]
   have cop:=PW (w:=W1) (L:=L) (lv:= .slice qa n qc) (l:=l) (hsy.same (iT hB2)) (by omega);rw[hn]at cop;have i0:(0:Int)<=(k:Int):=Int.natCast_nonneg _;have i1:(k:Int)<(R.length:Int):=by omega
   clear hB hO hmap hx hn hsy hB2 hlen
   go_wp2_with
    (first
     |(go_at_call 137;refine cop.mono ?_;rintro e w3 ⟨ga,d,rfl,hown,hB3⟩
       have hrow:dI (w3.alloc (.cells #[.int .i64 L,.slice ga n d] 79)) (.slice (some ⟨w3.heap.size,0,none⟩) 1 1) 1 [.int .i64 L,.slice ga n d]:=Ap;have hB4:Below wr.heap.size wr (w3.alloc (.cells #[.int .i64 L,.slice ga n d] 79)):=(HB2.out.trans (hB3.mono HB2.out.size)).alloc (Nat.le_trans HB2.out.size hB3.size) _;have d9:=own_below HO.out.pY hB4 fun g hg=>(HO.out.pY.lt g hg).2;have hb4:w.heap.size<=(w3.alloc (.cells #[.int .i64 L,.slice ga n d] 79)).heap.size:=Nat.le_trans HB.out.size hB4.size;have Kz:RL.length+1<=100000:=by rw[HM.out.2];omega
       clear cop)
     |(at_builtin
       refine CQ rfl _ _ rfl rfl rfl rfl d9 hrow hb4 Kz ?_
       intro a' d' w6 hown6 hgrow hat))
   go_roundw
   case rel=>
    refine⟨k+1,_,RL++[(.slice ga n d,(L,l))],rfl,by go_num,by omega,by rw[List.length_append,HM.out.2];rfl,by rw[List.map_append,HM.out.1,HX.out.1];rfl,?_,?_⟩
    ·refine HO.out.P6 (w5:=w3.alloc (.cells #[.int .i64 L,.slice ga n d] 79)) HB.out.size hB4 ?_ hgrow ?_ (fun g hg=>(hat g hg).imp id fun e=>by omega)
     ·rw[HX.out.2]
      exact jE (hown.alloc _) HB2.out.size
     ·rw[Ao]
      exact hown6
    ·exact(HB.out.trans (hB4.mono HB.out.size)).grown hgrow hb4 fun g hg=>(d9.lt g hg).1
   case measure=>simp[intOf];omega
  ·have hkk:k=R.length:=by omega
   clear hB hO hmap hlen
   go_wp2_with fail
   go_ret;exact⟨_,RL,rfl,HO.out,by rw[HM.out.1,hkk,List.take_length],HB.out⟩
section
variable{w:World}{b:Nat}{u0 u1 u2 v0 v1 v2:Value}
theorem tX(h0:w.cell? ⟨b,0,none⟩=some u0):(((w.setCell ⟨b,0,none⟩ v0).setCell ⟨b,1,none⟩ v1).setCell ⟨b,2,none⟩ v2).cell? ⟨b,0,none⟩=some v0:=by
 rw[dH (.inr (by simp)),dH (.inr (by simp))];exact World.cell?_setCell_same _ _ _ h0
theorem tY(h1:w.cell? ⟨b,1,none⟩=some u1):(((w.setCell ⟨b,0,none⟩ v0).setCell ⟨b,1,none⟩ v1).setCell ⟨b,2,none⟩ v2).cell? ⟨b,1,none⟩=some v1:=by
 rw[dH (.inr (by simp))];exact World.cell?_setCell_same _ _ _ ((dH (.inr (by simp))).trans h1)
theorem tZ(h2:w.cell? ⟨b,2,none⟩=some u2):(((w.setCell ⟨b,0,none⟩ v0).setCell ⟨b,1,none⟩ v1).setCell ⟨b,2,none⟩ v2).cell? ⟨b,2,none⟩=some v2:=
 World.cell?_setCell_same _ _ _ ((dH (.inr (by simp))).trans ((dH (.inr (by simp))).trans h2))
theorem bA.oV{B:Nat}{lv:Value}{RL:List (Value×Ru)}(h:bA w B lv RL){a:Addr}(ha:a.block<B)(u:Value):bA (w.setCell a u) B lv RL:=
 ⟨yF h.own ha u,fun x hx=>(h.sym x hx).kept (by simp) fun b hA _=>⟨Below.heap_setCell _ _ _ _ (by have:=hA.1;omega),hA⟩⟩
end
theorem Ya{w:World}{T N:Int}{ra:Option Addr}{rc:Nat}{op a b c:Int}{R:List Ru}{sv:Value}{IX:List Int}(hr:aD w w.heap.size (.slice ra R.length rc) R)(hl2:∀q,q<R.length->(R.getD q (0,[])).2.length<=1000)(hS:aH w w.heap.size sv IX)(P8:∀k,k<IX.length->0<=IX.getD k 0/\IX.getD k 0<(R.length:Int))(hl:IX.length<=1000):
 Calls Tryz.prog 161 #[.agg #[.int .i64 T,.int .i64 N,.slice ra R.length rc,.int .i64 op,.int .i64 a,.int .i64 b,.int .i64 c,sv]] w fun e w'=> ∃lv RL,e= .returned (.agg #[.int .i64 T,.int .i64 N,lv])/\bA w' w.heap.size lv RL/\(RL.map fun x=>x.2)=IX.map (fun i=>R.getD i.toNat (0,[]))/\Below w.heap.size w w':=by
 obtain⟨sa,sc,hsv⟩:=hS.1;subst hsv;have HR:Hid (aD w w.heap.size (.slice ra R.length rc) R):=hr;have H2:Hid (∀q,q<R.length->(R.getD q (0,[])).2.length<=1000):=hl2;have HS:Hid (aH w w.heap.size (.slice sa IX.length sc) IX):=hS;have HI:Hid (∀k,k<IX.length->0<=IX.getD k 0/\IX.getD k 0<(R.length:Int)):=P8;clear hr hl2 hS P8;obtain⟨W0,hW0⟩:∃W,(w.alloc (.cells #[.int .i64 T,.int .i64 N,.slice ra R.length rc,.int .i64 op,.int .i64 a,.int .i64 b,.int .i64 c,.slice sa IX.length sc] 119)).alloc (.cells #[.int .i64 0,.int .i64 0,.slice none 0 0] 24)=W:=⟨_,rfl⟩
 have HB0:Hid (Below w.heap.size w W0/\W0.heap.size=w.heap.size+2):=by
  refine⟨?_,?_⟩
  ·rw[<-hW0];exact((Below.refl _ _).alloc (Nat.le_refl _) _).alloc (by simp) _
  ·rw[<-hW0];simp
 have HC:Hid (∀wq,Below W0.heap.size W0 wq->wq.cell? ⟨w.heap.size,0,none⟩=some (.int .i64 T)/\wq.cell? ⟨w.heap.size,1,none⟩=some (.int .i64 N)/\wq.cell? ⟨w.heap.size,2,none⟩=some (.slice ra R.length rc)/\wq.cell? ⟨w.heap.size,3,none⟩=some (.int .i64 op)/\wq.cell? ⟨w.heap.size,4,none⟩=some (.int .i64 a)/\wq.cell? ⟨w.heap.size,5,none⟩=some (.int .i64 b)/\wq.cell? ⟨w.heap.size,6,none⟩=some (.int .i64 c)/\wq.cell? ⟨w.heap.size,7,none⟩=some (.slice sa IX.length sc)/\
  wq.cell? ⟨w.heap.size+1,0,none⟩=some (.int .i64 0)/\wq.cell? ⟨w.heap.size+1,1,none⟩=some (.int .i64 0)/\wq.cell? ⟨w.heap.size+1,2,none⟩=some (.slice none 0 0)/\(∀o,wq.frozen? ⟨w.heap.size+1,o,none⟩=false)/\aD wq w.heap.size (.slice ra R.length rc) R/\aH wq w.heap.size (.slice sa IX.length sc) IX/\Below w.heap.size w wq):=fun wq hq=>by
  have hz:=HB0.out.2;have hB:Below w.heap.size w wq:=HB0.out.1.trans (hq.mono (by omega));have cell:∀b o u,b<W0.heap.size->W0.cell? ⟨b,o,none⟩=some u->wq.cell? ⟨b,o,none⟩=some u:=fun b o u hb hu=>(hq.cell hb).trans hu;refine⟨cell _ _ _ (by omega) ?_,cell _ _ _ (by omega) ?_,cell _ _ _ (by omega) ?_,cell _ _ _ (by omega) ?_,cell _ _ _ (by omega) ?_,cell _ _ _ (by omega) ?_,cell _ _ _ (by omega) ?_,cell _ _ _ (by omega) ?_,cell _ _ _ (by omega) ?_,cell _ _ _ (by omega) ?_,cell _ _ _ (by omega) ?_,fun o=>(hq.frozen (by simp only;omega)).trans ?_,HR.out.below hB,HS.out.below hB,hB⟩<;>(rw[<-hW0];simp[go_sem])
 have x7:=(HC.out W0 (Below.refl _ _)).2.2.2.2.2.2.2.1
 go_enter Tryz.func161,Tryz.ntmps161
 go_wp2_with fail
 clear hW0 x7
 go_loopw [3,9] (fun s3 s9 wr=> ∃(k:Nat) (lv:Value) (RL:List (Value×Ru)),lv=s3/\s9= .int .i64 k/\k<=IX.length/\RL.length=k/\(RL.map fun x=>x.2)=(IX.take k).map (fun i=>R.getD i.toNat (0,[]))/\au wr W0.heap.size (iH lv RL)/\Below W0.heap.size W0 wr) (fun _ s _=>IX.length-(intOf s).toNat)
 case atStart=>exact⟨0,_,[],rfl,rfl,Nat.zero_le _,rfl,rfl,P5 _ _,Below.refl _ _⟩
 case round=>
  obtain⟨k,lv,RL,rfl,rfl,hk,hlen,hmap,hO,hB⟩:=hrel;have HB:Hid (Below W0.heap.size W0 wr):=hB;have HO:Hid (au wr W0.heap.size (iH lv RL)):=hO;have HM:Hid ((RL.map fun x=>x.2)=(IX.take k).map (fun i=>R.getD i.toNat (0,[]))/\RL.length=k):=⟨hmap,hlen⟩;have hC:=HC.out wr hB;by_cases hlt:k<IX.length
  ·obtain⟨sb,so,_,hv,_,s1⟩:=hC.2.2.2.2.2.2.2.2.2.2.2.2.2.1.2 k hlt
   cases hv;obtain⟨hi0,hi1⟩:=HI.out k hlt;obtain⟨i,hi⟩:∃i,IX.getD k 0=i:=⟨_,rfl⟩;rw[hi]at hi0 hi1 s1;obtain⟨q,rfl⟩:∃q:Nat,i=q:=⟨i.toNat,by omega⟩;have hq:q<R.length:=by omega
   obtain⟨b0,o0,nX,qa,qc,hv,_,k1,k2,hsy⟩:=hC.2.2.2.2.2.2.2.2.2.2.2.2.1.jF hq;cases hv;have lJ:=H2.out q hq;obtain⟨⟨L,l⟩,hx⟩:∃x,R.getD q (0,[])=x:=⟨_,rfl⟩;rw[hx]at k1 k2 hsy lJ;simp only at k1 k2 hsy lJ;obtain⟨n,hn⟩:∃n,l.length=n:=⟨_,rfl⟩;rw[hn]at k2 hsy lJ
   have HX:Hid ((IX.take (k+1)).map (fun i=>R.getD i.toNat (0,[]))=(IX.take k).map (fun i=>R.getD i.toNat (0,[]))++[(L,l)]/\l.length=n):=by
    refine⟨?_,hn⟩;rw[List.take_succ_eq_append_getElem hlt,List.map_append];have e:IX[k]=(q:Int):=by rw[<-hi];simp[List.getD,hlt]
    rw[e,List.map_cons,List.map_nil,Int.toNat_natCast,hx]
   have x2:=hC.2.2.1;have cop:=PW (w:=wr) (L:=L) (lv:= .slice qa n qc) (l:=l) hsy (by omega);rw[hn]at cop;have i0:(0:Int)<=(k:Int):=Int.natCast_nonneg _;have i1:(k:Int)<(IX.length:Int):=by omega
   clear hB hO hmap hx hn hsy hlen hC hi
   go_wp2_with
    (first
     |(go_at_call 137;refine cop.mono ?_;rintro e w3 ⟨ga,d,rfl,hown,hB3⟩
       have hrow:dI (w3.alloc (.cells #[.int .i64 L,.slice ga n d] 79)) (.slice (some ⟨w3.heap.size,0,none⟩) 1 1) 1 [.int .i64 L,.slice ga n d]:=Ap;have hB4:Below wr.heap.size wr (w3.alloc (.cells #[.int .i64 L,.slice ga n d] 79)):=hB3.alloc hB3.size _;have d9:=own_below HO.out.pY hB4 fun g hg=>(HO.out.pY.lt g hg).2;have hb4:W0.heap.size<=(w3.alloc (.cells #[.int .i64 L,.slice ga n d] 79)).heap.size:=Nat.le_trans HB.out.size hB4.size;have Kz:RL.length+1<=100000:=by rw[HM.out.2];omega
       clear cop)
     |(at_builtin
       refine CQ rfl _ _ rfl rfl rfl rfl d9 hrow hb4 Kz ?_
       intro a' d' w6 hown6 hgrow hat))
   go_roundw
   case rel=>
    refine⟨k+1,_,RL++[(.slice ga n d,(L,l))],rfl,by go_num,by omega,by rw[List.length_append,HM.out.2];rfl,by rw[List.map_append,HM.out.1,HX.out.1];rfl,?_,?_⟩
    ·refine HO.out.P6 (w5:=w3.alloc (.cells #[.int .i64 L,.slice ga n d] 79)) HB.out.size hB4 ?_ hgrow ?_ (fun g hg=>(hat g hg).imp id fun e=>by omega)
     ·rw[HX.out.2]
      exact hown.alloc _
     ·rw[Ao]
      exact hown6
    ·exact(HB.out.trans (hB4.mono HB.out.size)).grown hgrow hb4 fun g hg=>(d9.lt g hg).1
   case measure=>simp[intOf];omega
  ·have hkk:k=IX.length:=by omega
   obtain⟨la,lc,hlv⟩:=aY hO.pY;subst hlv;obtain⟨x0,x1,x2,x3,x4,x5,x6,x7,_,_,_,_⟩:=hC;have wi:=CV (w:=wr) (T:=T) (N:=N) (ra:=ra) (rn:=R.length) (rc:=rc) (op:=op) (a:=a) (b:=b) (c:=c) (M:=N) (oa:=la) (on:=RL.length) (oc:=lc);clear hB hO hmap hlen
   go_wp2_with
    (go_at_call 136;refine wi.mono ?_;rintro e w3 ⟨rfl,hB3⟩
     have HB3:Hid (Below W0.heap.size W0 w3):=HB.out.trans (hB3.mono HB.out.size);have HR3:Hid (bA w3 W0.heap.size (.slice la RL.length lc) RL):=HO.out.CX.below hB3;have y0:=(HC.out w3 HB3.out).2.2.2.2.2.2.2.2.1;have y1:=(HC.out w3 HB3.out).2.2.2.2.2.2.2.2.2.1;have y2:=(HC.out w3 HB3.out).2.2.2.2.2.2.2.2.2.2.1;have eB:=(HC.out w3 HB3.out).2.2.2.2.2.2.2.2.2.2.2.1 0;have eD:=(HC.out w3 HB3.out).2.2.2.2.2.2.2.2.2.2.2.1 1;have Aq:=(HC.out w3 HB3.out).2.2.2.2.2.2.2.2.2.2.2.1 2
     clear wi hB3)
   have q0:=tX (v0:= .int .i64 T) (v1:= .int .i64 N) (v2:= .slice la RL.length lc) y0;have q1:=tY (v0:= .int .i64 T) (v1:= .int .i64 N) (v2:= .slice la RL.length lc) y1;have q2:=tZ (v0:= .int .i64 T) (v1:= .int .i64 N) (v2:= .slice la RL.length lc) y2;refine bodyPost_ret (v:= .agg #[.int .i64 T,.int .i64 N,.slice la RL.length lc]) (by simp[results,Tryz.results161,go_sem,q0,q1,q2]) rfl ?_;have hz:=HB0.out.2;refine⟨_,RL,rfl,(((HR3.out.oV (by simp only;omega) _).oV (by simp only;omega) _).oV (by simp only;omega) _).mono (by omega),by rw[HM.out.1,hkk,List.take_length],?_⟩;exact(((HC.out w3 HB3.out).2.2.2.2.2.2.2.2.2.2.2.2.2.2.setCell (by simp only;omega) _).setCell (by simp only;omega) _).setCell (by simp only;omega) _
end Go.Proofs.YtpkmpkphfflpjaaGreat
namespace Go.Proofs.YtpkmpkphfflpjaaGreat
section
variable{P:Program}{ops:Array Oper}{Q:Exit->Act->World->Prop}{S:World->Prop}
def yI(ops:Array Oper)(n:Nat):Bool:=Region.noSelect ops&&decide (n<ops.size)&&Region.sinkB .any ops n&&Region.chainB .any ops n
def ax(P:Program)(ops:Array Oper)(Q:Exit->Act->World->Prop)(S:World->Prop)(n k:Nat)(listed:Array Bool)(a:Act)(w:World):Prop:=
 yI ops n=true->HeadInv .any ops n listed->nV P .any ops (NoPanic Q) S n k listed a w
theorem P9{n k:Nat}{listed:Array Bool}{a:Act}{w:World}(hb:yI ops n=true)(inv:HeadInv .any ops n listed)(h0:Region.ready .any ops listed≠[])(h:∀i∈Region.ready .any ops listed,i<n/\wO P ops (NoPanic Q) S n (ax P ops Q S n k (listed.setIfInBounds i true)) i a w):nV P .any ops (NoPanic Q) S n (k+1) listed a w:=by
 refine⟨fun h1=>absurd h1 h0,fun i hi=> ?_⟩;obtain⟨hin,o,ho,h⟩:=h i hi
 have h1:=h (fun a' w'=>(i<n->S w')/\nV P .any ops (NoPanic Q) S n k (listed.setIfInBounds i true) a' w')
  (fun a' w' hS hT=>⟨hS,hT hb (inv.set hi hin)⟩)
 have h0':ops[i]?=some o:=by simpa using ho
 unfold wpOp;simp only[h0'];split
 ·rename_i hw
  rw[if_pos hw]at h1;exact .inl h1
 ·rename_i hw
  rw[if_neg hw]at h1;exact h1
theorem ax.one{n k i:Nat}{listed:Array Bool}{a:Act}{w:World}(hr:(decide (Region.ready .any ops listed=[i])&&decide (i<n))=true)(h:wO P ops (NoPanic Q) S n (ax P ops Q S n k (listed.setIfInBounds i true)) i a w):ax P ops Q S n (k+1) listed a w:=fun hb inv=>by
 simp only[Bool.and_eq_true,decide_eq_true_eq]at hr;refine P9 hb inv (by rw[hr.1];simp) fun j hj=> ?_;rw[hr.1]at hj;have:j=i:=by simpa using hj
 subst this;exact⟨hr.2,h⟩
theorem ax.two{n k i i':Nat}{listed:Array Bool}{a:Act}{w:World}(hr:(decide (Region.ready .any ops listed=[i,i'])&&decide (i<n)&&decide (i'<n))=true)(h:wO P ops (NoPanic Q) S n (ax P ops Q S n k (listed.setIfInBounds i true)) i a w)(h':wO P ops (NoPanic Q) S n (ax P ops Q S n k (listed.setIfInBounds i' true)) i' a w):ax P ops Q S n (k+1) listed a w:=fun hb inv=>by
 simp only[Bool.and_eq_true,decide_eq_true_eq]at hr;refine P9 hb inv (by rw[hr.1.1];simp) fun j hj=> ?_;rw[hr.1.1]at hj;simp only[List.mem_cons,List.not_mem_nil,or_false]at hj;rcases hj with rfl|rfl
 ·exact⟨hr.1.2,h⟩
 ·exact⟨hr.2,h'⟩
theorem ax.read{n k i:Nat}{o:Oper}{listed:Array Bool}{a:Act}{w:World}{v:Value}(ho:ops.toList[i]?=some o)(hr:((Region.ready .any ops listed).contains i&&Region.free .any ops listed i&&decide (i<n))=true)(hw:Region.wanted o (yielded ops a.tmps)=true)(hy:∀w,S w->(execOp a.eval o).run P w= .ok (.value v) w)(hS:S w)(h:ax P ops Q S n k (listed.setIfInBounds i true) (a.put o.dst v) w):ax P ops Q S n (k+1) listed a w:=fun hb inv=>by
 have hb':=hb;simp only[yI,Bool.and_eq_true,decide_eq_true_eq]at hb';obtain⟨⟨⟨hsel,hn⟩,hsk⟩,hc⟩:=hb';simp only[Bool.and_eq_true,decide_eq_true_eq]at hr;have hi:ops[i]?=some o:=by simpa using ho
 have hmem:i∈Region.ready .any ops listed:=by simpa using hr.1.1
 obtain⟨o',v',h0,hy',hK⟩:=(aU.cons (K:=fun a'=>a'=a.put o.dst v) (l:=[]) hi hw hy rfl:aU P ops S (fun a'=>a'=a.put o.dst v) [i] a);rw[hi]at h0;cases h0;have hK':a.put o.dst v'=a.put o.dst v:=hK;refine F7 hi (Region.noSelect_spec hsel) (fun _ _ _ h=>h) hsk hc hn hr.2 k listed a w inv (Region.free_spec hi hr.1.2) hmem hy' hS ?_;rw[hK'];exact h hb (inv.set hmem hr.2)
theorem ax.last{n i:Nat}{listed:Array Bool}{a:Act}{w:World}(hr:(decide (Region.ready .any ops listed=[i])&&decide (Region.ready .any ops (listed.setIfInBounds i true)=[]))=true)(h:∃o,ops.toList[i]?=some o/\∀K:Act->World->Prop,Shut (∀a w,(i<n->S w)->NoPanic Q .normal a w->K a w)->if Region.wanted o (yielded ops a.tmps)=true then Oper.wp P o a w K (NoPanic Q) else K (a.put o.dst undef) w):ax P ops Q S n 1 listed a w:=fun _ _=>by
 simp only[Bool.and_eq_true,decide_eq_true_eq]at hr;refine⟨fun h1=>absurd h1 (by rw[hr.1];simp),fun j hj=> ?_⟩;rw[hr.1]at hj;have:j=i:=by simpa using hj
 subst this;obtain⟨o,ho,h⟩:=h;have h1:=h (fun a' w'=>(j<n->S w')/\nV P .any ops (NoPanic Q) S n 0 (listed.setIfInBounds j true) a' w') (fun a' w' hS hT=>⟨hS,hr.2,hT⟩);have h0':ops[j]?=some o:=by simpa using ho
 unfold wpOp;simp only[h0'];split
 ·rename_i hw
  rw[if_pos hw]at h1;exact .inl h1
 ·rename_i hw
  rw[if_neg hw]at h1;exact h1
theorem Qa{n m:Nat}(hb:yI ops n=true){w:World}(hS:S w):
 ∀(l:List Nat) (listed:Array Bool) (a:Act),(∀i∈l,i<n)->HeadInv .any ops n listed->Ak .any ops l listed=true->aU P ops S (fun a'=>ax P ops Q S n m (CU l listed) a' w) l a->
 nV P .any ops (NoPanic Q) S n (l.length+m) listed a w
 | [],listed,a,_,inv,_,h=>by
  simp only[List.length_nil,Nat.zero_add];exact h hb inv
 |k::l,listed,a,hl,inv,hB,h=>by
  have hb':=hb;simp only[yI,Bool.and_eq_true,decide_eq_true_eq]at hb';obtain⟨⟨⟨hsel,hn⟩,hsk⟩,hc⟩:=hb';simp only[Ak,Bool.and_eq_true]at hB;obtain⟨⟨hr,hf⟩,hB'⟩:=hB;have hkn:=hl k (by simp);have hr':k∈Region.ready .any ops listed:=by simpa using hr
  obtain⟨o,v,h0,hy,hK⟩:=h;rw[show (k::l).length+m=(l.length+m)+1 by simp only[List.length_cons];omega]
  exact F7 h0 (Region.noSelect_spec hsel) (fun _ _ _ h=>h) hsk hc hn hkn _ listed a w inv (Region.free_spec h0 hf) hr' hy hS
   (Qa hb hS l _ _ (fun i hi=>hl i (List.mem_cons_of_mem _ hi)) (inv.set hr' hkn) hB' hK)
theorem iw{id:Nat}{a:Act}{w:World}(hs:List Nat)(m n:Nat)(S:World->Prop)(hm:P.follows .mixedOrders=true)(hB:Gd ops hs m n=true)(hS:S w.drew)
 (h:aU P ops S (fun a'=>ax P ops Q S n m (CU hs (Array.replicate ops.size false)) a' w.drew) hs a):(Code.region id ops true).wp P Q a w:=by
 simp only[Gd,Bool.and_eq_true,decide_eq_true_eq,List.all_eq_true]at hB;obtain⟨⟨⟨⟨⟨⟨hsel,hn⟩,hsk⟩,hc⟩,hl⟩,hlen⟩,hlex⟩:=hB
 have inv0:HeadInv .any ops n (Array.replicate ops.size false):=
  ⟨by simp,fun j oj _ hl=>(by rw[getD_replicate_false]at hl;cases hl),fun t _ ht=>Go.getD_in (by simpa using ht) (getD_replicate_false _ _)⟩
 refine wp_region_noPanic (wp_region_any hm (F6 (S:=S) (n:=n) _ _ _ _ ?_));have hb:yI ops n=true:=by simp only[yI,Bool.and_eq_true,decide_eq_true_eq];exact⟨⟨⟨hsel,hn⟩,hsk⟩,hc⟩
 have:=Qa (Q:=Q) (m:=m) hb hS hs _ a hl inv0 hlex h;rw[hlen]at this;exact this
end
end Go.Proofs.YtpkmpkphfflpjaaGreat
namespace Go.Proofs.YtpkmpkphfflpjaaGreat
open Go.RowKit
theorem ah{w:World}{b i:Nat}{cs:Array Value}{ty:TypeId}{f:Nat×Nat}{u:Value}(h:w.heap[b]?=some (.cells cs ty f))(hu:cs[i]?=some u):w.cell? ⟨b,i,none⟩=some u:=by
 unfold World.cell?;simp[h,hu]
theorem bE{w:World}{b i:Nat}{cs:Array Value}{ty:TypeId}(h:w.heap[b]?=some (.cells cs ty (0,0))):w.frozen? ⟨b,i,none⟩=false:=by
 unfold World.frozen?;simp[h]
structure cu(w:World)(cs:Array Value)(ty:TypeId)(ra:Option Addr)(rc:Nat)(R:List Ru)(wq:World):Prop where
 blk:wq.heap[w.heap.size]?=some (.cells cs ty (0,0))
 res:wq.heap[w.heap.size+1]?=some (.cells #[.int .i64 0,.int .i64 0,.slice none 0 0] 24 (0,0))
 rules:aD wq w.heap.size (.slice ra R.length rc) R
 below:Below w.heap.size w wq
section
variable{w wq w':World}{cs:Array Value}{ty:TypeId}{ra:Option Addr}{rc:Nat}{R:List Ru}
theorem cu.size(h:cu w cs ty ra rc R wq):w.heap.size+2<=wq.heap.size:=by
 have:=(Array.getElem?_eq_some_iff.1 h.res).1;omega
theorem cu.later(h:cu w cs ty ra rc R wq)(hb:Below (w.heap.size+2) wq w'):cu w cs ty ra rc R w':=
 ⟨(hb.block _ (by omega)).trans h.blk,(hb.block _ (by omega)).trans h.res,h.rules.below (hb.mono (by omega)),h.below.trans (hb.mono (by omega))⟩
theorem cu.next(h:cu w cs ty ra rc R wq)(hb:Below wq.heap.size wq w'):cu w cs ty ra rc R w':=h.later (hb.mono h.size)
theorem cu.cell(h:cu w cs ty ra rc R wq){i:Nat}{u:Value}(hu:cs[i]?=some u):wq.cell? ⟨w.heap.size,i,none⟩=some u:=ah h.blk hu
theorem Gl(hr:aD w w.heap.size (.slice ra R.length rc) R):cu w cs ty ra rc R ((w.alloc (.cells cs ty)).alloc (.cells #[.int .i64 0,.int .i64 0,.slice none 0 0] 24)):=by
 have hB:Below w.heap.size w ((w.alloc (.cells cs ty)).alloc (.cells #[.int .i64 0,.int .i64 0,.slice none 0 0] 24)):=((Below.refl _ _).alloc (Nat.le_refl _) _).alloc (by simp) _;refine⟨?_,?_,hr.below hB,hB⟩
 ·rw[((Below.refl (w.alloc (.cells cs ty)).heap.size _).alloc (Nat.le_refl _) _).block w.heap.size (by simp)]
  exact heap_alloc_new _ _
 ·have:=heap_alloc_new (w.alloc (.cells cs ty)) (.cells #[.int .i64 0,.int .i64 0,.slice none 0 0] 24)
  simpa using this
theorem cu.y0(h:cu w cs ty ra rc R wq):wq.cell? ⟨w.heap.size+1,0,none⟩=some (.int .i64 0):=ah h.res rfl
theorem cu.y1(h:cu w cs ty ra rc R wq):wq.cell? ⟨w.heap.size+1,1,none⟩=some (.int .i64 0):=ah h.res rfl
theorem cu.y2(h:cu w cs ty ra rc R wq):wq.cell? ⟨w.heap.size+1,2,none⟩=some (.slice none 0 0):=ah h.res rfl
theorem cu.yf(h:cu w cs ty ra rc R wq)(o:Nat):wq.frozen? ⟨w.heap.size+1,o,none⟩=false:=bE h.res
theorem cu.out(h:cu w cs ty ra rc R wq){lv:Value}{RL:List (Value×Ru)}(hr:bA wq (w.heap.size+2) lv RL)(v0 v1 v2:Value):bA (((wq.setCell ⟨w.heap.size+1,0,none⟩ v0).setCell ⟨w.heap.size+1,1,none⟩ v1).setCell ⟨w.heap.size+1,2,none⟩ v2) w.heap.size lv RL/\Below w.heap.size w (((wq.setCell ⟨w.heap.size+1,0,none⟩ v0).setCell ⟨w.heap.size+1,1,none⟩ v1).setCell ⟨w.heap.size+1,2,none⟩ v2):=
 ⟨(((hr.oV (by simp) _).oV (by simp) _).oV (by simp) _).mono (by omega),((h.below.setCell (by simp) _).setCell (by simp) _).setCell (by simp) _⟩
end
theorem CY{ad:Addr}{f sl lc:Nat}{fi:Int}(hf:fi=f)(hu:f<=lc)(w:World):Sem.run Tryz.prog (Instr.sliceAt 77 (.slice (some ad) sl lc) none (some (.int .i64 fi)) none) w= .ok (.slice (some ad) f lc) w:=by
 subst hf;have h0:(0:Int)<=(f:Int):=Int.natCast_nonneg _;have h1:(f:Int)<=(lc:Int):=by omega
 go_simp
theorem Yb{ad:Addr}{f n g sl lc:Nat}{fi gi:Int}(hf:fi=f)(hg:gi=g)(hn:g=f+n)(hu:g<=lc):∃A,(∀w:World,Sem.run Tryz.prog (Instr.sliceAt 77 (.slice (some ad) sl lc) (some (.int .i64 fi)) (some (.int .i64 gi)) none) w= .ok (.slice A n (lc-f)) w)/\(lc≠f->A=some (ad.add (f*2))):=by
 subst hf hg;have h0:(0:Int)<=(f:Int):=Int.natCast_nonneg _;have h1:(f:Int)<=(g:Int):=by omega
 have h2:g-f=n:=by omega
 have h3:(0:Int)<=(g:Int):=Int.natCast_nonneg _;have h4:(g:Int)<=(lc:Int):=by omega
 have h5:f<=g:=by omega
 clear hn;refine⟨if lc=f then some ad else some (ad.add (f*2)),fun w=> ?_,fun h=>by rw[if_neg h]⟩
 go_simp
section
variable{w:World}{qa A:Option Addr}{d f n:Nat}{l:List Sy}
theorem bK.Ar(h:bK w (.slice qa l.length d) l)(hl:f<=l.length):bK w (.slice qa f d) (l.take f):=by
 obtain⟨_,_,hv,hd⟩:=h.1;cases hv;have hlen:(l.take f).length=f:=by rw[List.length_take];omega
 refine⟨⟨_,d,by rw[hlen],by omega⟩,fun j hj=> ?_⟩;rw[hlen]at hj;obtain⟨b,o,c,hv,h1,h2⟩:=h.2 j (by omega);cases hv;have e:(l.take f).getD j (false,0)=l.getD j (false,0):=by simp[List.getD,hj]
 exact⟨b,o,d,by rw[hlen],by rw[e];exact h1,by rw[e];exact h2⟩
theorem bK.Gm(h:bK w (.slice qa l.length d) l)(hl:l.length=f+n)(hA:d≠f->A=qa.map (·.add (f*2))):bK w (.slice A n (d-f)) (l.drop f):=by
 obtain⟨_,_,hv,hd⟩:=h.1;cases hv;have hlen:(l.drop f).length=n:=by rw[List.length_drop];omega
 refine⟨⟨A,d-f,by rw[hlen],by omega⟩,fun j hj=> ?_⟩;rw[hlen]at hj;obtain⟨b,o,c,hv,h1,h2⟩:=h.2 (f+j) (by omega);cases hv;have hA':=hA (by omega);simp only[Option.map_some,Addr.add_lit]at hA';subst hA';have e:(l.drop f).getD j (false,0)=l.getD (f+j) (false,0):=by simp[List.getD,List.getElem?_drop]
 refine⟨b,o+f*2,d-f,by rw[hlen],?_,?_⟩
 ·rw[e,<-h1];congr 2;omega
 ·rw[e,<-h2];congr 2;omega
theorem bK.Gn(h:bK w (.slice qa l.length d) l)(hl:0<l.length):∃ad,qa=some ad:=by
 obtain⟨b,o,c,hv,_⟩:=h.2 0 hl;cases hv;exact⟨_,rfl⟩
end
theorem Qb{RL:List (Value×Ru)}{k:Nat}(hk:k<RL.length)(v:Value)(l:List Sy):(dN RL).set (k*2+1) v=dN (RL.set k (v,(RL[k].2.1,l))):=by
 unfold dN
 induction RL generalizing k with
 |nil=>simp at hk
 |cons a RL ih=>
  cases k with
  |zero=>simp[kC]
  |succ k=>
   have:=ih (k:=k) (by simpa using hk);rw[List.flatMap_cons,List.set_cons_succ,List.flatMap_cons,List.set_append_right _ _ (by simp[kC];omega)];simp only[kC,List.length_cons,List.length_nil,List.getElem_cons_succ]at this⊢;rw[show (k+1)*2+1-(0+1+1)=k*2+1 by omega,this]
theorem Yc{RL:List (Value×Ru)}{k:Nat}(hk:k<RL.length)(L:Int):(dN RL).set (k*2) (.int .i64 L)=dN (RL.set k (RL[k].1,(L,RL[k].2.2))):=by
 unfold dN
 induction RL generalizing k with
 |nil=>simp at hk
 |cons a RL ih=>
  cases k with
  |zero=>simp[kC]
  |succ k=>
   have:=ih (k:=k) (by simpa using hk);rw[List.flatMap_cons,List.set_cons_succ,List.flatMap_cons,List.set_append_right _ _ (by simp[kC];omega)];simp only[kC,List.length_cons,List.length_nil,List.getElem_cons_succ]at this⊢;rw[show (k+1)*2-(0+1+1)=k*2 by omega,this]
section
variable{w w5 w6:World}{B g cap k:Nat}{lv nv v:Value}{RL:List (Value×Ru)}{L:Int}{l:List Sy}
theorem KA{α:Type}{l:List α}{k:Nat}{x y:α}(h:y∈l.set k x):y=x\/y∈l:=(List.mem_or_eq_of_mem_set h).symm
theorem bA.PY(h:bA w B (.slice (some ⟨g,0,none⟩) RL.length cap) RL)(hb:Below w.heap.size w w5)(hk:k<RL.length)(ho:w5.ownsRow w.heap.size 104 2 v l.length (bC l)):bA (w5.setCell ⟨g,k*2+1,none⟩ v) B (.slice (some ⟨g,0,none⟩) RL.length cap) (RL.set k (v,(RL[k].2.1,l))):=by
 have hg:=h.own.lt g rfl;have hs5:=hb.size;have bX:=own_below h.own hb fun g hg=>(h.own.lt g hg).2;refine⟨?_,fun x hx=> ?_⟩
 ·have:=(bX.stored (k*2+1) v).1
  rw[Qb hk v l]at this;rw[List.length_set];exact this
 ·rcases KA hx with rfl|hx
  ·refine(wK ho).kept (by simp) fun b hA _=>⟨Below.heap_setCell _ _ _ _ ?_,by have:=hA.2;omega,fun e=> ?_⟩
   ·have:=hA.2;simp only;omega
   ·simp only[Value.ownBlock,Option.some.injEq]at e;have:=hA.2;omega
  ·refine(h.sym x hx).kept (by simpa using hs5) fun b hA hlt=>⟨?_,hA⟩
   rw[Below.heap_setCell _ _ _ _ (fun e=>hA.2 (by simp only[Value.ownBlock];exact congrArg some e.symm)),hb.block b hlt]
theorem bA.Gi(h:bA w B (.slice (some ⟨g,0,none⟩) RL.length cap) RL)(hk:k<RL.length)(L:Int):bA (w.setCell ⟨g,k*2,none⟩ (.int .i64 L)) B (.slice (some ⟨g,0,none⟩) RL.length cap) (RL.set k (RL[k].1,(L,RL[k].2.2))):=by
 have hold:∀x∈RL,nJ (w.setCell ⟨g,k*2,none⟩ (.int .i64 L)) (fun b=>B<=b/\(Value.slice (some ⟨g,0,none⟩) RL.length cap).ownBlock≠some b) x.1 x.2.2:=fun x hx=>by
  refine(h.sym x hx).kept (by simp) fun b hA hlt=>⟨?_,hA⟩;rw[Below.heap_setCell _ _ _ _ (fun e=>hA.2 (by simp only[Value.ownBlock];exact congrArg some e.symm))]
 refine⟨?_,fun x hx=> ?_⟩
 ·have:=(h.own.stored (k*2) (.int .i64 L)).1
  rw[Yc hk L]at this;rw[List.length_set];exact this
 ·rcases KA hx with rfl|hx
  ·exact hold RL[k] (List.getElem_mem hk)
  ·exact hold x hx
theorem bA.Gp(h:bA w B lv RL)(hB:B<=w.heap.size)(hb:Below w.heap.size w w5)(ho:w5.ownsRow w.heap.size 104 2 v l.length (bC l))(hg:w5.grownBy w6 lv.ownBlock)(hn:w6.ownsRow B 79 2 nv (RL.length+1) (dN (RL++[(v,(L,l))])))(hat:∀g,nv.ownBlock=some g->lv.ownBlock=some g\/w5.heap.size<=g):bA w6 B nv (RL++[(v,(L,l))]):=by
 have hs5:=hb.size;have hs6:=hg.size;have hlv:∀g,lv.ownBlock=some g->g<w.heap.size:=fun g hg=>(h.own.lt g hg).2;refine⟨by rw[List.length_append];exact hn,fun x hx=> ?_⟩;rcases List.mem_append.1 hx with hx|hx
 ·refine(h.sym x hx).kept (by omega) fun b hA hlt=>⟨?_,hA.1,fun e=> ?_⟩
  ·rw[hg.block b (by omega) (fun e=>hA.2 e.symm),hb.block b hlt]
  ·rcases hat b e with e|e
   ·exact hA.2 e
   ·omega
 ·simp only[List.mem_singleton]at hx
  subst hx;refine(wK ho).kept (by omega) fun b hA hlt=>⟨?_,by have:=hA.2;omega,fun e=> ?_⟩
  ·rw[hg.block b hlt (fun e=>by have:=hlv b e.symm;have:=hA.2;omega)]
  ·rcases hat b e with e|e
   ·have:=hlv b e;have:=hA.2;omega
   ·omega
end
section
variable{w:World}{pb:Nat}{va vb vc:Value}{la lb lc:List Sy}
theorem Qc(p0:w.cell? ⟨pb,0,none⟩=some va)(p1:w.cell? ⟨pb,1,none⟩=some vb)(p2:w.cell? ⟨pb,2,none⟩=some vc)(ha:bK w va la)(hb:bK w vb lb)(hc:bK w vc lc)(hs:la.length+lb.length+lc.length<=100000):
 Calls Tryz.prog 143 #[.slice (some ⟨pb,0,none⟩) 3 3] w fun e w'=> ∃a d,e= .returned (.slice a (la.length+lb.length+lc.length) d)/\w'.ownsRow w.heap.size 104 2 (.slice a (la.length+lb.length+lc.length) d) (la.length+lb.length+lc.length) (bC (la++lb++lc))/\Below w.heap.size w w':=by
 have hN:bQ [(va,la.length,bC la),(vb,lb.length,bC lb),(vc,lc.length,bC lc)]=la.length+lb.length+lc.length:=by simp[bQ];omega
 have hX:iG [(va,la.length,bC la),(vb,lb.length,bC lb),(vc,lc.length,bC lc)]=bC (la++lb++lc):=by simp[iG,PE]
 have cc:=Kr (w:=w) (pb:=pb) (PL:=[(va,la.length,bC la),(vb,lb.length,bC lb),(vc,lc.length,bC lc)]) (fun i hi=>by
  match i,hi with
  |0,_=>exact p0
  |1,_=>exact p1
  |2,_=>exact p2
  |i+3,hi=>exact absurd hi (by simp)) (fun p hp=>by
  simp only[List.mem_cons,List.not_mem_nil,or_false]at hp;rcases hp with rfl|rfl|rfl
  ·exact ha.row
  ·exact hb.row
  ·exact hc.row) (by rw[hN];exact hs) (by simp)
 rw[hN,hX]at cc;exact cc
theorem KC(p0:w.cell? ⟨pb,0,none⟩=some va)(p1:w.cell? ⟨pb,1,none⟩=some vb)(ha:bK w va la)(hb:bK w vb lb)(hs:la.length+lb.length<=100000):
 Calls Tryz.prog 143 #[.slice (some ⟨pb,0,none⟩) 2 2] w fun e w'=> ∃a d,e= .returned (.slice a (la.length+lb.length) d)/\w'.ownsRow w.heap.size 104 2 (.slice a (la.length+lb.length) d) (la.length+lb.length) (bC (la++lb))/\Below w.heap.size w w':=by
 have hN:bQ [(va,la.length,bC la),(vb,lb.length,bC lb)]=la.length+lb.length:=by simp[bQ]
 have hX:iG [(va,la.length,bC la),(vb,lb.length,bC lb)]=bC (la++lb):=by simp[iG,PE]
 have cc:=Kr (w:=w) (pb:=pb) (PL:=[(va,la.length,bC la),(vb,lb.length,bC lb)]) (fun i hi=>by
  match i,hi with
  |0,_=>exact p0
  |1,_=>exact p1
  |i+2,hi=>exact absurd hi (by simp)) (fun p hp=>by
  simp only[List.mem_cons,List.not_mem_nil,or_false]at hp;rcases hp with rfl|rfl
  ·exact ha.row
  ·exact hb.row) (by rw[hN];exact hs) (by simp)
 rw[hN,hX]at cc;exact cc
theorem Qd(p0:w.cell? ⟨pb,0,none⟩=some va)(ha:bK w va la)(hs:la.length<=100000):
 Calls Tryz.prog 143 #[.slice (some ⟨pb,0,none⟩) 1 1] w fun e w'=> ∃a d,e= .returned (.slice a la.length d)/\w'.ownsRow w.heap.size 104 2 (.slice a la.length d) la.length (bC la)/\Below w.heap.size w w':=by
 have hN:bQ [(va,la.length,bC la)]=la.length:=by simp[bQ]
 have hX:iG [(va,la.length,bC la)]=bC la:=by simp[iG]
 have cc:=Kr (w:=w) (pb:=pb) (PL:=[(va,la.length,bC la)]) (fun i hi=>by
  match i,hi with
  |0,_=>exact p0
  |i+1,hi=>exact absurd hi (by simp)) (fun p hp=>by
  simp only[List.mem_cons,List.not_mem_nil,or_false]at hp;rcases hp with rfl
  exact ha.row) (by rw[hN];exact hs) (by simp)
 rw[hN,hX]at cc;exact cc
end
theorem Yd{w:World}{t:Bool}{v:Int}:bK (w.alloc (.cells #[.bool t,.int .i64 v] 104)) (.slice (some ⟨w.heap.size,0,none⟩) 1 1) [(t,v)]:=by
 have hb:=heap_alloc_new w (.cells #[.bool t,.int .i64 v] 104);refine⟨⟨_,_,rfl,Nat.le_refl _⟩,fun j hj=> ?_⟩;have:j=0:=by simp at hj;omega
 subst this;exact⟨w.heap.size,0,1,rfl,ah (i:=0) hb rfl,ah (i:=1) hb rfl⟩
theorem Ye{g f sl lc:Nat}{fi:Int}(hf:fi=f)(hu:f<=lc)(w:World):Sem.run Tryz.prog (Instr.sliceAt 22 (.slice (some ⟨g,0,none⟩) sl lc) none (some (.int .i64 fi)) none) w= .ok (.slice (some ⟨g,0,none⟩) f lc) w:=by
 subst hf;have h0:(0:Int)<=(f:Int):=Int.natCast_nonneg _;have h1:(f:Int)<=(lc:Int):=by omega
 go_simp
theorem Yf{la:Option Addr}{f n sl lc:Nat}{fi:Int}(hf:fi=f)(hs:sl=f+n):∃A,(∀w:World,Sem.run Tryz.prog (Instr.sliceAt 22 (.slice la sl lc) (some (.int .i64 fi)) none none) w= .ok (.slice A n (lc-f)) w)/\(lc≠f->A=la.map (·.add (f*2))):=by
 subst hf;have h0:(0:Int)<=(f:Int):=Int.natCast_nonneg _;have h1:(f:Int)<=(sl:Int):=by omega
 have h2:sl-f=n:=by omega
 refine⟨if lc=f then la else la.map (·.add (f*2)),fun w=> ?_,fun h=>by rw[if_neg h]⟩
 go_simp
 intro h;omega
section
variable{w:World}{B:Nat}{e:TypeId}{v:Value}{n:Nat}{xs:List Value}
theorem Yg(h:w.ownsRow B e 2 v n xs)(h1:∀u∈xs,u.oneCell'=true):dI w v n xs:=by
 have hh:=h;obtain⟨hl,⟨hv,h0⟩|⟨g,cap,cur,hv,hb,_,hle,_⟩⟩:=hh
 ·exact⟨⟨none,0,by rw[hv,h0],by omega⟩,hl,h1,fun hm=>by omega⟩
 ·subst hv
  refine⟨⟨_,_,rfl,hle⟩,hl,h1,fun _=>⟨_,_,rfl,fun j u hu=> ?_⟩⟩;have hj:=(List.getElem?_eq_some_iff.1 hu).1;rw[Addr.add_lit,Nat.zero_add,h.cellAt j (by omega),hu]
theorem dI.take{f:Nat}{qa:Option Addr}{d:Nat}(h:dI w (.slice qa n d) n xs)(hf:f<=n):dI w (.slice qa f d) f (xs.take (f*2)):=by
 obtain⟨⟨_,_,hv,hle⟩,hl,h1,hc⟩:=h;cases hv;refine⟨⟨_,_,rfl,by omega⟩,by rw[List.length_take];omega,fun u hu=>h1 u (List.mem_of_mem_take hu),fun hm=> ?_⟩;obtain⟨ad,c,hv,hcell⟩:=hc (by omega);cases hv;refine⟨_,_,rfl,fun j u hu=>hcell j u ?_⟩;rw[List.getElem?_take]at hu;split at hu
 ·exact hu
 ·cases hu
theorem dI.drop{f m:Nat}{qa A:Option Addr}{d:Nat}(h:dI w (.slice qa n d) n xs)(hf:n=f+m)(hA:d≠f->A=qa.map (·.add (f*2))):dI w (.slice A m (d-f)) m (xs.drop (f*2)):=by
 obtain⟨⟨_,_,hv,hle⟩,hl,h1,hc⟩:=h;cases hv;refine⟨⟨_,_,rfl,by omega⟩,by rw[List.length_drop];omega,fun u hu=>h1 u (List.mem_of_mem_drop hu),fun hm=> ?_⟩;obtain⟨ad,c,hv,hcell⟩:=hc (by omega);cases hv;have hA':=hA (by omega);simp only[Option.map_some]at hA';subst hA';refine⟨_,_,rfl,fun j u hu=> ?_⟩;rw[List.getElem?_drop]at hu;have:=hcell _ _ hu;rw[<-this]
 congr 1
 unfold Addr.add;by_cases h0:f*2=0
 ·have:f=0:=by omega
  subst this;simp
 ·by_cases h2:j=0
  ·subst h2;simp
  ·have h3:¬(f*2+j=0):=by omega
   simp only[h0,h2,h3,if_false]
   congr 1
   omega
end
theorem Yh(RL:List (Value×Ru))(f:Nat):(dN RL).take (f*2)=dN (RL.take f):=by
 unfold dN
 induction RL generalizing f with
 |nil=>simp
 |cons a RL ih=>
  cases f with
  |zero=>simp
  |succ f=>
   rw[List.flatMap_cons,List.take_succ_cons,List.flatMap_cons,<-ih f,show (f+1)*2=f*2+1+1 by omega];simp[kC]
theorem Yi(RL:List (Value×Ru))(f:Nat):(dN RL).drop (f*2)=dN (RL.drop f):=by
 unfold dN
 induction RL generalizing f with
 |nil=>simp
 |cons a RL ih=>
  cases f with
  |zero=>simp
  |succ f=>
   rw[List.flatMap_cons,List.drop_succ_cons,<-ih f,show (f+1)*2=f*2+1+1 by omega];simp[kC]
section
variable{w w6:World}{B n:Nat}{lv pv nv:Value}{RL PL RK:List (Value×Ru)}
theorem bA.rowAt(h:bA w B lv RL):dI w lv RL.length (dN RL):=Yg h.own (X8 h.slices)
theorem bA.cat(h1:bA w B lv RL)(h2:bA w B pv PL)(hB:B<=w.heap.size)(hb:Below w.heap.size w w6)(ho:w6.ownsRow w.heap.size 79 2 nv RK.length (dN RK))(hm:∀x∈RK,x∈RL\/x∈PL):bA w6 B nv RK:=by
 refine⟨jE ho hB,fun x hx=> ?_⟩;have vv:∀b,b<w.heap.size->nv.ownBlock≠some b:=fun b hlt e=>by have:=(ho.lt b e).1;omega
 rcases hm x hx with hx|hx
 ·exact(h1.sym x hx).kept hb.size fun b hA hlt=>⟨hb.block b hlt,hA.1,vv b hlt⟩
 ·exact(h2.sym x hx).kept hb.size fun b hA hlt=>⟨hb.block b hlt,hA.1,vv b hlt⟩
theorem Yj{pb:Nat}{va vb vc:Value}{xa xb xc:List Value}{na nb nc:Nat}(p0:w.cell? ⟨pb,0,none⟩=some va)(p1:w.cell? ⟨pb,1,none⟩=some vb)(p2:w.cell? ⟨pb,2,none⟩=some vc)(ha:dI w va na xa)(hb:dI w vb nb xb)(hc:dI w vc nc xc)(hs:na+nb+nc<=100000):
 Calls Tryz.prog 153 #[.slice (some ⟨pb,0,none⟩) 3 3] w fun e w'=> ∃a d,e= .returned (.slice a (na+nb+nc) d)/\w'.ownsRow w.heap.size 79 2 (.slice a (na+nb+nc) d) (na+nb+nc) (xa++xb++xc)/\Below w.heap.size w w':=by
 have hN:bQ [(va,na,xa),(vb,nb,xb),(vc,nc,xc)]=na+nb+nc:=by simp[bQ];omega
 have hX:iG [(va,na,xa),(vb,nb,xb),(vc,nc,xc)]=xa++xb++xc:=by simp[iG]
 have cc:=XH (w:=w) (pb:=pb) (PL:=[(va,na,xa),(vb,nb,xb),(vc,nc,xc)]) (fun i hi=>by
  match i,hi with
  |0,_=>exact p0
  |1,_=>exact p1
  |2,_=>exact p2
  |i+3,hi=>exact absurd hi (by simp)) (fun p hp=>by
  simp only[List.mem_cons,List.not_mem_nil,or_false]at hp;rcases hp with rfl|rfl|rfl
  ·exact ha
  ·exact hb
  ·exact hc) (by rw[hN];exact hs) (by simp)
 rw[hN,hX]at cc;exact cc
end
end Go.Proofs.YtpkmpkphfflpjaaGreat
