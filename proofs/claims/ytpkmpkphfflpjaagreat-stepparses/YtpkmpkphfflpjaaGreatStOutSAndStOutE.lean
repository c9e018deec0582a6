import Derived.Test.YtpkmpkphfflpjaaGreatStOfPAndStSwap
import Derived.Test.YtpkmpkphfflpjaaGreatStepAt2AndStOfE
import Derived.Test.YtpkmpkphfflpjaaGreatStCopiesAndStRl
set_option maxHeartbeats 12800000
set_option maxRecDepth 100000
namespace Go.Proofs.YtpkmpkphfflpjaaGreat
open Go.RowKit
def zm(a b:Int)(r:Ru):Ru:=(jl a b r.1,r.2.map (nH a b))
theorem aa9{RL:List (Value×Ru)}{k:Nat}(hk:k<RL.length)(L:Int)(l:List Sy):(dN RL).set (k*2) (.int .i64 L)=dN (RL.set k (RL[k].1,(L,l))):=by
 unfold dN
 induction RL generalizing k with
 |nil=>simp at hk
 |cons a RL ih=>
  cases k with
  |zero=>simp[kC]
  |succ k=>
   have:=ih (k:=k) (by simpa using hk);rw[List.flatMap_cons,List.set_cons_succ,List.flatMap_cons,List.set_append_right _ _ (by simp[kC];omega)];simp only[kC,List.length_cons,List.length_nil,List.getElem_cons_succ]at this⊢;rw[show (k+1)*2-(0+1+1)=k*2 by omega,this]
theorem au.abb{w w1:World}{B g cap k:Nat}{RL:List (Value×Ru)}(h:au w B (iH (.slice (some ⟨g,0,none⟩) RL.length cap) RL))(hk:k<RL.length)(L:Int)(l:List Sy)(hl:l.length=RL[k].2.2.length)
 (ho:w1.ownsRow B 104 2 RL[k].1 l.length (bC l)) (hK:Kept (fun b=>RL[k].1.ownBlock=some b) (w.setCell ⟨g,k*2,none⟩ (.int .i64 L)) w1):au w1 B (iH (.slice (some ⟨g,0,none⟩) RL.length cap) (RL.set k (RL[k].1,(L,l)))):=by
 have h1:=h.store (i:=none) (g:=g) (n:=RL.length) (cap:=cap) (e:=79) (size:=2) (xs:=dN RL) rfl (k*2) (.int .i64 L)
 have hn:∀j a,upd (iH (.slice (some ⟨g,0,none⟩) RL.length cap) RL) none ⟨.slice (some ⟨g,0,none⟩) RL.length cap,79,2,RL.length,(dN RL).set (k*2) (.int .i64 L)⟩ j=some a->j≠some k->w1.ownsRow B a.e a.size a.v a.n a.xs:=fun j a ha hj=>by
  have o:=h1.own j a ha;obtain⟨z1,z2|⟨g',c',cur,e,z2,z3,z4⟩⟩:=o
  ·exact⟨z1,.inl z2⟩
  ·refine⟨z1,.inr ⟨g',c',cur,e,z2,?_,z4⟩⟩
   have hlt:=(Array.getElem?_eq_some_iff.1 z3).1;rw[hK.block g' hlt fun e'=> ?_]
   ·exact z3
   ·have hb:a.v.ownBlock=some g':=by rw[e];rfl
    exact h1.apart j (some k) a _ hj ha (by rw[qR _ (by simp)];exact tV hk) g' hb e'
 have h2:au w1 B (upd (upd (iH (.slice (some ⟨g,0,none⟩) RL.length cap) RL) none ⟨.slice (some ⟨g,0,none⟩) RL.length cap,79,2,RL.length,(dN RL).set (k*2) (.int .i64 L)⟩) (some k) ⟨RL[k].1,104,2,l.length,bC l⟩):=by
  refine h1.put ho (fun j a hj ha=>hn j a ha hj) fun j a hj ha g' e1 e2=> ?_;exact h1.apart j (some k) a ⟨RL[k].1,104,2,RL[k].2.2.length,bC RL[k].2.2⟩ hj ha (by rw[qR _ (by simp)];exact tV hk) g' e1 e2
 have e:upd (upd (iH (.slice (some ⟨g,0,none⟩) RL.length cap) RL) none ⟨.slice (some ⟨g,0,none⟩) RL.length cap,79,2,RL.length,(dN RL).set (k*2) (.int .i64 L)⟩) (some k) ⟨RL[k].1,104,2,l.length,bC l⟩=iH (.slice (some ⟨g,0,none⟩) RL.length cap) (RL.set k (RL[k].1,(L,l))):=by
  funext j
  cases j with
  |none=>
   rw[qR _ (by simp),upd_same,aa9 hk L l];show _=some _;rw[List.length_set]
  |some j=>
   by_cases hj:j=k
   ·subst hj
    rw[upd_same,tV (by rw[List.length_set];exact hk)];simp
   ·rw[qR _ (by simpa using hj),qR _ (by simp)]
    show (RL[j]?).map _=((RL.set k _)[j]?).map _;rw[List.getElem?_set_ne (fun e=>hj e.symm)]
 rw[e]at h2;exact h2
theorem abd{w:World}{T:Int}{N:Int}{ra:Option Addr}{rc:Nat}{op a b c:Int}{R:List Ru}(hr:aD w w.heap.size (.slice ra R.length rc) R)(hl:R.length<=1000)(hl2:∀q,q<R.length->(R.getD q (0,[])).2.length<=1000):
 Calls Tryz.prog 132 #[.agg #[.int .i64 T,.int .i64 N,.slice ra R.length rc,.int .i64 op,.int .i64 a,.int .i64 b,.int .i64 c]] w fun e w'=> ∃lv RL,e= .returned (.agg #[.int .i64 T,.int .i64 N,lv])/\bA w' w.heap.size lv RL/\(RL.map fun x=>x.2)=R.map (zm a b)/\Below w.heap.size w w':=by
 obtain⟨cs,hcs⟩:∃cs:Array Value,#[.int .i64 T,.int .i64 N,.slice ra R.length rc,.int .i64 op,.int .i64 a,.int .i64 b,.int .i64 c]=cs:=⟨_,rfl⟩;have hC0:cu w cs 107 ra rc R ((w.alloc (.cells cs 107)).alloc (.cells #[.int .i64 0,.int .i64 0,.slice none 0 0] 24)):=Gl hr;rw[<-hcs]at hC0;obtain⟨W0,hW0⟩:∃W,(w.alloc (.cells #[.int .i64 T,.int .i64 N,.slice ra R.length rc,.int .i64 op,.int .i64 a,.int .i64 b,.int .i64 c] 107)).alloc (.cells #[.int .i64 0,.int .i64 0,.slice none 0 0] 24)=W:=⟨_,rfl⟩;rw[hW0,hcs]at hC0;have uP:Hid (#[.int .i64 T,.int .i64 N,.slice ra R.length rc,.int .i64 op,.int .i64 a,.int .i64 b,.int .i64 c]=cs):=hcs
 have dA:Hid (∀wq,cu w cs 107 ra rc R wq->wq.cell? ⟨w.heap.size,0,none⟩=some (.int .i64 T)/\wq.cell? ⟨w.heap.size,1,none⟩=some (.int .i64 N)/\wq.cell? ⟨w.heap.size,2,none⟩=some (.slice ra R.length rc)/\wq.cell? ⟨w.heap.size,3,none⟩=some (.int .i64 op)/\wq.cell? ⟨w.heap.size,4,none⟩=some (.int .i64 a)/\wq.cell? ⟨w.heap.size,5,none⟩=some (.int .i64 b)/\wq.cell? ⟨w.heap.size,6,none⟩=some (.int .i64 c)):=fun wq hq=>by
  refine⟨hq.cell ?_,hq.cell ?_,hq.cell ?_,hq.cell ?_,hq.cell ?_,hq.cell ?_,hq.cell ?_⟩<;>(rw[<-uP.out];rfl)
 obtain⟨x0,x1,x2,x3,x4,x5,x6⟩:=dA.out W0 hC0;have cop:=Gj (w:=W0) (T:=T) (N:=N) (op:=op) (a:=a) (b:=b) (c:=c) (hC0.rules.mono (Nat.le_trans (by omega) hC0.size)) hl hl2;have lm:Hid (cu w cs 107 ra rc R W0):=hC0
 have H2:Hid (∀q (hq:q<R.length),R[q].2.length<=1000):=fun q hq=>by
  have:=hl2 q hq;simpa [List.getD,hq] using this
 clear hr hl2 hC0 hcs
 go_enter Tryz.func132,Tryz.ntmps132
 go_upto_region 3 with(go_at_call 134;refine cop.mono ?_;rintro e wq ⟨lv,RL,rfl,hO,hmap,qp⟩;clear cop)
 have hlen:RL.length=R.length:=by rw[<-hmap,List.length_map]
 obtain⟨la,lc,hlv⟩:=aY hO.pY;subst hlv;have vP:Hid (Below W0.heap.size W0 wq):=qp;have HO:Hid (au wq W0.heap.size (iH (.slice la R.length lc) RL)/\(RL.map fun x=>x.2)=R/\RL.length=R.length):=⟨by rw[<-hlen];exact hO,hmap,hlen⟩;rw[hlen];clear hO hmap hlen qp x0 x1 x2 x3 x4 x5 x6 hW0
 go_wp2_with fail
 go_loopw [13] (fun s13 wr=> ∃(k:Nat) (RK:List (Value×Ru)),s13= .int .i64 k/\k<=R.length/\RK.length=R.length/\au wr W0.heap.size (iH (.slice la R.length lc) RK)/\(RK.map fun x=>x.2)=(R.take k).map (zm a b)++R.drop k/\Below W0.heap.size W0 wr) (fun s _=>R.length-(intOf s).toNat)
 case atStart=>exact⟨0,RL,rfl,Nat.zero_le _,HO.out.2.2,HO.out.1,by rw[HO.out.2.1];simp,vP.out⟩
 case round=>
  obtain⟨k,RK,rfl,hk,hlen,hO,hmap,hB⟩:=hrel;clear HO vP;have HO:Hid (au wr W0.heap.size (iH (.slice la R.length lc) RK)):=hO;have HM:Hid ((RK.map fun x=>x.2)=(R.take k).map (zm a b)++R.drop k/\RK.length=R.length):=⟨hmap,hlen⟩;have HB:Hid (Below W0.heap.size W0 wr):=hB;by_cases hlt:k<R.length
  ·have hkk:k<RK.length:=by omega
   have hat:RK[k].2=R[k]:=by
    have h1:((RK.map fun x=>x.2)[k]'(by rw[List.length_map];exact hkk))=R[k]:=by
     simp only[hmap];have hl:((R.take k).map (zm a b)).length=k:=by rw[List.length_map,List.length_take];omega
     rw[List.getElem_append_right (by omega)];simp only[hl,Nat.sub_self,List.getElem_drop,Nat.add_zero]
    simpa using h1
   have hsk:=hO.yH hkk;have hrow:=hO.pY;rw[hlen]at hrow;obtain⟨g,cap,zl,hg0,hg1⟩:=hrow.form (by omega);injection zl with e1 _ e3;subst e1 e3;have c1:=(hrow.cellAt (k*2) (by omega)).trans (Gg (j:=0) hkk (by omega));have c2:=(hrow.cellAt (k*2+1) (by omega)).trans (Gg (j:=1) hkk (by omega));have hgd:RK.getD k (.slice none 0 0,(0,[]))=RK[k]:=by simp[List.getD,hkk]
   rw[hgd]at c1 c2;obtain⟨⟨v,⟨L,l⟩⟩,hx⟩:∃x,RK[k]=x:=⟨_,rfl⟩;rw[hx]at c1 c2 hat hsk;simp only[kC,List.getElem?_cons_zero,List.getElem?_cons_succ]at c1 c2 hat hsk;have vF:=H2.out k hlt;rw[<-hat]at vF;simp only at vF;obtain⟨va,vc,hv⟩:=aY hsk;subst hv;have HX:Hid (RK[k]=(.slice va l.length vc,(L,l))/\R[k]=(L,l)):=⟨hx,hat.symm⟩;have f1:=hrow.frozenAt (k*2);obtain⟨W1,hW1⟩:∃W,wr.alloc (.cells #[.int .i64 L,.slice va l.length vc] 79)=W:=⟨_,rfl⟩;have hB1:Below wr.heap.size wr W1:=by rw[<-hW1];exact(Below.refl _ _).alloc (Nat.le_refl _) _
   have HB1:Hid (Below wr.heap.size wr W1):=hB1;have d0:W1.cell? ⟨wr.heap.size,0,none⟩=some (.int .i64 L):=by rw[<-hW1];exact ah (heap_alloc_new _ _) rfl
   have d1:W1.cell? ⟨wr.heap.size,1,none⟩=some (.slice va l.length vc):=by rw[<-hW1];exact ah (heap_alloc_new _ _) rfl
   have e1:=(hB1.cell (World.block_lt_of_cell? _ _ c1)).trans c1;have ef1:W1.frozen? ⟨g,k*2,none⟩=false:=(hB1.frozen (show g<_ from hg1)).trans f1;have rE:=lm.out.next (HB.out.trans (hB1.mono HB.out.size));have ot:=SV (n:=L) (dA.out W1 rE).2.2.2.2.1 (dA.out W1 rE).2.2.2.2.2.1;have IU:au W1 W0.heap.size (iH (.slice (some ⟨g,0,none⟩) R.length lc) RK):=hO.below hB1 (Nat.le_refl _);have hgs:w.heap.size+2<=g:=Nat.le_trans lm.out.size hg0
   have d1':(W1.setCell ⟨g,k*2,none⟩ (.int .i64 (jl a b L))).cell? ⟨wr.heap.size,1,none⟩=some (.slice va l.length vc):=by
    rw[dH (.inl (by simp only;omega))];exact d1
   have hC2:cu w cs 107 ra rc R (W1.setCell ⟨g,k*2,none⟩ (.int .i64 (jl a b L))):=rE.later ((Below.refl _ _).setCell (by simp only;omega) _)
   have hne:∀b',(Value.slice va l.length vc).ownBlock=some b'->b'≠g:=fun b' hb' e=>by
    subst e;have hap:=hO.apart (some k) none _ _ (by simp) (tV hkk) rfl b';rw[hx]at hap;exact hap hb' rfl
   have hs2:(W1.setCell ⟨g,k*2,none⟩ (.int .i64 (jl a b L))).ownsRow W0.heap.size 104 2 (.slice va l.length vc) l.length (bC l):=by
    have o:=own_below hsk hB1 fun g hg=>(hsk.lt g hg).2;obtain⟨z1,z2|⟨g',c',cur,e,z2,z3,z4⟩⟩:=o
    ·exact⟨z1,.inl z2⟩
    ·exact⟨z1,.inr ⟨g',c',cur,e,z2,by rw[Below.heap_setCell _ _ _ _ (hne g' (by rw[e];rfl))];exact z3,z4⟩⟩
   have sw:=aa8 (xb:=w.heap.size) hs2 vF (dA.out _ hC2).2.2.2.2.1 (dA.out _ hC2).2.2.2.2.2.1 (by have:=lm.out.size;omega);have q8:Hid (au W1 W0.heap.size (iH (.slice (some ⟨g,0,none⟩) R.length lc) RK)):=IU;have HG:Hid (W0.heap.size<=g/\k<RK.length):=⟨hg0,hkk⟩;have i0:(0:Int)<=(k:Int):=Int.natCast_nonneg _;have i1:(k:Int)<(R.length:Int):=by omega
   clear hO hB hmap hlen hat hsk hrow hgd hx hB1 rE IU hC2 hs2 f1 hne hgs
   go_wp2_with
    (first
     |(go_at_call 133;refine ot.mono ?_;rintro e w2 ⟨rfl,rfl⟩;clear ot)
     |(go_at_call 135;refine sw.mono ?_;rintro e w3 ⟨rfl,ho3,hK3⟩;clear sw))
   go_roundw
   case rel=>
    have S9:=q8.out;rw[<-HM.out.2]at S9;have hT:=S9.abb (w1:=w3) (k:=k) HG.out.2 (jl a b L) (l.map (nH a b)) (by rw[HX.out.1,List.length_map]) (by rw[HX.out.1,List.length_map];exact ho3) (by rw[HX.out.1];exact hK3);rw[HX.out.1,HM.out.2]at hT;refine⟨k+1,_,by go_num,by omega,by rw[List.length_set];exact HM.out.2,hT,?_,?_⟩
    ·rw[List.map_set,HM.out.1,<-MQ hlt,HX.out.2]
     rfl
    ·have hb1:Below W0.heap.size W0 (w2.setCell ⟨g,k*2,none⟩ (.int .i64 (jl a b L))):=(HB.out.trans (HB1.out.mono HB.out.size)).setCell (p:=⟨g,k*2,none⟩) HG.out.1 _
     exact hb1.trans (hK3.below (fun b hb=>(ho3.lt b hb).1) hb1.size)
   case measure=>simp[intOf];omega
  ·have hC:=lm.out.next hB
   obtain⟨x0,x1,x2,x3,x4,x5,x6⟩:=dA.out wr hC;have hkk:k=R.length:=by omega
   have Ez:Hid (k=R.length):=hkk;have HC:Hid (cu w cs 107 ra rc R wr):=hC;have wi:=CV (w:=wr) (T:=T) (N:=N) (ra:=ra) (rn:=R.length) (rc:=rc) (op:=op) (a:=a) (b:=b) (c:=c) (M:=N) (oa:=la) (on:=R.length) (oc:=lc);clear hC hO hmap hlen hB hkk
   go_wp2_with
    (go_at_call 136;refine wi.mono ?_;rintro e w7 ⟨rfl,bD⟩
     have gH:Hid (cu w cs 107 ra rc R w7):=HC.out.next bD;have zn:Hid (bA w7 (w.heap.size+2) (.slice la R.length lc) RK):=(HO.out.CX.mono lm.out.size).below bD;have z0:=gH.out.y0;have z1:=gH.out.y1;have z2:=gH.out.y2;have LA:=gH.out.yf 0;have LB:=gH.out.yf 1;have Ta:=gH.out.yf 2
     clear wi bD)
   have q0:=tX (v0:= .int .i64 T) (v1:= .int .i64 N) (v2:= .slice la R.length lc) z0;have q1:=tY (v0:= .int .i64 T) (v1:= .int .i64 N) (v2:= .slice la R.length lc) z1;have q2:=tZ (v0:= .int .i64 T) (v1:= .int .i64 N) (v2:= .slice la R.length lc) z2;refine bodyPost_ret (v:= .agg #[.int .i64 T,.int .i64 N,.slice la R.length lc]) (by simp[results,Tryz.results132,go_sem,q0,q1,q2]) rfl ?_;have ho:=gH.out.out zn.out (.int .i64 T) (.int .i64 N) (.slice la R.length lc);refine⟨_,_,rfl,ho.1,?_,ho.2⟩;rw[HM.out.1,Ez.out];simp
end Go.Proofs.YtpkmpkphfflpjaaGreat
namespace Go.Proofs.YtpkmpkphfflpjaaGreat
section
variable{N:Nat}{R:List Ru}
theorem Tc(f:Ru->Ru)(R:List Ru):(List.range R.length).map (fun k=>f (R.getD k (0,[])))=R.map f:=by
 refine List.ext_getElem (by simp) fun i h1 h2=> ?_;have hi:i<R.length:=by simpa using h2
 simp[List.getD,hi]
theorem abe{a b c:Int}:R.map (zm a b)=aM N R ⟨1,a,b,c⟩:=by
 rw[AJ (h:=fun k=>zm a b (R.getD k (0,[]))) (fun k=>by unfold mP zm;simp),Tc];unfold jU;simp
theorem abf{a b c:Int}:R.map (qA N a)++[((N:Int),[])]=aM N R ⟨4,a,b,c⟩:=by
 rw[AJ (h:=fun k=>qA N a (R.getD k (0,[]))) (fun k=>by unfold mP qA;simp),Tc];unfold jU;simp
theorem abg{ka bn cn:Nat}{L:Int}{l:List Sy}(hx:R.getD ka (0,[])=(L,l)):R.set ka (L,l.take bn++(false,(N:Int))::l.drop cn)++[((N:Int),(l.take cn).drop bn)]=aM N R ⟨2,ka,bn,cn⟩:=by
 rw[AJ (h:=fun k=>if (k:Int)=(ka:Int) then ((R.getD k (0,[])).1,(R.getD k (0,[])).2.take bn++(false,(N:Int))::(R.getD k (0,[])).2.drop cn) else R.getD k (0,[])) (fun k=>by unfold mP;simp)];have hl:jU N R ⟨2,ka,bn,cn⟩=[((N:Int),(l.take cn).drop bn)]:=by unfold jU;simp only[Int.toNat_natCast,hx];simp
 rw[hl]
 congr 1
 refine List.ext_getElem (by simp) fun i h1 h2=> ?_;have hi:i<R.length:=by simpa using h2
 rw[List.getElem_set];simp only[List.getElem_map,List.getElem_range];by_cases e:ka=i
 ·subst e
  rw[if_pos rfl,if_pos rfl,hx]
 ·rw[if_neg e,if_neg (by omega)]
  simp[List.getD,hi]
theorem abh{a b c:Int}:((aV (fun k=>fu N R (R.getD k (0,[]))) R.length).map fun(n:Nat)=>(n:Int)).map (fun i=>R.getD i.toNat (0,[]))=aM N R ⟨5,a,b,c⟩:=by
 have h1:aM N R ⟨5,a,b,c⟩=(List.range R.length).flatMap fun k=>if fu N R (R.getD k (0,[])) then [R.getD k (0,[])] else []:=by
  unfold aM jU;simp only;rw[if_neg (by decide),if_neg (by decide),List.append_nil]
  congr 1
 rw[h1,G6 (fun k=>fu N R (R.getD k (0,[]))) (fun k=>R.getD k (0,[]))];rw[List.map_map];rfl
theorem abj(P:List Ru){ka:Nat}(hk:ka<R.length):((List.range R.length).flatMap fun k=>if k=ka then P else [R.getD k (0,[])])=R.take ka++P++R.drop (ka+1):=by
 have key:∀n,n<=R.length->((List.range n).flatMap fun k=>if k=ka then P else [R.getD k (0,[])])=if n<=ka then R.take n else R.take ka++P++(R.take n).drop (ka+1):=by
  intro n
  induction n with
  |zero=>intro _;simp
  |succ n ih=>
   intro hn;have hnl:n<R.length:=by omega
   have e:R.getD n (0,[])=R[n]:=by simp[List.getD,hnl]
   rw[List.range_succ,List.flatMap_append,ih (by omega),List.flatMap_singleton];by_cases h1:n=ka
   ·subst h1
    rw[if_pos (Nat.le_refl _),if_pos rfl,if_neg (by omega)];rw[List.drop_eq_nil_of_le (by rw[List.length_take];omega),List.append_nil]
   ·rw[if_neg h1,e,List.take_succ_eq_append_getElem hnl]
    by_cases h2:n<=ka
    ·rw[if_pos h2,if_pos (by omega)]
    ·rw[if_neg h2,if_neg (by omega),List.drop_append_of_le_length (by rw[List.length_take];omega),List.append_assoc]
 have h:=key R.length (Nat.le_refl _);rw[if_neg (by omega),List.take_length]at h;exact h
theorem abk{ka bn:Nat}{L X:Int}{l:List Sy}(hk:ka<R.length)(hx:R.getD ka (0,[])=(L,l))(hX:l.getD bn (false,0)=(false,X)):R.take ka++((aV (fun k=>decide ((R.getD k (0,[])).1=X)) R.length).map fun(n:Nat)=>(n:Int)).map (fun i=>(L,l.take bn++(R.getD i.toNat (0,[])).2++l.drop (bn+1)))++R.drop (ka+1)=aM N R ⟨3,ka,bn,0⟩:=by
 have h1:aM N R ⟨3,ka,bn,0⟩=(List.range R.length).flatMap fun k=>if k=ka then (R.filter fun x=>decide (x.1=X)).map (Ae bn (L,l)) else [R.getD k (0,[])]:=by
  unfold aM jU;simp only;rw[if_neg (by decide),if_neg (by decide),List.append_nil];refine G5 _ fun k _=> ?_;unfold mP;simp only;rw[if_neg (by decide),if_neg (by decide),if_pos trivial];by_cases e:k=ka
  ·subst e
   rw[if_pos rfl,if_pos rfl,hx];simp only[Int.toNat_natCast,hX]
  ·rw[if_neg e,if_neg (by omega)]
 rw[h1,abj _ hk,Qz X,List.map_map,List.map_map]
 congr 2
end
end Go.Proofs.YtpkmpkphfflpjaaGreat
namespace Go.Proofs.YtpkmpkphfflpjaaGreat
open Go.RowKit
theorem abl{w:World}{T:Int}{N ka bn cn m:Nat}{ra:Option Addr}{rc:Nat}{op fr fo:Int}{R:List Ru}{L:Int}{l:List Sy}(hr:aD w w.heap.size (.slice ra R.length rc) R)(hl:R.length<=1000)(hl2:∀q,q<R.length->(R.getD q (0,[])).2.length<=1000)(hN:N<=1000)(hk:ka<R.length)(hx:R.getD ka (0,[])=(L,l))(hbc:bn<cn)(hcl:l.length=cn+m):
 Calls Tryz.prog 140 #[.agg #[.int .i64 T,.int .i64 N,.slice ra R.length rc,.int .i64 op,.int .i64 ka,.int .i64 bn,.int .i64 cn,.int .i64 fr,.int .i64 fo]] w fun e w'=> ∃lv RL,e= .returned (.agg #[.int .i64 T,.int .i64 (N+1),lv])/\bA w' w.heap.size lv RL/\(RL.map fun x=>x.2)=R.set ka (L,l.take bn++(false,(N:Int))::l.drop cn)++[((N:Int),(l.take cn).drop bn)]/\Below w.heap.size w w':=by
 obtain⟨cs,hcs⟩:∃cs:Array Value,#[.int .i64 T,.int .i64 N,.slice ra R.length rc,.int .i64 op,.int .i64 ka,.int .i64 bn,.int .i64 cn,.int .i64 fr,.int .i64 fo]=cs:=⟨_,rfl⟩;have hC0:cu w cs 110 ra rc R ((w.alloc (.cells cs 110)).alloc (.cells #[.int .i64 0,.int .i64 0,.slice none 0 0] 24)):=Gl hr;rw[<-hcs]at hC0;obtain⟨W0,hW0⟩:∃W,(w.alloc (.cells #[.int .i64 T,.int .i64 N,.slice ra R.length rc,.int .i64 op,.int .i64 ka,.int .i64 bn,.int .i64 cn,.int .i64 fr,.int .i64 fo] 110)).alloc (.cells #[.int .i64 0,.int .i64 0,.slice none 0 0] 24)=W:=⟨_,rfl⟩;rw[hW0,hcs]at hC0;have uP:Hid (#[.int .i64 T,.int .i64 N,.slice ra R.length rc,.int .i64 op,.int .i64 ka,.int .i64 bn,.int .i64 cn,.int .i64 fr,.int .i64 fo]=cs):=hcs
 have dA:Hid (∀wq,cu w cs 110 ra rc R wq->wq.cell? ⟨w.heap.size,0,none⟩=some (.int .i64 T)/\wq.cell? ⟨w.heap.size,1,none⟩=some (.int .i64 N)/\wq.cell? ⟨w.heap.size,2,none⟩=some (.slice ra R.length rc)/\wq.cell? ⟨w.heap.size,3,none⟩=some (.int .i64 op)/\wq.cell? ⟨w.heap.size,4,none⟩=some (.int .i64 ka)/\wq.cell? ⟨w.heap.size,5,none⟩=some (.int .i64 bn)/\wq.cell? ⟨w.heap.size,6,none⟩=some (.int .i64 cn)):=fun wq hq=>by
  refine⟨hq.cell ?_,hq.cell ?_,hq.cell ?_,hq.cell ?_,hq.cell ?_,hq.cell ?_,hq.cell ?_⟩<;>(rw[<-uP.out];rfl)
 obtain⟨x0,x1,x2,x3,x4,x5,x6⟩:=dA.out W0 hC0;obtain⟨b0,o0,nX,qa,qc,hv,_,k1,k2,hsy⟩:=hC0.rules.jF hk;cases hv;have lJ:=hl2 ka hk;rw[hx]at k1 k2 hsy lJ;simp only at k1 k2 hsy lJ;have hqc:l.length<=qc:=by obtain⟨_,_,hv,hle⟩:=hsy.1;cases hv;exact hle
 obtain⟨ad,rfl⟩:=hsy.Gn (by omega);rw[hcl]at k2 lJ hqc
 have kT:Hid (∀wq,cu w cs 110 (some ⟨b0,o0,none⟩) rc R wq->Below W0.heap.size W0 wq->bK wq (.slice (some ad) (cn+m) qc) l):=fun wq _ hB=>by
  have:=hsy.same (iT hB);rw[hcl]at this;exact this
 have lm:Hid (cu w cs 110 (some ⟨b0,o0,none⟩) rc R W0):=hC0;have cop:=Gj (w:=W0) (T:=T) (N:=N) (op:=op) (a:=ka) (b:=bn) (c:=cn) (hC0.rules.mono (Nat.le_trans (by omega) hC0.size)) hl hl2;have HX:Hid (R.getD ka (0,[])=(L,l)/\l.length=cn+m):=⟨hx,hcl⟩;have i0:(0:Int)<=(ka:Int):=Int.natCast_nonneg _;have i1:(ka:Int)<(R.length:Int):=by omega
 clear hr hl2 hx hcl hC0 hcs hsy
 go_enter Tryz.func140,Tryz.ntmps140
 go_upto_region 3 with(go_at_call 134;refine cop.mono ?_;rintro e wq ⟨lv,RL,rfl,hO,hmap,qp⟩;clear cop)
 have hlen:RL.length=R.length:=by rw[<-hmap,List.length_map]
 obtain⟨g,cap,hlv,hg0,_⟩:=hO.pY.form (by omega);subst hlv;obtain⟨Wd,hWd⟩:∃W,wq.drew=W:=⟨_,rfl⟩;have hBd:Below W0.heap.size W0 Wd:=by rw[<-hWd];exact qp.drew
 have rF:cu w cs 110 (some ⟨b0,o0,none⟩) rc R Wd:=lm.out.next hBd
 have lq:bA Wd (w.heap.size+2) (.slice (some ⟨g,0,none⟩) RL.length cap) RL:=by
  have:=(hO.CX.mono lm.out.size).below (w':=Wd) (by rw[<-hWd];exact(Below.refl _ _).drew);exact this
 have HM:Hid ((RL.map fun x=>x.2)=R/\RL.length=R.length):=⟨hmap,hlen⟩;have iX:Hid (bA Wd (w.heap.size+2) (.slice (some ⟨g,0,none⟩) RL.length cap) RL):=lq;have eU:Hid (cu w cs 110 (some ⟨b0,o0,none⟩) rc R Wd):=rF;have eP:Hid (Below W0.heap.size W0 Wd):=hBd;rw[hlen];have hup:=fun w=>CY (ad:=ad) (f:=bn) (sl:=cn+m) (lc:=qc) (fi:=(bn:Int)) rfl (by omega) w;obtain⟨A,hA,hA'⟩:=Kn (la:=some ad) (f:=cn) (n:=m) (sl:=cn+m) (lc:=qc) (fi:=(cn:Int)) rfl rfl;have zo:Hid (qc≠cn->A=(some ad).map (·.add (cn*2))):=hA';have S0:=dA.out Wd rF;clear hO hmap hlen qp rF lq hBd hA' k1 k2 x0 x1 x2 x3 x4 x5 x6 hW0;refine iw [0,1,2,3,4,5,6,7,8,9,10,11,12,15,16,17,18,19,20] 7 25 (fun wq=>wq.cell? ⟨w.heap.size,0,none⟩=some (.int .i64 T)/\wq.cell? ⟨w.heap.size,1,none⟩=some (.int .i64 N)/\wq.cell? ⟨w.heap.size,2,none⟩=some (.slice (some ⟨b0,o0,none⟩) R.length rc)/\wq.cell? ⟨w.heap.size,3,none⟩=some (.int .i64 op)/\wq.cell? ⟨w.heap.size,4,none⟩=some (.int .i64 ka)/\wq.cell? ⟨w.heap.size,5,none⟩=some (.int .i64 bn)/\wq.cell? ⟨w.heap.size,6,none⟩=some (.int .i64 cn)) (by kernel_rfl) (by kernel_rfl) (by rw[hWd];exact S0) ?_;rw[hWd];clear hWd S0
 iterate 19
  refine aU.gN (v:= ?_) rfl (by rfl) ?_ ?_;rotate_left
  ·intro w' hSw
   obtain⟨z0,z1,z2,z3,z4,z5,z6⟩:=hSw
   go_simp
   try with_reducible rfl
  simp only[Act.put,List.setIfInBounds_toArray,List.set_cons_zero,List.set_cons_succ]
 rw[aU];have mo:=yG (w:=Wd) (T:=T) (N:=N) (ra:=some ⟨b0,o0,none⟩) (rn:=R.length) (rc:=rc) (op:=op) (a:=ka) (b:=bn) (c:=cn);refine ax.one (i:=13) (by kernel_rfl) ⟨_,rfl,fun K hK=> ?_⟩
 go_simp
 refine mo.mono ?_;rintro e w3 ⟨rfl,hB3⟩;dsimp only;have Td:=eU.out.next hB3;refine hK.out _ _ (fun _=>dA.out w3 Td) ?_;clear hK mo;have hB4:Below Wd.heap.size Wd (w3.alloc (.cells #[.bool false,.int .i64 N] 104)):=hB3.alloc hB3.size _;refine ax.one (i:=14) (by kernel_rfl) ⟨_,rfl,fun K hK=> ?_⟩
 go_simp
 refine hK.out _ _ (fun _=>dA.out _ (eU.out.next hB4)) ?_;clear hK;obtain⟨w4,hw4⟩:∃W,w3.alloc (.cells #[.bool false,.int .i64 N] 104)=W:=⟨_,rfl⟩;have hsr:bK w4 (.slice (some ⟨w3.heap.size,0,none⟩) 1 1) [(false,(N:Int))]:=by rw[<-hw4];exact Yd
 rw[hw4]at hB4⊢;clear hw4;have ay:Below w4.heap.size w4 (w4.alloc (.cells #[.slice (some ad) bn qc,.slice (some ⟨w3.heap.size,0,none⟩) 1 1,.slice A m (qc-cn)] 77)):=(Below.refl _ _).alloc (Nat.le_refl _) _;refine ax.one (i:=21) (by kernel_rfl) ⟨_,rfl,fun K hK=> ?_⟩
 go_simp
 have dU:Below Wd.heap.size Wd (w4.alloc (.cells #[.slice (some ad) bn qc,.slice (some ⟨w3.heap.size,0,none⟩) 1 1,.slice A m (qc-cn)] 77)):=hB4.trans (ay.mono hB4.size);refine hK.out _ _ (fun _=>dA.out _ (eU.out.next dU)) ?_;clear hK;obtain⟨w5,kg⟩:∃W,w4.alloc (.cells #[.slice (some ad) bn qc,.slice (some ⟨w3.heap.size,0,none⟩) 1 1,.slice A m (qc-cn)] 77)=W:=⟨_,rfl⟩;have p0:w5.cell? ⟨w4.heap.size,0,none⟩=some (.slice (some ad) bn qc):=by rw[<-kg];exact ah (heap_alloc_new _ _) rfl
 have p1:w5.cell? ⟨w4.heap.size,1,none⟩=some (.slice (some ⟨w3.heap.size,0,none⟩) 1 1):=by rw[<-kg];exact ah (heap_alloc_new _ _) rfl
 have p2:w5.cell? ⟨w4.heap.size,2,none⟩=some (.slice A m (qc-cn)):=by rw[<-kg];exact ah (heap_alloc_new _ _) rfl
 rw[kg]at ay dU⊢;clear kg
 have hs5:bK w5 (.slice (some ad) l.length qc) l:=by
  rw[HX.out.2];exact kT.out w5 (eU.out.next dU) (eP.out.trans (dU.mono eP.out.size))
 have hlt:(l.take bn).length=bn:=by rw[List.length_take,HX.out.2];omega
 have hld:(l.drop cn).length=m:=by rw[List.length_drop,HX.out.2];omega
 have cc:=Qc p0 p1 p2 (hs5.Ar (f:=bn) (by rw[HX.out.2];omega)) (hsr.same (iT ay)) (hs5.Gm HX.out.2 zo.out) (by rw[hlt,hld];simp only[List.length_singleton];omega);rw[hlt,hld]at cc;simp only[List.length_singleton]at cc;refine ax.one (i:=22) (by kernel_rfl) ⟨_,rfl,fun K hK=> ?_⟩
 go_simp
 refine cc.mono ?_;rintro e w6 ⟨a6,d6,rfl,hown6,aK⟩;dsimp only;have dL:Below Wd.heap.size Wd w6:=dU.trans (aK.mono dU.size);refine hK.out _ _ (fun _=>dA.out _ (eU.out.next dL)) ?_;clear hK cc;refine ax.one (i:=23) (by kernel_rfl) ⟨_,rfl,fun K hK=> ?_⟩
 go_simp
 refine hK.out _ _ (fun _=>dA.out _ (eU.out.next dL)) ?_;clear hK;refine ax.one (i:=24) (by kernel_rfl) ⟨_,rfl,fun K hK=> ?_⟩
 go_simp
 refine hK.out _ _ (fun _=>dA.out _ (eU.out.next dL)) ?_;clear hK;have Br:=iX.out.below dL;obtain⟨u,hu⟩:∃u,(dN RL)[ka*2+1]?=some u:=⟨_,List.getElem?_eq_getElem (by rw[Al,HM.out.2];omega)⟩;have c6:w6.cell? ⟨g,ka*2+1,none⟩=some u:=(Br.own.cellAt (ka*2+1) (by rw[HM.out.2];omega)).trans hu;have f6:w6.frozen? ⟨g,ka*2+1,none⟩=false:=Br.own.frozenAt (ka*2+1);have abm:(l.take bn++[(false,(N:Int))]++l.drop cn).length=bn+1+m:=by rw[List.length_append,List.length_append,hlt,hld];rfl
 have hkr:ka<RL.length:=by rw[HM.out.2];exact hk
 have EA:=iX.out.PY (w5:=w6) (k:=ka) (v:= .slice a6 (bn+1+m) d6) (l:=l.take bn++[(false,(N:Int))]++l.drop cn) dL hkr (by rw[abm];exact jE hown6 dU.size);have IW:cu w cs 110 (some ⟨b0,o0,none⟩) rc R (w6.setCell ⟨g,ka*2+1,none⟩ (.slice a6 (bn+1+m) d6)):=eU.out.later ((dL.mono eU.out.size).setCell (by simp only;have:=eU.out.size;have:=lm.out.size;omega) _);refine ax.last (i:=25) (by kernel_rfl) ⟨_,rfl,fun K hK=> ?_⟩
 go_simp
 refine hK.out _ _ (fun h=>absurd h (by omega)) (NoPanic.normal ?_);clear hK;obtain⟨RM,IY⟩:∃RM,RL.set ka (.slice a6 (bn+1+m) d6,(RL[ka].2.1,l.take bn++[(false,(N:Int))]++l.drop cn))=RM:=⟨_,rfl⟩
 have Te:(RM.map fun x=>x.2)=R.set ka (L,l.take bn++(false,(N:Int))::l.drop cn):=by
  have e1:RL[ka].2=(L,l):=by
   have h1:(RL.map fun x=>x.2).getD ka (0,[])=(L,l):=by rw[HM.out.1];exact HX.out.1
   simpa [List.getD,hkr] using h1
  rw[<-IY,List.map_set,HM.out.1,e1];simp
 have hLen:RM.length=R.length:=by rw[<-IY,List.length_set];exact HM.out.2
 rw[IY,HM.out.2.trans hLen.symm]at EA;have jM:Hid (Below W0.heap.size W0 w6):=eP.out.trans (dL.mono eP.out.size);have hgs:w.heap.size+2<=g:=Nat.le_trans lm.out.size hg0;obtain⟨w7,hw7⟩:∃W,w6.setCell ⟨g,ka*2+1,none⟩ (.slice a6 (bn+1+m) d6)=W:=⟨_,rfl⟩
 have HS7:Hid (∀wq,Below w7.heap.size w7 wq->bK wq (.slice (some ad) l.length qc) l):=fun wq hB=>by
  have h0:=kT.out W0 lm.out (Below.refl _ _);rw[HX.out.2];refine bK.same (w:=w7) ?_ (iT hB);rw[<-hw7];have h6:=hs5.same (iT aK);rw[HX.out.2]at h6;refine⟨h6.1,fun j hj=> ?_⟩;obtain⟨b,o,c,h1,h2,h3⟩:=h0.2 j hj;obtain⟨b',o',c',h1',h2',h3'⟩:=h6.2 j hj;rw[h1]at h1';cases h1';have hbl:=World.block_lt_of_cell? _ _ h2;refine⟨b,o,c,h1,?_,?_⟩
  ·rw[dH (.inl (by simp only at hbl⊢;omega))];exact h2'
  ·rw[dH (.inl (by simp only at hbl⊢;omega))];exact h3'
 rw[hw7]at EA IW⊢;clear hw7 c6 f6 aK dL ay dU hB4 hB3 hs5 hsr hown6 p0 p1 p2 hu iX eU eP Td Br IY hkr;have Tf:Hid ((RM.map fun x=>x.2)=R.set ka (L,l.take bn++(false,(N:Int))::l.drop cn)):=Te;clear Te HM
 go_upto_region 4 with fail
 go_cut [4] from 44 to 72 (fun s4 wx=> ∃lv RK,lv=s4/\bA wx (w.heap.size+2) lv RK/\(RK.map fun x=>x.2)=R.set ka (L,l.take bn++(false,(N:Int))::l.drop cn)++[((N:Int),(l.take cn).drop bn)]/\cu w cs 110 (some ⟨b0,o0,none⟩) rc R wx)
 case first=>
  obtain⟨Wd,hWd⟩:∃W,w7.drew=W:=⟨_,rfl⟩;have bD:Below w7.heap.size w7 Wd:=by rw[<-hWd];exact(Below.refl _ _).drew
  have eU:Hid (cu w cs 110 (some ⟨b0,o0,none⟩) rc R Wd):=IW.next bD;have iX:Hid (bA Wd (w.heap.size+2) (.slice (some ⟨g,0,none⟩) RM.length cap) RM):=EA.below bD;have HLen:Hid (RM.length=R.length):=hLen;obtain⟨nn,hnn⟩:∃nn,cn=bn+nn:=⟨cn-bn,by omega⟩;have hlc:(l.take cn).length=cn:=by rw[List.length_take,HX.out.2];omega
  have Bu:Hid (((l.take cn).drop bn).length=nn):=by show _=_;rw[List.length_drop,hlc];omega
  obtain⟨A2,hA2,EB⟩:=Yb (ad:=ad) (f:=bn) (n:=nn) (g:=cn) (sl:=cn+m) (lc:=qc) (fi:=(bn:Int)) (gi:=(cn:Int)) rfl rfl hnn (by omega)
  have Tg:Hid (∀wq,Below Wd.heap.size Wd wq->bK wq (.slice A2 nn (qc-bn)) ((l.take cn).drop bn)):=fun wq hB=>by
   have h1:=(HS7.out wq (bD.trans (hB.mono bD.size))).Ar (f:=cn) (by rw[HX.out.2];omega);have h2:bK wq (.slice (some ad) (l.take cn).length qc) (l.take cn):=by rw[hlc];exact h1
   exact h2.Gm (by rw[hlc];exact hnn) (fun h=>by rw[EB h];rfl)
  have S0:=dA.out Wd eU.out;have uD:Hid (cn=bn+nn):=hnn;have aaT:R.length+1<=1001:=by omega
  clear bD IW EA hLen EB hnn hlc;refine iw [0,1,2,5,6,7,8,9,10,11,12,13,14] 8 20 (fun wq=>wq.cell? ⟨w.heap.size,0,none⟩=some (.int .i64 T)/\wq.cell? ⟨w.heap.size,1,none⟩=some (.int .i64 N)/\wq.cell? ⟨w.heap.size,2,none⟩=some (.slice (some ⟨b0,o0,none⟩) R.length rc)/\wq.cell? ⟨w.heap.size,3,none⟩=some (.int .i64 op)/\wq.cell? ⟨w.heap.size,4,none⟩=some (.int .i64 ka)/\wq.cell? ⟨w.heap.size,5,none⟩=some (.int .i64 bn)/\wq.cell? ⟨w.heap.size,6,none⟩=some (.int .i64 cn)) (by kernel_rfl) (by kernel_rfl) (by rw[hWd];exact S0) ?_;rw[hWd];clear hWd S0
  iterate 13
   refine aU.gN (v:= ?_) rfl (by rfl) ?_ ?_;rotate_left
   ·intro w' hSw
    obtain⟨z0,z1,z2,z3,z4,z5,z6⟩:=hSw
    go_simp
    try with_reducible rfl
   simp only[Act.put,List.setIfInBounds_toArray,List.set_cons_zero,List.set_cons_succ]
  rw[aU];refine ax.two (i:=3) (i':=15) (by kernel_rfl) ⟨_,rfl,fun K hK=> ?_⟩ ⟨_,rfl,fun K hK=> ?_⟩
  ·have mo:=yG (w:=Wd) (T:=T) (N:=N) (ra:=some ⟨b0,o0,none⟩) (rn:=R.length) (rc:=rc) (op:=op) (a:=ka) (b:=bn) (c:=cn)
   go_simp
   refine mo.mono ?_;rintro e w3 ⟨rfl,hB3⟩;dsimp only;refine hK.out _ _ (fun _=>dA.out w3 (eU.out.next hB3)) ?_;clear hK mo;refine ax.read (i:=4) (v:= .int .i64 N) rfl (by kernel_rfl) (by rfl) (fun w' _=>by unfold execOp;go_simp;unfold Instr.field asAgg;go_simp) (dA.out w3 (eU.out.next hB3)) ?_;simp only[Act.put,List.setIfInBounds_toArray,List.set_cons_zero,List.set_cons_succ];have aP:Below Wd.heap.size Wd (w3.alloc (.cells #[.slice A2 nn (qc-bn)] 77)):=hB3.alloc hB3.size _;refine ax.one (i:=15) (by kernel_rfl) ⟨_,rfl,fun K hK=> ?_⟩
   go_simp
   refine hK.out _ _ (fun _=>dA.out _ (eU.out.next aP)) ?_;clear hK;have qB:(w3.alloc (.cells #[.slice A2 nn (qc-bn)] 77)).cell? ⟨w3.heap.size,0,none⟩=some (.slice A2 nn (qc-bn)):=ah (heap_alloc_new _ _) rfl;obtain⟨pz,hpz⟩:∃x,w3.heap.size=x:=⟨_,rfl⟩;obtain⟨wz,hwz⟩:∃W,w3.alloc (.cells #[.slice A2 nn (qc-bn)] 77)=W:=⟨_,rfl⟩;rw[hwz]at aP qB⊢;rw[hpz]at qB⊢;clear hwz hpz hB3;have cc:=Qd (w:=wz) (pb:=pz) (va:= .slice A2 nn (qc-bn)) (la:=(l.take cn).drop bn) qB (Tg.out wz aP) (by rw[Bu.out];have:=uD.out;omega);rw[Bu.out]at cc;refine ax.one (i:=16) (by kernel_rfl) ⟨_,rfl,fun K hK=> ?_⟩
   go_simp
   refine cc.mono ?_;rintro e wa ⟨aa,da,rfl,MS,hBa⟩;dsimp only;have vR:Below Wd.heap.size Wd wa:=aP.trans (hBa.mono aP.size);refine hK.out _ _ (fun _=>dA.out _ (eU.out.next vR)) ?_;clear hK cc;refine ax.one (i:=17) (by kernel_rfl) ⟨_,rfl,fun K hK=> ?_⟩
   go_simp
   refine hK.out _ _ (fun _=>dA.out _ (eU.out.next vR)) ?_;clear hK;have hBb:Below Wd.heap.size Wd (wa.alloc (.cells #[.int .i64 N,.slice aa nn da] 79)):=vR.alloc vR.size _;have hrow:dI (wa.alloc (.cells #[.int .i64 N,.slice aa nn da] 79)) (.slice (some ⟨wa.heap.size,0,none⟩) 1 1) 1 [.int .i64 N,.slice aa nn da]:=Ap;have zq:=own_below iX.out.own hBb fun g hg=>(iX.out.own.lt g hg).2;rw[HLen.out]at zq;have hsb:w.heap.size+2<=(wa.alloc (.cells #[.int .i64 N,.slice aa nn da] 79)).heap.size:=Nat.le_trans eU.out.size hBb.size;refine ax.one (i:=18) (by kernel_rfl) ⟨_,rfl,fun K hK=> ?_⟩
   go_simp
   refine hK.out _ _ (fun _=>dA.out _ (eU.out.next hBb)) ?_;clear hK;refine ax.one (i:=19) (by kernel_rfl) ⟨_,rfl,fun K hK=> ?_⟩;refine PN rfl _ _ rfl rfl rfl rfl zq hrow hsb (by omega) ?_;intro a' d' wc hown6 hgrow hat;have jw:Below (w.heap.size+2) Wd wc:=(hBb.mono eU.out.size).grown hgrow hsb fun k hk=>(zq.lt k hk).1;have EC:=eU.out.later jw;refine hK.out _ _ (fun _=>dA.out _ EC) ?_;clear hK
   have xG:bA wc (w.heap.size+2) (.slice a' (R.length+1) d') (RM++[(.slice aa nn da,((N:Int),(l.take cn).drop bn))]):=by
    refine iX.out.Gp (w5:=wa.alloc (.cells #[.int .i64 N,.slice aa nn da] 79)) eU.out.size hBb ?_ hgrow ?_ ?_
    ·rw[Bu.out]
     exact jE (MS.alloc _) aP.size
    ·rw[Ao,HLen.out]
     exact hown6
    ·intro g hg
     exact(hat g hg).imp id fun e=>by omega
   refine ax.last (i:=20) (by kernel_rfl) ⟨_,rfl,fun K hK=> ?_⟩
   go_simp
   refine hK.out _ _ (fun h=>absurd h (by omega)) (NoPanic.normal ?_);clear hK
   go_wp2_with fail
   go_meet
   case rel=>exact⟨_,_,rfl,xG,by rw[List.map_append,Tf.out];rfl,EC⟩
  ·have cZ:Below Wd.heap.size Wd (Wd.alloc (.cells #[.slice A2 nn (qc-bn)] 77)):=(Below.refl _ _).alloc (Nat.le_refl _) _
   go_simp
   refine hK.out _ _ (fun _=>dA.out _ (eU.out.next cZ)) ?_;clear hK;have sZ:(Wd.alloc (.cells #[.slice A2 nn (qc-bn)] 77)).cell? ⟨Wd.heap.size,0,none⟩=some (.slice A2 nn (qc-bn)):=ah (heap_alloc_new _ _) rfl;obtain⟨pz,hpz⟩:∃x,Wd.heap.size=x:=⟨_,rfl⟩;obtain⟨wy,kZ⟩:∃W,Wd.alloc (.cells #[.slice A2 nn (qc-bn)] 77)=W:=⟨_,rfl⟩;rw[kZ]at cZ sZ⊢;rw[hpz]at sZ⊢;clear kZ;have mo:=yG (w:=wy) (T:=T) (N:=N) (ra:=some ⟨b0,o0,none⟩) (rn:=R.length) (rc:=rc) (op:=op) (a:=ka) (b:=bn) (c:=cn);refine ax.one (i:=3) (by kernel_rfl) ⟨_,rfl,fun K hK=> ?_⟩;clear hpz
   go_simp
   refine mo.mono ?_;rintro e wz ⟨rfl,hB3⟩;dsimp only;have aP:Below Wd.heap.size Wd wz:=cZ.trans (hB3.mono cZ.size);have qB:=(hB3.cell (World.block_lt_of_cell? _ _ sZ)).trans sZ;refine hK.out _ _ (fun _=>dA.out wz (eU.out.next aP)) ?_;clear hK mo;refine ax.read (i:=4) (v:= .int .i64 N) rfl (by kernel_rfl) (by rfl) (fun w' _=>by unfold execOp;go_simp;unfold Instr.field asAgg;go_simp) (dA.out wz (eU.out.next aP)) ?_;simp only[Act.put,List.setIfInBounds_toArray,List.set_cons_zero,List.set_cons_succ];clear hB3 cZ sZ;have cc:=Qd (w:=wz) (pb:=pz) (va:= .slice A2 nn (qc-bn)) (la:=(l.take cn).drop bn) qB (Tg.out wz aP) (by rw[Bu.out];have:=uD.out;omega);rw[Bu.out]at cc;refine ax.one (i:=16) (by kernel_rfl) ⟨_,rfl,fun K hK=> ?_⟩
   go_simp
   refine cc.mono ?_;rintro e wa ⟨aa,da,rfl,MS,hBa⟩;dsimp only;have vR:Below Wd.heap.size Wd wa:=aP.trans (hBa.mono aP.size);refine hK.out _ _ (fun _=>dA.out _ (eU.out.next vR)) ?_;clear hK cc;refine ax.one (i:=17) (by kernel_rfl) ⟨_,rfl,fun K hK=> ?_⟩
   go_simp
   refine hK.out _ _ (fun _=>dA.out _ (eU.out.next vR)) ?_;clear hK;have hBb:Below Wd.heap.size Wd (wa.alloc (.cells #[.int .i64 N,.slice aa nn da] 79)):=vR.alloc vR.size _;have hrow:dI (wa.alloc (.cells #[.int .i64 N,.slice aa nn da] 79)) (.slice (some ⟨wa.heap.size,0,none⟩) 1 1) 1 [.int .i64 N,.slice aa nn da]:=Ap;have zq:=own_below iX.out.own hBb fun g hg=>(iX.out.own.lt g hg).2;rw[HLen.out]at zq;have hsb:w.heap.size+2<=(wa.alloc (.cells #[.int .i64 N,.slice aa nn da] 79)).heap.size:=Nat.le_trans eU.out.size hBb.size;refine ax.one (i:=18) (by kernel_rfl) ⟨_,rfl,fun K hK=> ?_⟩
   go_simp
   refine hK.out _ _ (fun _=>dA.out _ (eU.out.next hBb)) ?_;clear hK;refine ax.one (i:=19) (by kernel_rfl) ⟨_,rfl,fun K hK=> ?_⟩;refine PN rfl _ _ rfl rfl rfl rfl zq hrow hsb (by omega) ?_;intro a' d' wc hown6 hgrow hat;have jw:Below (w.heap.size+2) Wd wc:=(hBb.mono eU.out.size).grown hgrow hsb fun k hk=>(zq.lt k hk).1;have EC:=eU.out.later jw;refine hK.out _ _ (fun _=>dA.out _ EC) ?_;clear hK
   have xG:bA wc (w.heap.size+2) (.slice a' (R.length+1) d') (RM++[(.slice aa nn da,((N:Int),(l.take cn).drop bn))]):=by
    refine iX.out.Gp (w5:=wa.alloc (.cells #[.int .i64 N,.slice aa nn da] 79)) eU.out.size hBb ?_ hgrow ?_ ?_
    ·rw[Bu.out]
     exact jE (MS.alloc _) aP.size
    ·rw[Ao,HLen.out]
     exact hown6
    ·intro g hg
     exact(hat g hg).imp id fun e=>by omega
   refine ax.last (i:=20) (by kernel_rfl) ⟨_,rfl,fun K hK=> ?_⟩
   go_simp
   refine hK.out _ _ (fun h=>absurd h (by omega)) (NoPanic.normal ?_);clear hK
   go_wp2_with fail
   go_meet
   case rel=>exact⟨_,_,rfl,xG,by rw[List.map_append,Tf.out];rfl,EC⟩
 case rest=>
  obtain⟨lv,RK,rfl,MU,Ti,MV⟩:=hcut;clear EA IW;obtain⟨la,lc,hlv⟩:=aY MU.own;subst hlv;obtain⟨x0,x1,x2,x3,x4,x5,x6⟩:=dA.out wc MV;have HC8:Hid (cu w cs 110 (some ⟨b0,o0,none⟩) rc R wc):=MV;have MW:Hid (bA wc (w.heap.size+2) (.slice la RK.length lc) RK):=MU;have El:Hid ((RK.map fun x=>x.2)=R.set ka (L,l.take bn++(false,(N:Int))::l.drop cn)++[((N:Int),(l.take cn).drop bn)]):=Ti;have wi:=CV (w:=wc) (T:=T) (N:=N) (ra:=some ⟨b0,o0,none⟩) (rn:=R.length) (rc:=rc) (op:=op) (a:=ka) (b:=bn) (c:=cn) (M:=(N:Int)+1) (oa:=la) (on:=RK.length) (oc:=lc);clear MV MU Ti
  go_wp2_with
   (go_at_call 136;refine wi.mono ?_;rintro e w3 ⟨rfl,hB3⟩
    have gH:Hid (cu w cs 110 (some ⟨b0,o0,none⟩) rc R w3):=HC8.out.next hB3;have zn:Hid (bA w3 (w.heap.size+2) (.slice la RK.length lc) RK):=MW.out.below hB3;have y0:=gH.out.y0;have y1:=gH.out.y1;have y2:=gH.out.y2;have eB:=gH.out.yf 0;have eD:=gH.out.yf 1;have Aq:=gH.out.yf 2
    clear wi hB3)
  have q0:=tX (v0:= .int .i64 T) (v1:= .int .i64 (N+1)) (v2:= .slice la RK.length lc) y0;have q1:=tY (v0:= .int .i64 T) (v1:= .int .i64 (N+1)) (v2:= .slice la RK.length lc) y1;have q2:=tZ (v0:= .int .i64 T) (v1:= .int .i64 (N+1)) (v2:= .slice la RK.length lc) y2;refine bodyPost_ret (v:= .agg #[.int .i64 T,.int .i64 (N+1),.slice la RK.length lc]) (by simp[results,Tryz.results140,go_sem,q0,q1,q2]) rfl ?_;have ho:=gH.out.out zn.out (.int .i64 T) (.int .i64 (N+1)) (.slice la RK.length lc);exact⟨_,RK,rfl,ho.1,El.out,ho.2⟩
end Go.Proofs.YtpkmpkphfflpjaaGreat
