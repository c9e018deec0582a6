import Derived.Test.YtblkkhfdeaaidaaGreatDoorStOfPAndStSwap
import Derived.Test.YtblkkhfdeaaidaaGreatDoorRef3MathAndGrowMath
import Derived.Test.YtblkkhfdeaaidaaGreatDoorStCxAndLeft3
set_option maxHeartbeats 12800000
set_option maxRecDepth 100000
namespace Go.Proofs.YtblkkhfdeaaidaaGreatDoor
open Go.RowKit
def zG(a b:Int)(r:Ru):Ru:=(rU a b r.1,r.2.map (zw a b))
theorem aeM{RL:List (Value×Ru)}{k:Nat}(hk:k<RL.length)(L:Int)(l:List Sy):(cO RL).set (k*2) (.int .i64 L)=cO (RL.set k (RL[k].1,(L,l))):=by
 unfold cO
 induction RL generalizing k with
 |nil=>simp at hk
 |cons a RL ih=>
  cases k with
  |zero=>simp[jB]
  |succ k=>
   have:=ih (k:=k) (by simpa using hk);rw[List.flatMap_cons,List.set_cons_succ,List.flatMap_cons,List.set_append_right _ _ (by simp[jB];omega)];simp only[jB,List.length_cons,List.length_nil,List.getElem_cons_succ]at this⊢;rw[show (k+1)*2-(0+1+1)=k*2 by omega,this]
theorem ah.aeN{w w1:World}{B g cap k:Nat}{RL:List (Value×Ru)}(h:ah w B (gQ (.slice (some ⟨g,0,none⟩) RL.length cap) RL))(hk:k<RL.length)(L:Int)(l:List Sy)(hl:l.length=RL[k].2.2.length)
 (ho:w1.ownsRow B 116 2 RL[k].1 l.length (aR l)) (hK:Kept (fun b=>RL[k].1.ownBlock=some b) (w.setCell ⟨g,k*2,none⟩ (.int .i64 L)) w1):ah w1 B (gQ (.slice (some ⟨g,0,none⟩) RL.length cap) (RL.set k (RL[k].1,(L,l)))):=by
 have h1:=h.store (i:=none) (g:=g) (n:=RL.length) (cap:=cap) (e:=91) (size:=2) (xs:=cO RL) rfl (k*2) (.int .i64 L)
 have hn:∀j a,upd (gQ (.slice (some ⟨g,0,none⟩) RL.length cap) RL) none ⟨.slice (some ⟨g,0,none⟩) RL.length cap,91,2,RL.length,(cO RL).set (k*2) (.int .i64 L)⟩ j=some a->j≠some k->w1.ownsRow B a.e a.size a.v a.n a.xs:=fun j a ha hj=>by
  have o:=h1.own j a ha;obtain⟨z1,z2|⟨g',c',cur,e,z2,z3,z4⟩⟩:=o
  ·exact⟨z1,.inl z2⟩
  ·refine⟨z1,.inr ⟨g',c',cur,e,z2,?_,z4⟩⟩
   have hlt:=(Array.getElem?_eq_some_iff.1 z3).1;rw[hK.block g' hlt fun e'=> ?_]
   ·exact z3
   ·have hb:a.v.ownBlock=some g':=by rw[e];rfl
    exact h1.apart j (some k) a _ hj ha (by rw[ql _ (by simp)];exact um hk) g' hb e'
 have h2:ah w1 B (upd (upd (gQ (.slice (some ⟨g,0,none⟩) RL.length cap) RL) none ⟨.slice (some ⟨g,0,none⟩) RL.length cap,91,2,RL.length,(cO RL).set (k*2) (.int .i64 L)⟩) (some k) ⟨RL[k].1,116,2,l.length,aR l⟩):=by
  refine h1.put ho (fun j a hj ha=>hn j a ha hj) fun j a hj ha g' e1 e2=> ?_;exact h1.apart j (some k) a ⟨RL[k].1,116,2,RL[k].2.2.length,aR RL[k].2.2⟩ hj ha (by rw[ql _ (by simp)];exact um hk) g' e1 e2
 have e:upd (upd (gQ (.slice (some ⟨g,0,none⟩) RL.length cap) RL) none ⟨.slice (some ⟨g,0,none⟩) RL.length cap,91,2,RL.length,(cO RL).set (k*2) (.int .i64 L)⟩) (some k) ⟨RL[k].1,116,2,l.length,aR l⟩=gQ (.slice (some ⟨g,0,none⟩) RL.length cap) (RL.set k (RL[k].1,(L,l))):=by
  funext j
  cases j with
  |none=>
   rw[ql _ (by simp),upd_same,aeM hk L l];show _=some _;rw[List.length_set]
  |some j=>
   by_cases hj:j=k
   ·subst hj
    rw[upd_same,um (by rw[List.length_set];exact hk)];simp
   ·rw[ql _ (by simpa using hj),ql _ (by simp)]
    show (RL[j]?).map _=((RL.set k _)[j]?).map _;rw[List.getElem?_set_ne (fun e=>hj e.symm)]
 rw[e]at h2;exact h2
theorem aeO{w:World}{T:Int}{N:Int}{ra:Option Addr}{rc:Nat}{op a b c:Int}{R:List Ru}(hr:au w w.heap.size (.slice ra R.length rc) R)(hl:R.length<=1000)(hl2:∀q,q<R.length->(R.getD q (0,[])).2.length<=1000):
 Calls Tryz.prog 223 #[.agg #[.int .i64 T,.int .i64 N,.slice ra R.length rc,.int .i64 op,.int .i64 a,.int .i64 b,.int .i64 c]] w fun e w'=> ∃lv RL,e= .returned (.agg #[.int .i64 T,.int .i64 N,lv])/\aM w' w.heap.size lv RL/\(RL.map fun x=>x.2)=R.map (zG a b)/\Below w.heap.size w w':=by
 obtain⟨cs,hcs⟩:∃cs:Array Value,#[.int .i64 T,.int .i64 N,.slice ra R.length rc,.int .i64 op,.int .i64 a,.int .i64 b,.int .i64 c]=cs:=⟨_,rfl⟩;have hC0:bI w cs 252 ra rc R ((w.alloc (.cells cs 252)).alloc (.cells #[.int .i64 0,.int .i64 0,.slice none 0 0] 26)):=IG hr;rw[<-hcs]at hC0;obtain⟨W0,hW0⟩:∃W,(w.alloc (.cells #[.int .i64 T,.int .i64 N,.slice ra R.length rc,.int .i64 op,.int .i64 a,.int .i64 b,.int .i64 c] 252)).alloc (.cells #[.int .i64 0,.int .i64 0,.slice none 0 0] 26)=W:=⟨_,rfl⟩;rw[hW0,hcs]at hC0;have tZ:Hid (#[.int .i64 T,.int .i64 N,.slice ra R.length rc,.int .i64 op,.int .i64 a,.int .i64 b,.int .i64 c]=cs):=hcs
 have bV:Hid (∀wq,bI w cs 252 ra rc R wq->wq.cell? ⟨w.heap.size,0,none⟩=some (.int .i64 T)/\wq.cell? ⟨w.heap.size,1,none⟩=some (.int .i64 N)/\wq.cell? ⟨w.heap.size,2,none⟩=some (.slice ra R.length rc)/\wq.cell? ⟨w.heap.size,3,none⟩=some (.int .i64 op)/\wq.cell? ⟨w.heap.size,4,none⟩=some (.int .i64 a)/\wq.cell? ⟨w.heap.size,5,none⟩=some (.int .i64 b)/\wq.cell? ⟨w.heap.size,6,none⟩=some (.int .i64 c)):=fun wq hq=>by
  refine⟨hq.cell ?_,hq.cell ?_,hq.cell ?_,hq.cell ?_,hq.cell ?_,hq.cell ?_,hq.cell ?_⟩<;>(rw[<-tZ.out];rfl)
 obtain⟨x0,x1,x2,x3,x4,x5,x6⟩:=bV.out W0 hC0;have cop:=IE (w:=W0) (T:=T) (N:=N) (op:=op) (a:=a) (b:=b) (c:=c) (hC0.rules.mono (Nat.le_trans (by omega) hC0.size)) hl hl2;have jL:Hid (bI w cs 252 ra rc R W0):=hC0
 have H2:Hid (∀q (hq:q<R.length),R[q].2.length<=1000):=fun q hq=>by
  have:=hl2 q hq;simpa [List.getD,hq] using this
 clear hr hl2 hC0 hcs
 go_enter Tryz.func223,Tryz.ntmps223
 go_upto_region 3 with(go_at_call 225;refine cop.mono ?_;rintro e wq ⟨lv,RL,rfl,hO,hmap,mr⟩;clear cop)
 have hlen:RL.length=R.length:=by rw[<-hmap,List.length_map]
 obtain⟨la,lc,hlv⟩:=bK hO.pX;subst hlv;have vL:Hid (Below W0.heap.size W0 wq):=mr;have HO:Hid (ah wq W0.heap.size (gQ (.slice la R.length lc) RL)/\(RL.map fun x=>x.2)=R/\RL.length=R.length):=⟨by rw[<-hlen];exact hO,hmap,hlen⟩;rw[hlen];clear hO hmap hlen mr x0 x1 x2 x3 x4 x5 x6 hW0
 go_wp2_with fail
 go_loopw [13] (fun s13 wr=> ∃(k:Nat) (RK:List (Value×Ru)),s13= .int .i64 k/\k<=R.length/\RK.length=R.length/\ah wr W0.heap.size (gQ (.slice la R.length lc) RK)/\(RK.map fun x=>x.2)=(R.take k).map (zG a b)++R.drop k/\Below W0.heap.size W0 wr) (fun s _=>R.length-(intOf s).toNat)
 case atStart=>exact⟨0,RL,rfl,Nat.zero_le _,HO.out.2.2,HO.out.1,by rw[HO.out.2.1];simp,vL.out⟩
 case round=>
  obtain⟨k,RK,rfl,hk,hlen,hO,hmap,hB⟩:=hrel;clear HO vL;have HO:Hid (ah wr W0.heap.size (gQ (.slice la R.length lc) RK)):=hO;have HM:Hid ((RK.map fun x=>x.2)=(R.take k).map (zG a b)++R.drop k/\RK.length=R.length):=⟨hmap,hlen⟩;have HB:Hid (Below W0.heap.size W0 wr):=hB;by_cases hlt:k<R.length
  ·have hkk:k<RK.length:=by omega
   have hat:RK[k].2=R[k]:=by
    have h1:((RK.map fun x=>x.2)[k]'(by rw[List.length_map];exact hkk))=R[k]:=by
     simp only[hmap];have hl:((R.take k).map (zG a b)).length=k:=by rw[List.length_map,List.length_take];omega
     rw[List.getElem_append_right (by omega)];simp only[hl,Nat.sub_self,List.getElem_drop,Nat.add_zero]
    simpa using h1
   have hsk:=hO.zy hkk;have hrow:=hO.pX;rw[hlen]at hrow;obtain⟨g,cap,zF,hg0,hg1⟩:=hrow.form (by omega);injection zF with e1 _ e3;subst e1 e3;have c1:=(hrow.cellAt (k*2) (by omega)).trans (IB (j:=0) hkk (by omega));have c2:=(hrow.cellAt (k*2+1) (by omega)).trans (IB (j:=1) hkk (by omega));have hgd:RK.getD k (.slice none 0 0,(0,[]))=RK[k]:=by simp[List.getD,hkk]
   rw[hgd]at c1 c2;obtain⟨⟨v,⟨L,l⟩⟩,hx⟩:∃x,RK[k]=x:=⟨_,rfl⟩;rw[hx]at c1 c2 hat hsk;simp only[jB,List.getElem?_cons_zero,List.getElem?_cons_succ]at c1 c2 hat hsk;have vX:=H2.out k hlt;rw[<-hat]at vX;simp only at vX;obtain⟨va,vc,hv⟩:=bK hsk;subst hv;have HX:Hid (RK[k]=(.slice va l.length vc,(L,l))/\R[k]=(L,l)):=⟨hx,hat.symm⟩;have f1:=hrow.frozenAt (k*2);obtain⟨W1,hW1⟩:∃W,wr.alloc (.cells #[.int .i64 L,.slice va l.length vc] 91)=W:=⟨_,rfl⟩;have hB1:Below wr.heap.size wr W1:=by rw[<-hW1];exact(Below.refl _ _).alloc (Nat.le_refl _) _
   have HB1:Hid (Below wr.heap.size wr W1):=hB1;have d0:W1.cell? ⟨wr.heap.size,0,none⟩=some (.int .i64 L):=by rw[<-hW1];exact aB (heap_alloc_new _ _) rfl
   have d1:W1.cell? ⟨wr.heap.size,1,none⟩=some (.slice va l.length vc):=by rw[<-hW1];exact aB (heap_alloc_new _ _) rfl
   have e1:=(hB1.cell (World.block_lt_of_cell? _ _ c1)).trans c1;have ef1:W1.frozen? ⟨g,k*2,none⟩=false:=(hB1.frozen (show g<_ from hg1)).trans f1;have vY:=jL.out.next (HB.out.trans (hB1.mono HB.out.size));have ot:=V4 (n:=L) (bV.out W1 vY).2.2.2.2.1 (bV.out W1 vY).2.2.2.2.2.1;have yL:ah W1 W0.heap.size (gQ (.slice (some ⟨g,0,none⟩) R.length lc) RK):=hO.below hB1 (Nat.le_refl _);have hgs:w.heap.size+2<=g:=Nat.le_trans jL.out.size hg0
   have d1':(W1.setCell ⟨g,k*2,none⟩ (.int .i64 (rU a b L))).cell? ⟨wr.heap.size,1,none⟩=some (.slice va l.length vc):=by
    rw[iE (.inl (by simp only;omega))];exact d1
   have hC2:bI w cs 252 ra rc R (W1.setCell ⟨g,k*2,none⟩ (.int .i64 (rU a b L))):=vY.later ((Below.refl _ _).setCell (by simp only;omega) _)
   have hne:∀b',(Value.slice va l.length vc).ownBlock=some b'->b'≠g:=fun b' hb' e=>by
    subst e;have hap:=hO.apart (some k) none _ _ (by simp) (um hkk) rfl b';rw[hx]at hap;exact hap hb' rfl
   have hs2:(W1.setCell ⟨g,k*2,none⟩ (.int .i64 (rU a b L))).ownsRow W0.heap.size 116 2 (.slice va l.length vc) l.length (aR l):=by
    have o:=own_below hsk hB1 fun g hg=>(hsk.lt g hg).2;obtain⟨z1,z2|⟨g',c',cur,e,z2,z3,z4⟩⟩:=o
    ·exact⟨z1,.inl z2⟩
    ·exact⟨z1,.inr ⟨g',c',cur,e,z2,by rw[Below.heap_setCell _ _ _ _ (hne g' (by rw[e];rfl))];exact z3,z4⟩⟩
   have sw:=aeL (xb:=w.heap.size) hs2 vX (bV.out _ hC2).2.2.2.2.1 (bV.out _ hC2).2.2.2.2.2.1 (by have:=jL.out.size;omega);have vD:Hid (ah W1 W0.heap.size (gQ (.slice (some ⟨g,0,none⟩) R.length lc) RK)):=yL;have HG:Hid (W0.heap.size<=g/\k<RK.length):=⟨hg0,hkk⟩;have i0:(0:Int)<=(k:Int):=Int.natCast_nonneg _;have i1:(k:Int)<(R.length:Int):=by omega
   clear hO hB hmap hlen hat hsk hrow hgd hx hB1 vY yL hC2 hs2 f1 hne hgs
   go_wp2_with
    (first
     |(go_at_call 224;refine ot.mono ?_;rintro e w2 ⟨rfl,rfl⟩;clear ot)
     |(go_at_call 226;refine sw.mono ?_;rintro e w3 ⟨rfl,ho3,hK3⟩;clear sw))
   go_roundw
   case rel=>
    have V7:=vD.out;rw[<-HM.out.2]at V7;have hT:=V7.aeN (w1:=w3) (k:=k) HG.out.2 (rU a b L) (l.map (zw a b)) (by rw[HX.out.1,List.length_map]) (by rw[HX.out.1,List.length_map];exact ho3) (by rw[HX.out.1];exact hK3);rw[HX.out.1,HM.out.2]at hT;refine⟨k+1,_,by go_num,by omega,by rw[List.length_set];exact HM.out.2,hT,?_,?_⟩
    ·rw[List.map_set,HM.out.1,<-Nh hlt,HX.out.2]
     rfl
    ·have hb1:Below W0.heap.size W0 (w2.setCell ⟨g,k*2,none⟩ (.int .i64 (rU a b L))):=(HB.out.trans (HB1.out.mono HB.out.size)).setCell (p:=⟨g,k*2,none⟩) HG.out.1 _
     exact hb1.trans (hK3.below (fun b hb=>(ho3.lt b hb).1) hb1.size)
   case measure=>simp[intOf];omega
  ·have hC:=jL.out.next hB
   obtain⟨x0,x1,x2,x3,x4,x5,x6⟩:=bV.out wr hC;have hkk:k=R.length:=by omega
   have ET:Hid (k=R.length):=hkk;have HC:Hid (bI w cs 252 ra rc R wr):=hC;have wi:=EI (w:=wr) (T:=T) (N:=N) (ra:=ra) (rn:=R.length) (rc:=rc) (op:=op) (a:=a) (b:=b) (c:=c) (M:=N) (oa:=la) (on:=R.length) (oc:=lc);clear hC hO hmap hlen hB hkk
   go_wp2_with
    (go_at_call 227;refine wi.mono ?_;rintro e w7 ⟨rfl,fJ⟩
     have fF:Hid (bI w cs 252 ra rc R w7):=HC.out.next fJ;have sU:Hid (aM w7 (w.heap.size+2) (.slice la R.length lc) RK):=(HO.out.EJ.mono jL.out.size).below fJ;have z0:=fF.out.y0;have z1:=fF.out.y1;have z2:=fF.out.y2;have V8:=fF.out.yf 0;have V9:=fF.out.yf 1;have Wh:=fF.out.yf 2
     clear wi fJ)
   have q0:=uq (v0:= .int .i64 T) (v1:= .int .i64 N) (v2:= .slice la R.length lc) z0;have q1:=uw (v0:= .int .i64 T) (v1:= .int .i64 N) (v2:= .slice la R.length lc) z1;have q2:=uy (v0:= .int .i64 T) (v1:= .int .i64 N) (v2:= .slice la R.length lc) z2;refine bodyPost_ret (v:= .agg #[.int .i64 T,.int .i64 N,.slice la R.length lc]) (by simp[results,Tryz.results223,go_sem,q0,q1,q2]) rfl ?_;have ho:=fF.out.out sU.out (.int .i64 T) (.int .i64 N) (.slice la R.length lc);refine⟨_,_,rfl,ho.1,?_,ho.2⟩;rw[HM.out.1,ET.out];simp
end Go.Proofs.YtblkkhfdeaaidaaGreatDoor
namespace Go.Proofs.YtblkkhfdeaaidaaGreatDoor
section
variable{N:Nat}{R:List Ru}
theorem Wi(f:Ru->Ru)(R:List Ru):(List.range R.length).map (fun k=>f (R.getD k (0,[])))=R.map f:=by
 refine List.ext_getElem (by simp) fun i h1 h2=> ?_;have hi:i<R.length:=by simpa using h2
 simp[List.getD,hi]
theorem aeP{a b c:Int}:R.map (zG a b)=gy N R ⟨1,a,b,c⟩:=by
 rw[M5 (h:=fun k=>zG a b (R.getD k (0,[]))) (fun k=>by unfold BB zG;simp),Wi];unfold xX;simp
theorem aeQ{a b c:Int}:R.map (qd N a)++[((N:Int),[])]=gy N R ⟨4,a,b,c⟩:=by
 rw[M5 (h:=fun k=>qd N a (R.getD k (0,[]))) (fun k=>by unfold BB qd;simp),Wi];unfold xX;simp
theorem aeR{ka bn cn:Nat}{L:Int}{l:List Sy}(hx:R.getD ka (0,[])=(L,l)):R.set ka (L,l.take bn++(false,(N:Int))::l.drop cn)++[((N:Int),(l.take cn).drop bn)]=gy N R ⟨2,ka,bn,cn⟩:=by
 rw[M5 (h:=fun k=>if (k:Int)=(ka:Int) then ((R.getD k (0,[])).1,(R.getD k (0,[])).2.take bn++(false,(N:Int))::(R.getD k (0,[])).2.drop cn) else R.getD k (0,[])) (fun k=>by unfold BB;simp)];have hl:xX N R ⟨2,ka,bn,cn⟩=[((N:Int),(l.take cn).drop bn)]:=by unfold xX;simp only[Int.toNat_natCast,hx];simp
 rw[hl]
 congr 1
 refine List.ext_getElem (by simp) fun i h1 h2=> ?_;have hi:i<R.length:=by simpa using h2
 rw[List.getElem_set];simp only[List.getElem_map,List.getElem_range];by_cases e:ka=i
 ·subst e
  rw[if_pos rfl,if_pos rfl,hx]
 ·rw[if_neg e,if_neg (by omega)]
  simp[List.getD,hi]
theorem aeS{a b c:Int}:((aY (fun k=>qK N R (R.getD k (0,[]))) R.length).map fun(n:Nat)=>(n:Int)).map (fun i=>R.getD i.toNat (0,[]))=gy N R ⟨5,a,b,c⟩:=by
 have h1:gy N R ⟨5,a,b,c⟩=(List.range R.length).flatMap fun k=>if qK N R (R.getD k (0,[])) then [R.getD k (0,[])] else []:=by
  unfold gy xX;simp only;rw[if_neg (by decide),if_neg (by decide),List.append_nil]
  congr 1
 rw[h1,VF (fun k=>qK N R (R.getD k (0,[]))) (fun k=>R.getD k (0,[]))];rw[List.map_map];rfl
theorem aeT(P:List Ru){ka:Nat}(hk:ka<R.length):((List.range R.length).flatMap fun k=>if k=ka then P else [R.getD k (0,[])])=R.take ka++P++R.drop (ka+1):=by
 have key:∀n,n<=R.length->((List.range n).flatMap fun k=>if k=ka then P else [R.getD k (0,[])])=if n<=ka then R.take n else R.take ka++P++(R.take n).drop (ka+1):=by
  intro n
  induction n with
  |zero=>intro _;simp
  |succ n ih=>
   intro hn;have hnl:n<R.length:=by omega
   have e:R.getD n (0,[])=R[n]:=by simp[List.getD,hnl]
   rw[List.range_succ,List.flatMap_append,ih (by omega),List.flatMap_singleton];by_cases h1:n=ka
   ·subst h1
    rw[if_pos (Nat.le_refl _),if_pos rfl,if_neg (by omega)];rw[List.drop_eq_nil_of_le (by rw[List.length_take];omega),List.append_nil]
   ·rw[if_neg h1,e,List.take_succ_eq_append_getElem hnl]
    by_cases h2:n<=ka
    ·rw[if_pos h2,if_pos (by omega)]
    ·rw[if_neg h2,if_neg (by omega),List.drop_append_of_le_length (by rw[List.length_take];omega),List.append_assoc]
 have h:=key R.length (Nat.le_refl _);rw[if_neg (by omega),List.take_length]at h;exact h
theorem aeU{ka bn:Nat}{L X:Int}{l:List Sy}(hk:ka<R.length)(hx:R.getD ka (0,[])=(L,l))(hX:l.getD bn (false,0)=(false,X)):R.take ka++((aY (fun k=>decide ((R.getD k (0,[])).1=X)) R.length).map fun(n:Nat)=>(n:Int)).map (fun i=>(L,l.take bn++(R.getD i.toNat (0,[])).2++l.drop (bn+1)))++R.drop (ka+1)=gy N R ⟨3,ka,bn,0⟩:=by
 have h1:gy N R ⟨3,ka,bn,0⟩=(List.range R.length).flatMap fun k=>if k=ka then (R.filter fun x=>decide (x.1=X)).map (U8 bn (L,l)) else [R.getD k (0,[])]:=by
  unfold gy xX;simp only;rw[if_neg (by decide),if_neg (by decide),List.append_nil];refine VD _ fun k _=> ?_;unfold BB;simp only;rw[if_neg (by decide),if_neg (by decide),if_pos trivial];by_cases e:k=ka
  ·subst e
   rw[if_pos rfl,if_pos rfl,hx];simp only[Int.toNat_natCast,hX]
  ·rw[if_neg e,if_neg (by omega)]
 rw[h1,aeT _ hk,ad4 X,List.map_map,List.map_map]
 congr 2
end
end Go.Proofs.YtblkkhfdeaaidaaGreatDoor
namespace Go.Proofs.YtblkkhfdeaaidaaGreatDoor
open Go.RowKit
theorem aeV{w:World}{T:Int}{N ka bn cn m:Nat}{ra:Option Addr}{rc:Nat}{op fr fo:Int}{R:List Ru}{L:Int}{l:List Sy}(hr:au w w.heap.size (.slice ra R.length rc) R)(hl:R.length<=1000)(hl2:∀q,q<R.length->(R.getD q (0,[])).2.length<=1000)(hN:N<=1000)(hk:ka<R.length)(hx:R.getD ka (0,[])=(L,l))(hbc:bn<cn)(hcl:l.length=cn+m):
 Calls Tryz.prog 231 #[.agg #[.int .i64 T,.int .i64 N,.slice ra R.length rc,.int .i64 op,.int .i64 ka,.int .i64 bn,.int .i64 cn,.int .i64 fr,.int .i64 fo]] w fun e w'=> ∃lv RL,e= .returned (.agg #[.int .i64 T,.int .i64 (N+1),lv])/\aM w' w.heap.size lv RL/\(RL.map fun x=>x.2)=R.set ka (L,l.take bn++(false,(N:Int))::l.drop cn)++[((N:Int),(l.take cn).drop bn)]/\Below w.heap.size w w':=by
 obtain⟨cs,hcs⟩:∃cs:Array Value,#[.int .i64 T,.int .i64 N,.slice ra R.length rc,.int .i64 op,.int .i64 ka,.int .i64 bn,.int .i64 cn,.int .i64 fr,.int .i64 fo]=cs:=⟨_,rfl⟩;have hC0:bI w cs 255 ra rc R ((w.alloc (.cells cs 255)).alloc (.cells #[.int .i64 0,.int .i64 0,.slice none 0 0] 26)):=IG hr;rw[<-hcs]at hC0;obtain⟨W0,hW0⟩:∃W,(w.alloc (.cells #[.int .i64 T,.int .i64 N,.slice ra R.length rc,.int .i64 op,.int .i64 ka,.int .i64 bn,.int .i64 cn,.int .i64 fr,.int .i64 fo] 255)).alloc (.cells #[.int .i64 0,.int .i64 0,.slice none 0 0] 26)=W:=⟨_,rfl⟩;rw[hW0,hcs]at hC0;have tZ:Hid (#[.int .i64 T,.int .i64 N,.slice ra R.length rc,.int .i64 op,.int .i64 ka,.int .i64 bn,.int .i64 cn,.int .i64 fr,.int .i64 fo]=cs):=hcs
 have bV:Hid (∀wq,bI w cs 255 ra rc R wq->wq.cell? ⟨w.heap.size,0,none⟩=some (.int .i64 T)/\wq.cell? ⟨w.heap.size,1,none⟩=some (.int .i64 N)/\wq.cell? ⟨w.heap.size,2,none⟩=some (.slice ra R.length rc)/\wq.cell? ⟨w.heap.size,3,none⟩=some (.int .i64 op)/\wq.cell? ⟨w.heap.size,4,none⟩=some (.int .i64 ka)/\wq.cell? ⟨w.heap.size,5,none⟩=some (.int .i64 bn)/\wq.cell? ⟨w.heap.size,6,none⟩=some (.int .i64 cn)):=fun wq hq=>by
  refine⟨hq.cell ?_,hq.cell ?_,hq.cell ?_,hq.cell ?_,hq.cell ?_,hq.cell ?_,hq.cell ?_⟩<;>(rw[<-tZ.out];rfl)
 obtain⟨x0,x1,x2,x3,x4,x5,x6⟩:=bV.out W0 hC0;obtain⟨b0,o0,qy,qa,qc,hv,_,k1,k2,hsy⟩:=hC0.rules.jV hk;cases hv;have kD:=hl2 ka hk;rw[hx]at k1 k2 hsy kD;simp only at k1 k2 hsy kD;have hqc:l.length<=qc:=by obtain⟨_,_,hv,hle⟩:=hsy.1;cases hv;exact hle
 obtain⟨ad,rfl⟩:=hsy.IJ (by omega);rw[hcl]at k2 kD hqc
 have jH:Hid (∀wq,bI w cs 255 (some ⟨b0,o0,none⟩) rc R wq->Below W0.heap.size W0 wq->bG wq (.slice (some ad) (cn+m) qc) l):=fun wq _ hB=>by
  have:=hsy.same (iH hB);rw[hcl]at this;exact this
 have jL:Hid (bI w cs 255 (some ⟨b0,o0,none⟩) rc R W0):=hC0;have cop:=IE (w:=W0) (T:=T) (N:=N) (op:=op) (a:=ka) (b:=bn) (c:=cn) (hC0.rules.mono (Nat.le_trans (by omega) hC0.size)) hl hl2;have HX:Hid (R.getD ka (0,[])=(L,l)/\l.length=cn+m):=⟨hx,hcl⟩;have i0:(0:Int)<=(ka:Int):=Int.natCast_nonneg _;have i1:(ka:Int)<(R.length:Int):=by omega
 clear hr hl2 hx hcl hC0 hcs hsy
 go_enter Tryz.func231,Tryz.ntmps231
 go_upto_region 3 with(go_at_call 225;refine cop.mono ?_;rintro e wq ⟨lv,RL,rfl,hO,hmap,mr⟩;clear cop)
 have hlen:RL.length=R.length:=by rw[<-hmap,List.length_map]
 obtain⟨g,cap,hlv,hg0,_⟩:=hO.pX.form (by omega);subst hlv;obtain⟨Wd,hWd⟩:∃W,wq.drew=W:=⟨_,rfl⟩;have hBd:Below W0.heap.size W0 Wd:=by rw[<-hWd];exact mr.drew
 have BS:bI w cs 255 (some ⟨b0,o0,none⟩) rc R Wd:=jL.out.next hBd
 have cK:aM Wd (w.heap.size+2) (.slice (some ⟨g,0,none⟩) RL.length cap) RL:=by
  have:=(hO.EJ.mono jL.out.size).below (w':=Wd) (by rw[<-hWd];exact(Below.refl _ _).drew);exact this
 have HM:Hid ((RL.map fun x=>x.2)=R/\RL.length=R.length):=⟨hmap,hlen⟩;have dN:Hid (aM Wd (w.heap.size+2) (.slice (some ⟨g,0,none⟩) RL.length cap) RL):=cK;have dU:Hid (bI w cs 255 (some ⟨b0,o0,none⟩) rc R Wd):=BS;have dH:Hid (Below W0.heap.size W0 Wd):=hBd;rw[hlen];have hup:=fun w=>EK (ad:=ad) (f:=bn) (sl:=cn+m) (lc:=qc) (fi:=(bn:Int)) rfl (by omega) w;obtain⟨A,hA,hA'⟩:=MK (la:=some ad) (f:=cn) (n:=m) (sl:=cn+m) (lc:=qc) (fi:=(cn:Int)) rfl rfl;have zq:Hid (qc≠cn->A=(some ad).map (·.add (cn*2))):=hA';have S0:=bV.out Wd BS;clear hO hmap hlen mr BS cK hBd hA' k1 k2 x0 x1 x2 x3 x4 x5 x6 hW0;refine lY [0,1,2,3,4,5,6,7,8,9,10,11,12,15,16,17,18,19,20] 7 25 (fun wq=>wq.cell? ⟨w.heap.size,0,none⟩=some (.int .i64 T)/\wq.cell? ⟨w.heap.size,1,none⟩=some (.int .i64 N)/\wq.cell? ⟨w.heap.size,2,none⟩=some (.slice (some ⟨b0,o0,none⟩) R.length rc)/\wq.cell? ⟨w.heap.size,3,none⟩=some (.int .i64 op)/\wq.cell? ⟨w.heap.size,4,none⟩=some (.int .i64 ka)/\wq.cell? ⟨w.heap.size,5,none⟩=some (.int .i64 bn)/\wq.cell? ⟨w.heap.size,6,none⟩=some (.int .i64 cn)) (by kernel_rfl) (by kernel_rfl) (by rw[hWd];exact S0) ?_;rw[hWd];clear hWd S0
 iterate 19
  refine aO.vW (v:= ?_) rfl (by rfl) ?_ ?_;rotate_left
  ·intro w' hSw
   obtain⟨z0,z1,z2,z3,z4,z5,z6⟩:=hSw
   go_simp
   try with_reducible rfl
  simp only[Act.put,List.setIfInBounds_toArray,List.set_cons_zero,List.set_cons_succ]
 rw[aO];have mo:=zx (w:=Wd) (T:=T) (N:=N) (ra:=some ⟨b0,o0,none⟩) (rn:=R.length) (rc:=rc) (op:=op) (a:=ka) (b:=bn) (c:=cn);refine ax.one (i:=13) (by kernel_rfl) ⟨_,rfl,fun K hK=> ?_⟩
 go_simp
 refine mo.mono ?_;rintro e w3 ⟨rfl,hB3⟩;dsimp only;have Wj:=dU.out.next hB3;refine hK.out _ _ (fun _=>bV.out w3 Wj) ?_;clear hK mo;have hB4:Below Wd.heap.size Wd (w3.alloc (.cells #[.bool false,.int .i64 N] 116)):=hB3.alloc hB3.size _;refine ax.one (i:=14) (by kernel_rfl) ⟨_,rfl,fun K hK=> ?_⟩
 go_simp
 refine hK.out _ _ (fun _=>bV.out _ (dU.out.next hB4)) ?_;clear hK;obtain⟨w4,hw4⟩:∃W,w3.alloc (.cells #[.bool false,.int .i64 N] 116)=W:=⟨_,rfl⟩;have hsr:bG w4 (.slice (some ⟨w3.heap.size,0,none⟩) 1 1) [(false,(N:Int))]:=by rw[<-hw4];exact adW
 rw[hw4]at hB4⊢;clear hw4;have ak:Below w4.heap.size w4 (w4.alloc (.cells #[.slice (some ad) bn qc,.slice (some ⟨w3.heap.size,0,none⟩) 1 1,.slice A m (qc-cn)] 89)):=(Below.refl _ _).alloc (Nat.le_refl _) _;refine ax.one (i:=21) (by kernel_rfl) ⟨_,rfl,fun K hK=> ?_⟩
 go_simp
 have oq:Below Wd.heap.size Wd (w4.alloc (.cells #[.slice (some ad) bn qc,.slice (some ⟨w3.heap.size,0,none⟩) 1 1,.slice A m (qc-cn)] 89)):=hB4.trans (ak.mono hB4.size);refine hK.out _ _ (fun _=>bV.out _ (dU.out.next oq)) ?_;clear hK;obtain⟨w5,je⟩:∃W,w4.alloc (.cells #[.slice (some ad) bn qc,.slice (some ⟨w3.heap.size,0,none⟩) 1 1,.slice A m (qc-cn)] 89)=W:=⟨_,rfl⟩;have p0:w5.cell? ⟨w4.heap.size,0,none⟩=some (.slice (some ad) bn qc):=by rw[<-je];exact aB (heap_alloc_new _ _) rfl
 have p1:w5.cell? ⟨w4.heap.size,1,none⟩=some (.slice (some ⟨w3.heap.size,0,none⟩) 1 1):=by rw[<-je];exact aB (heap_alloc_new _ _) rfl
 have p2:w5.cell? ⟨w4.heap.size,2,none⟩=some (.slice A m (qc-cn)):=by rw[<-je];exact aB (heap_alloc_new _ _) rfl
 rw[je]at ak oq⊢;clear je
 have hs5:bG w5 (.slice (some ad) l.length qc) l:=by
  rw[HX.out.2];exact jH.out w5 (dU.out.next oq) (dH.out.trans (oq.mono dH.out.size))
 have hlt:(l.take bn).length=bn:=by rw[List.length_take,HX.out.2];omega
 have hld:(l.drop cn).length=m:=by rw[List.length_drop,HX.out.2];omega
 have cc:=Vo p0 p1 p2 (hs5.BN (f:=bn) (by rw[HX.out.2];omega)) (hsr.same (iH ak)) (hs5.II HX.out.2 zq.out) (by rw[hlt,hld];simp only[List.length_singleton];omega);rw[hlt,hld]at cc;simp only[List.length_singleton]at cc;refine ax.one (i:=22) (by kernel_rfl) ⟨_,rfl,fun K hK=> ?_⟩
 go_simp
 refine cc.mono ?_;rintro e w6 ⟨a6,d6,rfl,hown6,aQ⟩;dsimp only;have fO:Below Wd.heap.size Wd w6:=oq.trans (aQ.mono oq.size);refine hK.out _ _ (fun _=>bV.out _ (dU.out.next fO)) ?_;clear hK cc;refine ax.one (i:=23) (by kernel_rfl) ⟨_,rfl,fun K hK=> ?_⟩
 go_simp
 refine hK.out _ _ (fun _=>bV.out _ (dU.out.next fO)) ?_;clear hK;refine ax.one (i:=24) (by kernel_rfl) ⟨_,rfl,fun K hK=> ?_⟩
 go_simp
 refine hK.out _ _ (fun _=>bV.out _ (dU.out.next fO)) ?_;clear hK;have BU:=dN.out.below fO;obtain⟨u,hu⟩:∃u,(cO RL)[ka*2+1]?=some u:=⟨_,List.getElem?_eq_getElem (by rw[BH,HM.out.2];omega)⟩;have c6:w6.cell? ⟨g,ka*2+1,none⟩=some u:=(BU.own.cellAt (ka*2+1) (by rw[HM.out.2];omega)).trans hu;have f6:w6.frozen? ⟨g,ka*2+1,none⟩=false:=BU.own.frozenAt (ka*2+1);have aeW:(l.take bn++[(false,(N:Int))]++l.drop cn).length=bn+1+m:=by rw[List.length_append,List.length_append,hlt,hld];rfl
 have hkr:ka<RL.length:=by rw[HM.out.2];exact hk
 have oN:=dN.out.adU (w5:=w6) (k:=ka) (v:= .slice a6 (bn+1+m) d6) (l:=l.take bn++[(false,(N:Int))]++l.drop cn) fO hkr (by rw[aeW];exact jf hown6 oq.size);have Jd:bI w cs 255 (some ⟨b0,o0,none⟩) rc R (w6.setCell ⟨g,ka*2+1,none⟩ (.slice a6 (bn+1+m) d6)):=dU.out.later ((fO.mono dU.out.size).setCell (by simp only;have:=dU.out.size;have:=jL.out.size;omega) _);refine ax.last (i:=25) (by kernel_rfl) ⟨_,rfl,fun K hK=> ?_⟩
 go_simp
 refine hK.out _ _ (fun h=>absurd h (by omega)) (NoPanic.normal ?_);clear hK;obtain⟨RM,Je⟩:∃RM,RL.set ka (.slice a6 (bn+1+m) d6,(RL[ka].2.1,l.take bn++[(false,(N:Int))]++l.drop cn))=RM:=⟨_,rfl⟩
 have Wl:(RM.map fun x=>x.2)=R.set ka (L,l.take bn++(false,(N:Int))::l.drop cn):=by
  have e1:RL[ka].2=(L,l):=by
   have h1:(RL.map fun x=>x.2).getD ka (0,[])=(L,l):=by rw[HM.out.1];exact HX.out.1
   simpa [List.getD,hkr] using h1
  rw[<-Je,List.map_set,HM.out.1,e1];simp
 have hLen:RM.length=R.length:=by rw[<-Je,List.length_set];exact HM.out.2
 rw[Je,HM.out.2.trans hLen.symm]at oN;have si:Hid (Below W0.heap.size W0 w6):=dH.out.trans (fO.mono dH.out.size);have hgs:w.heap.size+2<=g:=Nat.le_trans jL.out.size hg0;obtain⟨w7,hw7⟩:∃W,w6.setCell ⟨g,ka*2+1,none⟩ (.slice a6 (bn+1+m) d6)=W:=⟨_,rfl⟩
 have HS7:Hid (∀wq,Below w7.heap.size w7 wq->bG wq (.slice (some ad) l.length qc) l):=fun wq hB=>by
  have h0:=jH.out W0 jL.out (Below.refl _ _);rw[HX.out.2];refine bG.same (w:=w7) ?_ (iH hB);rw[<-hw7];have h6:=hs5.same (iH aQ);rw[HX.out.2]at h6;refine⟨h6.1,fun j hj=> ?_⟩;obtain⟨b,o,c,h1,h2,h3⟩:=h0.2 j hj;obtain⟨b',o',c',h1',h2',h3'⟩:=h6.2 j hj;rw[h1]at h1';cases h1';have hbl:=World.block_lt_of_cell? _ _ h2;refine⟨b,o,c,h1,?_,?_⟩
  ·rw[iE (.inl (by simp only at hbl⊢;omega))];exact h2'
  ·rw[iE (.inl (by simp only at hbl⊢;omega))];exact h3'
 rw[hw7]at oN Jd⊢;clear hw7 c6 f6 aQ fO ak oq hB4 hB3 hs5 hsr hown6 p0 p1 p2 hu dN dU dH Wj BU Je hkr;have Wm:Hid ((RM.map fun x=>x.2)=R.set ka (L,l.take bn++(false,(N:Int))::l.drop cn)):=Wl;clear Wl HM
 go_upto_region 4 with fail
 go_cut [4] from 44 to 72 (fun s4 wx=> ∃lv RK,lv=s4/\aM wx (w.heap.size+2) lv RK/\(RK.map fun x=>x.2)=R.set ka (L,l.take bn++(false,(N:Int))::l.drop cn)++[((N:Int),(l.take cn).drop bn)]/\bI w cs 255 (some ⟨b0,o0,none⟩) rc R wx)
 case first=>
  obtain⟨Wd,hWd⟩:∃W,w7.drew=W:=⟨_,rfl⟩;have fJ:Below w7.heap.size w7 Wd:=by rw[<-hWd];exact(Below.refl _ _).drew
  have dU:Hid (bI w cs 255 (some ⟨b0,o0,none⟩) rc R Wd):=Jd.next fJ;have dN:Hid (aM Wd (w.heap.size+2) (.slice (some ⟨g,0,none⟩) RM.length cap) RM):=oN.below fJ;have HLen:Hid (RM.length=R.length):=hLen;obtain⟨nn,hnn⟩:∃nn,cn=bn+nn:=⟨cn-bn,by omega⟩;have hlc:(l.take cn).length=cn:=by rw[List.length_take,HX.out.2];omega
  have BV:Hid (((l.take cn).drop bn).length=nn):=by show _=_;rw[List.length_drop,hlc];omega
  obtain⟨A2,hA2,EU⟩:=adS (ad:=ad) (f:=bn) (n:=nn) (g:=cn) (sl:=cn+m) (lc:=qc) (fi:=(bn:Int)) (gi:=(cn:Int)) rfl rfl hnn (by omega)
  have Wn:Hid (∀wq,Below Wd.heap.size Wd wq->bG wq (.slice A2 nn (qc-bn)) ((l.take cn).drop bn)):=fun wq hB=>by
   have h1:=(HS7.out wq (fJ.trans (hB.mono fJ.size))).BN (f:=cn) (by rw[HX.out.2];omega);have h2:bG wq (.slice (some ad) (l.take cn).length qc) (l.take cn):=by rw[hlc];exact h1
   exact h2.II (by rw[hlc];exact hnn) (fun h=>by rw[EU h];rfl)
  have S0:=bV.out Wd dU.out;have Wo:Hid (cn=bn+nn):=hnn;have aew:R.length+1<=1001:=by omega
  clear fJ Jd oN hLen EU hnn hlc;refine lY [0,1,2,5,6,7,8,9,10,11,12,13,14] 8 20 (fun wq=>wq.cell? ⟨w.heap.size,0,none⟩=some (.int .i64 T)/\wq.cell? ⟨w.heap.size,1,none⟩=some (.int .i64 N)/\wq.cell? ⟨w.heap.size,2,none⟩=some (.slice (some ⟨b0,o0,none⟩) R.length rc)/\wq.cell? ⟨w.heap.size,3,none⟩=some (.int .i64 op)/\wq.cell? ⟨w.heap.size,4,none⟩=some (.int .i64 ka)/\wq.cell? ⟨w.heap.size,5,none⟩=some (.int .i64 bn)/\wq.cell? ⟨w.heap.size,6,none⟩=some (.int .i64 cn)) (by kernel_rfl) (by kernel_rfl) (by rw[hWd];exact S0) ?_;rw[hWd];clear hWd S0
  iterate 13
   refine aO.vW (v:= ?_) rfl (by rfl) ?_ ?_;rotate_left
   ·intro w' hSw
    obtain⟨z0,z1,z2,z3,z4,z5,z6⟩:=hSw
    go_simp
    try with_reducible rfl
   simp only[Act.put,List.setIfInBounds_toArray,List.set_cons_zero,List.set_cons_succ]
  rw[aO];refine ax.two (i:=3) (i':=15) (by kernel_rfl) ⟨_,rfl,fun K hK=> ?_⟩ ⟨_,rfl,fun K hK=> ?_⟩
  ·have mo:=zx (w:=Wd) (T:=T) (N:=N) (ra:=some ⟨b0,o0,none⟩) (rn:=R.length) (rc:=rc) (op:=op) (a:=ka) (b:=bn) (c:=cn)
   go_simp
   refine mo.mono ?_;rintro e w3 ⟨rfl,hB3⟩;dsimp only;refine hK.out _ _ (fun _=>bV.out w3 (dU.out.next hB3)) ?_;clear hK mo;refine ax.read (i:=4) (v:= .int .i64 N) rfl (by kernel_rfl) (by rfl) (fun w' _=>by unfold execOp;go_simp;unfold Instr.field asAgg;go_simp) (bV.out w3 (dU.out.next hB3)) ?_;simp only[Act.put,List.setIfInBounds_toArray,List.set_cons_zero,List.set_cons_succ];have bW:Below Wd.heap.size Wd (w3.alloc (.cells #[.slice A2 nn (qc-bn)] 89)):=hB3.alloc hB3.size _;refine ax.one (i:=15) (by kernel_rfl) ⟨_,rfl,fun K hK=> ?_⟩
   go_simp
   refine hK.out _ _ (fun _=>bV.out _ (dU.out.next bW)) ?_;clear hK;have qg:(w3.alloc (.cells #[.slice A2 nn (qc-bn)] 89)).cell? ⟨w3.heap.size,0,none⟩=some (.slice A2 nn (qc-bn)):=aB (heap_alloc_new _ _) rfl;obtain⟨pz,hpz⟩:∃x,w3.heap.size=x:=⟨_,rfl⟩;obtain⟨wz,hwz⟩:∃W,w3.alloc (.cells #[.slice A2 nn (qc-bn)] 89)=W:=⟨_,rfl⟩;rw[hwz]at bW qg⊢;rw[hpz]at qg⊢;clear hwz hpz hB3;have cc:=Vp (w:=wz) (pb:=pz) (va:= .slice A2 nn (qc-bn)) (la:=(l.take cn).drop bn) qg (Wn.out wz bW) (by rw[BV.out];have:=Wo.out;omega);rw[BV.out]at cc;refine ax.one (i:=16) (by kernel_rfl) ⟨_,rfl,fun K hK=> ?_⟩
   go_simp
   refine cc.mono ?_;rintro e wa ⟨aa,da,rfl,Nj,hBa⟩;dsimp only;have vZ:Below Wd.heap.size Wd wa:=bW.trans (hBa.mono bW.size);refine hK.out _ _ (fun _=>bV.out _ (dU.out.next vZ)) ?_;clear hK cc;refine ax.one (i:=17) (by kernel_rfl) ⟨_,rfl,fun K hK=> ?_⟩
   go_simp
   refine hK.out _ _ (fun _=>bV.out _ (dU.out.next vZ)) ?_;clear hK;have hBb:Below Wd.heap.size Wd (wa.alloc (.cells #[.int .i64 N,.slice aa nn da] 91)):=vZ.alloc vZ.size _;have hrow:eO (wa.alloc (.cells #[.int .i64 N,.slice aa nn da] 91)) (.slice (some ⟨wa.heap.size,0,none⟩) 1 1) 1 [.int .i64 N,.slice aa nn da]:=BJ;have zH:=own_below dN.out.own hBb fun g hg=>(dN.out.own.lt g hg).2;rw[HLen.out]at zH;have hsb:w.heap.size+2<=(wa.alloc (.cells #[.int .i64 N,.slice aa nn da] 91)).heap.size:=Nat.le_trans dU.out.size hBb.size;refine ax.one (i:=18) (by kernel_rfl) ⟨_,rfl,fun K hK=> ?_⟩
   go_simp
   refine hK.out _ _ (fun _=>bV.out _ (dU.out.next hBb)) ?_;clear hK;refine ax.one (i:=19) (by kernel_rfl) ⟨_,rfl,fun K hK=> ?_⟩;refine Ve rfl _ _ rfl rfl rfl rfl zH hrow hsb (by omega) ?_;intro a' d' wc hown6 hgrow hat;have nZ:Below (w.heap.size+2) Wd wc:=(hBb.mono dU.out.size).grown hgrow hsb fun k hk=>(zH.lt k hk).1;have EW:=dU.out.later nZ;refine hK.out _ _ (fun _=>bV.out _ EW) ?_;clear hK
   have yj:aM wc (w.heap.size+2) (.slice a' (R.length+1) d') (RM++[(.slice aa nn da,((N:Int),(l.take cn).drop bn))]):=by
    refine dN.out.IK (w5:=wa.alloc (.cells #[.int .i64 N,.slice aa nn da] 91)) dU.out.size hBb ?_ hgrow ?_ ?_
    ·rw[BV.out]
     exact jf (Nj.alloc _) bW.size
    ·rw[BI,HLen.out]
     exact hown6
    ·intro g hg
     exact(hat g hg).imp id fun e=>by omega
   refine ax.last (i:=20) (by kernel_rfl) ⟨_,rfl,fun K hK=> ?_⟩
   go_simp
   refine hK.out _ _ (fun h=>absurd h (by omega)) (NoPanic.normal ?_);clear hK
   go_wp2_with fail
   go_meet
   case rel=>exact⟨_,_,rfl,yj,by rw[List.map_append,Wm.out];rfl,EW⟩
  ·have sj:Below Wd.heap.size Wd (Wd.alloc (.cells #[.slice A2 nn (qc-bn)] 89)):=(Below.refl _ _).alloc (Nat.le_refl _) _
   go_simp
   refine hK.out _ _ (fun _=>bV.out _ (dU.out.next sj)) ?_;clear hK;have su:(Wd.alloc (.cells #[.slice A2 nn (qc-bn)] 89)).cell? ⟨Wd.heap.size,0,none⟩=some (.slice A2 nn (qc-bn)):=aB (heap_alloc_new _ _) rfl;obtain⟨pz,hpz⟩:∃x,Wd.heap.size=x:=⟨_,rfl⟩;obtain⟨wy,EX⟩:∃W,Wd.alloc (.cells #[.slice A2 nn (qc-bn)] 89)=W:=⟨_,rfl⟩;rw[EX]at sj su⊢;rw[hpz]at su⊢;clear EX;have mo:=zx (w:=wy) (T:=T) (N:=N) (ra:=some ⟨b0,o0,none⟩) (rn:=R.length) (rc:=rc) (op:=op) (a:=ka) (b:=bn) (c:=cn);refine ax.one (i:=3) (by kernel_rfl) ⟨_,rfl,fun K hK=> ?_⟩;clear hpz
   go_simp
   refine mo.mono ?_;rintro e wz ⟨rfl,hB3⟩;dsimp only;have bW:Below Wd.heap.size Wd wz:=sj.trans (hB3.mono sj.size);have qg:=(hB3.cell (World.block_lt_of_cell? _ _ su)).trans su;refine hK.out _ _ (fun _=>bV.out wz (dU.out.next bW)) ?_;clear hK mo;refine ax.read (i:=4) (v:= .int .i64 N) rfl (by kernel_rfl) (by rfl) (fun w' _=>by unfold execOp;go_simp;unfold Instr.field asAgg;go_simp) (bV.out wz (dU.out.next bW)) ?_;simp only[Act.put,List.setIfInBounds_toArray,List.set_cons_zero,List.set_cons_succ];clear hB3 sj su;have cc:=Vp (w:=wz) (pb:=pz) (va:= .slice A2 nn (qc-bn)) (la:=(l.take cn).drop bn) qg (Wn.out wz bW) (by rw[BV.out];have:=Wo.out;omega);rw[BV.out]at cc;refine ax.one (i:=16) (by kernel_rfl) ⟨_,rfl,fun K hK=> ?_⟩
   go_simp
   refine cc.mono ?_;rintro e wa ⟨aa,da,rfl,Nj,hBa⟩;dsimp only;have vZ:Below Wd.heap.size Wd wa:=bW.trans (hBa.mono bW.size);refine hK.out _ _ (fun _=>bV.out _ (dU.out.next vZ)) ?_;clear hK cc;refine ax.one (i:=17) (by kernel_rfl) ⟨_,rfl,fun K hK=> ?_⟩
   go_simp
   refine hK.out _ _ (fun _=>bV.out _ (dU.out.next vZ)) ?_;clear hK;have hBb:Below Wd.heap.size Wd (wa.alloc (.cells #[.int .i64 N,.slice aa nn da] 91)):=vZ.alloc vZ.size _;have hrow:eO (wa.alloc (.cells #[.int .i64 N,.slice aa nn da] 91)) (.slice (some ⟨wa.heap.size,0,none⟩) 1 1) 1 [.int .i64 N,.slice aa nn da]:=BJ;have zH:=own_below dN.out.own hBb fun g hg=>(dN.out.own.lt g hg).2;rw[HLen.out]at zH;have hsb:w.heap.size+2<=(wa.alloc (.cells #[.int .i64 N,.slice aa nn da] 91)).heap.size:=Nat.le_trans dU.out.size hBb.size;refine ax.one (i:=18) (by kernel_rfl) ⟨_,rfl,fun K hK=> ?_⟩
   go_simp
   refine hK.out _ _ (fun _=>bV.out _ (dU.out.next hBb)) ?_;clear hK;refine ax.one (i:=19) (by kernel_rfl) ⟨_,rfl,fun K hK=> ?_⟩;refine Ve rfl _ _ rfl rfl rfl rfl zH hrow hsb (by omega) ?_;intro a' d' wc hown6 hgrow hat;have nZ:Below (w.heap.size+2) Wd wc:=(hBb.mono dU.out.size).grown hgrow hsb fun k hk=>(zH.lt k hk).1;have EW:=dU.out.later nZ;refine hK.out _ _ (fun _=>bV.out _ EW) ?_;clear hK
   have yj:aM wc (w.heap.size+2) (.slice a' (R.length+1) d') (RM++[(.slice aa nn da,((N:Int),(l.take cn).drop bn))]):=by
    refine dN.out.IK (w5:=wa.alloc (.cells #[.int .i64 N,.slice aa nn da] 91)) dU.out.size hBb ?_ hgrow ?_ ?_
    ·rw[BV.out]
     exact jf (Nj.alloc _) bW.size
    ·rw[BI,HLen.out]
     exact hown6
    ·intro g hg
     exact(hat g hg).imp id fun e=>by omega
   refine ax.last (i:=20) (by kernel_rfl) ⟨_,rfl,fun K hK=> ?_⟩
   go_simp
   refine hK.out _ _ (fun h=>absurd h (by omega)) (NoPanic.normal ?_);clear hK
   go_wp2_with fail
   go_meet
   case rel=>exact⟨_,_,rfl,yj,by rw[List.map_append,Wm.out];rfl,EW⟩
 case rest=>
  obtain⟨lv,RK,rfl,wC,Wp,Nk⟩:=hcut;clear oN Jd;obtain⟨la,lc,hlv⟩:=bK wC.own;subst hlv;obtain⟨x0,x1,x2,x3,x4,x5,x6⟩:=bV.out wc Nk;have HC8:Hid (bI w cs 255 (some ⟨b0,o0,none⟩) rc R wc):=Nk;have nI:Hid (aM wc (w.heap.size+2) (.slice la RK.length lc) RK):=wC;have K8:Hid ((RK.map fun x=>x.2)=R.set ka (L,l.take bn++(false,(N:Int))::l.drop cn)++[((N:Int),(l.take cn).drop bn)]):=Wp;have wi:=EI (w:=wc) (T:=T) (N:=N) (ra:=some ⟨b0,o0,none⟩) (rn:=R.length) (rc:=rc) (op:=op) (a:=ka) (b:=bn) (c:=cn) (M:=(N:Int)+1) (oa:=la) (on:=RK.length) (oc:=lc);clear Nk wC Wp
  go_wp2_with
   (go_at_call 227;refine wi.mono ?_;rintro e w3 ⟨rfl,hB3⟩
    have fF:Hid (bI w cs 255 (some ⟨b0,o0,none⟩) rc R w3):=HC8.out.next hB3;have sU:Hid (aM w3 (w.heap.size+2) (.slice la RK.length lc) RK):=nI.out.below hB3;have y0:=fF.out.y0;have y1:=fF.out.y1;have y2:=fF.out.y2;have BK:=fF.out.yf 0;have BL:=fF.out.yf 1;have BM:=fF.out.yf 2
    clear wi hB3)
  have q0:=uq (v0:= .int .i64 T) (v1:= .int .i64 (N+1)) (v2:= .slice la RK.length lc) y0;have q1:=uw (v0:= .int .i64 T) (v1:= .int .i64 (N+1)) (v2:= .slice la RK.length lc) y1;have q2:=uy (v0:= .int .i64 T) (v1:= .int .i64 (N+1)) (v2:= .slice la RK.length lc) y2;refine bodyPost_ret (v:= .agg #[.int .i64 T,.int .i64 (N+1),.slice la RK.length lc]) (by simp[results,Tryz.results231,go_sem,q0,q1,q2]) rfl ?_;have ho:=fF.out.out sU.out (.int .i64 T) (.int .i64 (N+1)) (.slice la RK.length lc);exact⟨_,RK,rfl,ho.1,K8.out,ho.2⟩
theorem aeX{g f sl lc:Nat}{fi:Int}(hf:fi=f)(hu:f<=lc)(w:World):Sem.run Tryz.prog (Instr.sliceAt 24 (.slice (some ⟨g,0,none⟩) sl lc) none (some (.int .i64 fi)) none) w= .ok (.slice (some ⟨g,0,none⟩) f lc) w:=by
 subst hf;have h0:(0:Int)<=(f:Int):=Int.natCast_nonneg _;have h1:(f:Int)<=(lc:Int):=by omega
 go_simp
theorem aeY{la:Option Addr}{f n sl lc:Nat}{fi:Int}(hf:fi=f)(hs:sl=f+n):∃A,(∀w:World,Sem.run Tryz.prog (Instr.sliceAt 24 (.slice la sl lc) (some (.int .i64 fi)) none none) w= .ok (.slice A n (lc-f)) w)/\(lc≠f->A=la.map (·.add (f*2))):=by
 subst hf;have h0:(0:Int)<=(f:Int):=Int.natCast_nonneg _;have h1:(f:Int)<=(sl:Int):=by omega
 have h2:sl-f=n:=by omega
 refine⟨if lc=f then la else la.map (·.add (f*2)),fun w=> ?_,fun h=>by rw[if_neg h]⟩
 go_simp
 intro h;omega
section
variable{w:World}{B:Nat}{e:TypeId}{v:Value}{n:Nat}{xs:List Value}
theorem aeZ(h:w.ownsRow B e 2 v n xs)(h1:∀u∈xs,u.oneCell'=true):eO w v n xs:=by
 have hh:=h;obtain⟨hl,⟨hv,h0⟩|⟨g,cap,cur,hv,hb,_,hle,_⟩⟩:=hh
 ·exact⟨⟨none,0,by rw[hv,h0],by omega⟩,hl,h1,fun hm=>by omega⟩
 ·subst hv
  refine⟨⟨_,_,rfl,hle⟩,hl,h1,fun _=>⟨_,_,rfl,fun j u hu=> ?_⟩⟩;have hj:=(List.getElem?_eq_some_iff.1 hu).1;rw[Addr.add_lit,Nat.zero_add,h.cellAt j (by omega),hu]
theorem eO.take{f:Nat}{qa:Option Addr}{d:Nat}(h:eO w (.slice qa n d) n xs)(hf:f<=n):eO w (.slice qa f d) f (xs.take (f*2)):=by
 obtain⟨⟨_,_,hv,hle⟩,hl,h1,hc⟩:=h;cases hv;refine⟨⟨_,_,rfl,by omega⟩,by rw[List.length_take];omega,fun u hu=>h1 u (List.mem_of_mem_take hu),fun hm=> ?_⟩;obtain⟨ad,c,hv,hcell⟩:=hc (by omega);cases hv;refine⟨_,_,rfl,fun j u hu=>hcell j u ?_⟩;rw[List.getElem?_take]at hu;split at hu
 ·exact hu
 ·cases hu
theorem eO.drop{f m:Nat}{qa A:Option Addr}{d:Nat}(h:eO w (.slice qa n d) n xs)(hf:n=f+m)(hA:d≠f->A=qa.map (·.add (f*2))):eO w (.slice A m (d-f)) m (xs.drop (f*2)):=by
 obtain⟨⟨_,_,hv,hle⟩,hl,h1,hc⟩:=h;cases hv;refine⟨⟨_,_,rfl,by omega⟩,by rw[List.length_drop];omega,fun u hu=>h1 u (List.mem_of_mem_drop hu),fun hm=> ?_⟩;obtain⟨ad,c,hv,hcell⟩:=hc (by omega);cases hv;have hA':=hA (by omega);simp only[Option.map_some]at hA';subst hA';refine⟨_,_,rfl,fun j u hu=> ?_⟩;rw[List.getElem?_drop]at hu;have:=hcell _ _ hu;rw[<-this]
 congr 1
 unfold Addr.add;by_cases h0:f*2=0
 ·have:f=0:=by omega
  subst this;simp
 ·by_cases h2:j=0
  ·subst h2;simp
  ·have h3:¬(f*2+j=0):=by omega
   simp only[h0,h2,h3,if_false]
   congr 1
   omega
end
theorem ae0(RL:List (Value×Ru))(f:Nat):(cO RL).take (f*2)=cO (RL.take f):=by
 unfold cO
 induction RL generalizing f with
 |nil=>simp
 |cons a RL ih=>
  cases f with
  |zero=>simp
  |succ f=>
   rw[List.flatMap_cons,List.take_succ_cons,List.flatMap_cons,<-ih f,show (f+1)*2=f*2+1+1 by omega];simp[jB]
theorem ae1(RL:List (Value×Ru))(f:Nat):(cO RL).drop (f*2)=cO (RL.drop f):=by
 unfold cO
 induction RL generalizing f with
 |nil=>simp
 |cons a RL ih=>
  cases f with
  |zero=>simp
  |succ f=>
   rw[List.flatMap_cons,List.drop_succ_cons,<-ih f,show (f+1)*2=f*2+1+1 by omega];simp[jB]
section
variable{w w6:World}{B n:Nat}{lv pv nv:Value}{RL PL RK:List (Value×Ru)}
theorem aM.rowAt(h:aM w B lv RL):eO w lv RL.length (cO RL):=aeZ h.own (adQ h.slices)
theorem aM.cat(h1:aM w B lv RL)(h2:aM w B pv PL)(hB:B<=w.heap.size)(hb:Below w.heap.size w w6)(ho:w6.ownsRow w.heap.size 91 2 nv RK.length (cO RK))(hm:∀x∈RK,x∈RL\/x∈PL):aM w6 B nv RK:=by
 refine⟨jf ho hB,fun x hx=> ?_⟩;have vE:∀b,b<w.heap.size->nv.ownBlock≠some b:=fun b hlt e=>by have:=(ho.lt b e).1;omega
 rcases hm x hx with hx|hx
 ·exact(h1.sym x hx).kept hb.size fun b hA hlt=>⟨hb.block b hlt,hA.1,vE b hlt⟩
 ·exact(h2.sym x hx).kept hb.size fun b hA hlt=>⟨hb.block b hlt,hA.1,vE b hlt⟩
theorem ae2{pb:Nat}{va vb vc:Value}{xa xb xc:List Value}{na nb nc:Nat}(p0:w.cell? ⟨pb,0,none⟩=some va)(p1:w.cell? ⟨pb,1,none⟩=some vb)(p2:w.cell? ⟨pb,2,none⟩=some vc)(ha:eO w va na xa)(hb:eO w vb nb xb)(hc:eO w vc nc xc)(hs:na+nb+nc<=100000):
 Calls Tryz.prog 238 #[.slice (some ⟨pb,0,none⟩) 3 3] w fun e w'=> ∃a d,e= .returned (.slice a (na+nb+nc) d)/\w'.ownsRow w.heap.size 91 2 (.slice a (na+nb+nc) d) (na+nb+nc) (xa++xb++xc)/\Below w.heap.size w w':=by
 have hN:dm [(va,na,xa),(vb,nb,xb),(vc,nc,xc)]=na+nb+nc:=by simp[dm];omega
 have hX:kC [(va,na,xa),(vb,nb,xb),(vc,nc,xc)]=xa++xb++xc:=by simp[kC]
 have cc:=adJ (w:=w) (pb:=pb) (PL:=[(va,na,xa),(vb,nb,xb),(vc,nc,xc)]) (fun i hi=>by
  match i,hi with
  |0,_=>exact p0
  |1,_=>exact p1
  |2,_=>exact p2
  |i+3,hi=>exact absurd hi (by simp)) (fun p hp=>by
  simp only[List.mem_cons,List.not_mem_nil,or_false]at hp;rcases hp with rfl|rfl|rfl
  ·exact ha
  ·exact hb
  ·exact hc) (by rw[hN];exact hs) (by simp)
 rw[hN,hX]at cc;exact cc
end
end Go.Proofs.YtblkkhfdeaaidaaGreatDoor
