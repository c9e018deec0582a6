import Derived.Test.YtblkkhfdeaaidaaGreatDoorTkTabAndGrow
import Derived.Test.YtblkkhfdeaaidaaGreatDoorSetsStillAndSetsIs
import Derived.Test.YtblkkhfdeaaidaaGreatDoorLooksMathAndTabMath
import Derived.Test.YtblkkhfdeaaidaaGreatDoorTxMathAndDerMath
import Derived.Test.YtblkkhfdeaaidaaGreatDoorTxPaAndLfp
set_option maxHeartbeats 3200000
set_option maxRecDepth 100000
namespace Go.Proofs.YtblkkhfdeaaidaaGreatDoor
open Go.RowKit
def Bj(w:World)(T N:Nat)(rv nv fv wv:Value):eD:=⟨w.heap.size+1+1,w.heap.size,w.heap.size+1,T,N,rv,nv,fv,wv⟩
def Bl:bS:=⟨.slice none 0 0,fun _=> .slice none 0 0,.slice none 0 0,[]⟩
theorem acE(w:World)(T N:Nat)(rv nv fv wv:Value):
 aj w (((w.alloc (.map #[] 0)).alloc (.map #[] 0)).alloc (.cells #[.int .i64 T,.int .i64 N,rv,nv,fv,wv,.slice none 0 0,.map (some w.heap.size),.map (some (w.heap.size+1)),.slice none 0 0] 107)) (Bj w T N rv nv fv wv) Bl (aS T []) 0 ⟨fun _=>0,[],0⟩:=by
 have m1:=CU w Tryz.prog 143 o7;have m2:=CU (w.alloc (.map #[] 0)) Tryz.prog 145 mX;simp only[World.size_alloc]at m2;have eL:(fun _=>none)=tL (fun _=>0):=by funext x;simp[tL]
 refine⟨⟨fun i r hr=> ?_,fun i j x y hij hx hy g h1 h2=> ?_⟩,((m1.alloc _).alloc _).congr (aai T).symm,(m2.alloc _).congr eL,by simp only[Bj];omega,by simp only[Bj];omega,(((Below.refl _ _).alloc (Nat.le_refl _) _).alloc (by simp) _).alloc (by simp;omega) _⟩
 ·cases i with
  |ma=>
   simp only[gM,Option.some.injEq]at hr;subst hr;have:=World.ownsRow_lit (base:=w.heap.size) (e:=107) (size:=10) ((w.alloc (.map #[] 0)).alloc (.map #[] 0)) #[.int .i64 T,.int .i64 N,rv,nv,fv,wv,.slice none 0 0,.map (some w.heap.size),.map (some (w.heap.size+1)),.slice none 0 0] 1 (by simp;omega) (by unfold maxLen;omega) rfl;simp only[World.size_alloc]at this;exact this
  |st=>simp only[gM,Option.some.injEq]at hr;subst hr;exact World.ownsRow_nil _ _ _ _
  |op=>simp only[gM,Option.some.injEq]at hr;subst hr;exact World.ownsRow_nil _ _ _ _
  |it k=>simp[gM,Bl]at hr
 ·cases i<;>cases j<;>simp only[gM,Bl,Option.some.injEq,List.length_nil,Nat.not_lt_zero,if_false,reduceCtorEq]at hx hy<;>subst hx<;>subst hy<;>first|exact hij rfl|(cases h2;done)|(cases h1;done)
theorem all_zero{T N:Nat}{R:List Ru}(K:Nat):0<(af T N R K).2.length/\(af T N R K).2.getD 0 bC=Cl R fun i=>i=(R.length,0):=by
 obtain⟨E,hE⟩:=KF (T:=T) (N:=N) (R:=R) 0 K (Nat.zero_le _);have h0:(af T N R 0).2=[Cl R fun i=>i=(R.length,0)]:=rfl;rw[hE,h0];exact⟨by simp,by simp[List.getD]⟩
theorem acF{w:World}{T N:Nat}{rv nv fv wv:Value}{R:List Ru}(hm:aD T N R=true)(hr:au w w.heap.size rv R)(hn:kL w nv (fI R N))(hfi:oZ w fv (jW R (fI R N) T N)):iT w (Bj w T N rv nv fv wv) R (fI R N) (jW R (fI R N) T N):=by
 obtain⟨hT,hN1,hN,hRl,h5⟩:=fV hm;obtain⟨hf,h8⟩:=Hr hm;obtain⟨n1,n2⟩:=Q7 hf;obtain⟨f1,f2⟩:=Q9 hf n2;refine⟨hr,hn,hfi,n1,f1.1,f1.2,hT,⟨hN1,hN⟩,hRl,fun q hq=>(h8 q hq).2,fun r hr s hs=> ?_⟩;unfold aH at hs;split at hs
 ·simp only[List.mem_singleton]at hs
  subst hs;exact⟨fun h=>(nomatch h),fun _=>⟨by simp,by simp[Bj];omega⟩⟩
 ·have hm':R.getD r (0,[])∈R:=by simp[List.getD,show r<R.length by omega]
  exact⟨fun h=>hf.term _ hm' _ hs h,fun h=>hf.name _ hm' _ hs h⟩
theorem Ue{w:World}{T N:Nat}{rv:Value}{R:List Ru}(hr:au w w.heap.size rv R)(hm:aD T N R=true):
 Calls Tryz.prog 31 #[.agg #[.int .i64 T,.int .i64 N,rv]] w fun e w'=>
  (e= .returned (.tuple #[.agg #[.slice none 0 0,.slice none 0 0],.int .i64 1])/\Below w.heap.size w w'/\More T N R 150)\/
  ∃K cv gv,e= .returned (.tuple #[.agg #[cv,gv],.int .i64 0])/\Below w.heap.size w w'/\Whole T N R K/\K<=150/\∀w'':World,(∀b,w.heap.size<=b->b<w'.heap.size->w''.heap[b]?=w'.heap[b]?)->TabAt w'' cv gv (bZ T N R K) (iP T N R K):=by
 obtain⟨ra,rc,aG⟩:=hr.1;subst aG;have hr1:=(hr.boxed (.cells #[.int .i64 T,.int .i64 N,.slice ra R.length rc] 26)).boxed (.cells #[.slice none 0 0,.slice none 0 0] 67);have sets:=TY (T:=T) (N:=N) hr1 hm;have HR1:Hid (au ((w.alloc (.cells #[.int .i64 T,.int .i64 N,.slice ra R.length rc] 26)).alloc (.cells #[.slice none 0 0,.slice none 0 0] 67)) ((w.alloc (.cells #[.int .i64 T,.int .i64 N,.slice ra R.length rc] 26)).alloc (.cells #[.slice none 0 0,.slice none 0 0] 67)).heap.size (.slice ra R.length rc) R):=hr1;have HM:Hid (aD T N R=true):=hm;have HB0:Hid (Below w.heap.size w ((w.alloc (.cells #[.int .i64 T,.int .i64 N,.slice ra R.length rc] 26)).alloc (.cells #[.slice none 0 0,.slice none 0 0] 67))):=((Below.refl _ _).alloc (Nat.le_refl _) _).alloc (by simp) _;clear hr hm hr1;have hmm:= @run_makeMap Tryz.prog
 go_enter Tryz.func31,Tryz.ntmps31
 go_upto_region 5 with
  (go_at_call 27;refine sets.mono ?_;rintro e w2 ⟨nv,fv,gv,vf,vg,rfl,hB2,gb,B,Y,hBB,hA,hg,kz,hF,hG⟩
   obtain⟨na,nc,vE⟩:=(L9 kz).1;obtain⟨fa,fc,o8⟩:=hF.1;obtain⟨ga,gc,hgv⟩:=hG.1;have hN':nv= .slice na N nc:=by rw[vE,hA.bU .null N rfl]
   clear vE;subst hN';subst o8;subst hgv;have hs2:w.heap.size+2<=w2.heap.size:=by have:=hB2.size;simp at this;omega
   have x0:w2.cell? ⟨w.heap.size+1,0,none⟩=some (.slice none 0 0):=(hB2.cell (by simp)).trans (by simp[go_sem]);have x1:w2.cell? ⟨w.heap.size+1,1,none⟩=some (.slice none 0 0):=(hB2.cell (by simp)).trans (by simp[go_sem]);have xf0:w2.frozen? ⟨w.heap.size+1,0,none⟩=false:=(hB2.frozen (by simp)).trans (by simp[go_sem]);have xf1:w2.frozen? ⟨w.heap.size+1,1,none⟩=false:=(hB2.frozen (by simp)).trans (by simp[go_sem]);have b0:w2.cell? ⟨w.heap.size,0,none⟩=some (.int .i64 T):=(hB2.cell (by simp;omega)).trans (by simp[go_sem]);have b1:w2.cell? ⟨w.heap.size,1,none⟩=some (.int .i64 N):=(hB2.cell (by simp;omega)).trans (by simp[go_sem]);have b2:w2.cell? ⟨w.heap.size,2,none⟩=some (.slice ra R.length rc):=(hB2.cell (by simp;omega)).trans (by simp[go_sem]);have HR2:Hid (au w2 w2.heap.size (.slice ra R.length rc) R):=(HR1.out.below hB2).mono hB2.size;have HD1:Hid (kL w2 (.slice na N nc) (Y .null)):=L9 kz;have HD2:Hid (oZ w2 (.slice fa N fc) ((List.range N).map fun n=>Y (.f n))):=Ud kz hF;have HE:Hid (Y .null=fI R N/\((List.range N).map fun n=>Y (.f n))=jW R (fI R N) T N/\((List.range N).map fun n=>Y (.g n))=Gf R (fI R N) (jW R (fI R N) T N) T N):=acD (Hr HM.out).1 hA hg;have HB2:Hid (Below w.heap.size w w2):=HB0.out.trans (hB2.mono (by simp;omega));have hal:Below w2.heap.size w2 (w2.alloc (.cells #[.slice na N nc,.slice fa N fc,.slice ga N gc] 56)):=(Below.refl _ _).alloc (Nat.le_refl _) _;have y0:=(hal.cell (p:=⟨w.heap.size,0,none⟩) (by simp only;omega)).trans b0;have y1:=(hal.cell (p:=⟨w.heap.size,1,none⟩) (by simp only;omega)).trans b1;have y2:=(hal.cell (p:=⟨w.heap.size,2,none⟩) (by simp only;omega)).trans b2
   clear hB2 hal hBB hA hg kz hF hG sets b0 b1 b2)
 clear hmm y0 y1 y2;obtain⟨W3,hW3⟩:∃W,w2.alloc (.cells #[.slice na N nc,.slice fa N fc,.slice ga N gc] 56)=W:=⟨_,rfl⟩;have hs3:W3.heap.size=w2.heap.size+1:=by rw[<-hW3];simp
 have hB3:Below w2.heap.size w2 W3:=by rw[<-hW3];exact(Below.refl _ _).alloc (Nat.le_refl _) _
 have hst:=acE W3 T N (.slice ra R.length rc) (.slice na N nc) (.slice fa N fc) (.slice ga N gc);have E:=acF (wv:= .slice ga N gc) HM.out ((HR2.out.below hB3).mono (by omega)) (by have:=HD1.out;rw[HE.out.1]at this;exact this.same (iH hB3)) (by have:=HD2.out;rw[HE.out.2.1]at this;exact this.same (iH hB3))
 have Bn:Hid (∀wq,Below W3.heap.size W3 wq->wq.cell? ⟨w.heap.size+1,0,none⟩=some (.slice none 0 0)/\wq.cell? ⟨w.heap.size+1,1,none⟩=some (.slice none 0 0)/\wq.frozen? ⟨w.heap.size+1,0,none⟩=false/\wq.frozen? ⟨w.heap.size+1,1,none⟩=false/\Below w.heap.size w wq):=fun wq hb=>by
  have hb2:Below w2.heap.size w2 wq:=hB3.trans (hb.mono (by omega));exact⟨(hb2.cell (p:=⟨w.heap.size+1,0,none⟩) hs2).trans x0,(hb2.cell (p:=⟨w.heap.size+1,1,none⟩) hs2).trans x1,(hb2.frozen (p:=⟨w.heap.size+1,0,none⟩) hs2).trans xf0,(hb2.frozen (p:=⟨w.heap.size+1,1,none⟩) hs2).trans xf1,HB2.out.trans (hb2.mono (by omega))⟩
 have hfr:∀n,((jW R (fI R N) T N).getD n []).length<=T:=fun n=>by
  by_cases hn:n<N
  ·exact Nat.le_of_eq (E.yR n hn)
  ·have:(jW R (fI R N) T N).length=N:=E.xu
   simp[List.getD,List.getElem?_eq_none (show (jW R (fI R N) T N).length<=n by omega)]
 obtain⟨d,hd⟩:∃d,Bj W3 T N (.slice ra R.length rc) (.slice na N nc) (.slice fa N fc) (.slice ga N gc)=d:=⟨_,rfl⟩;have hT:d.T=T:=by rw[<-hd];rfl
 have hN:d.N=N:=by rw[<-hd];rfl
 have hma:d.ma=w2.heap.size+1+1+1:=by rw[<-hd];show W3.heap.size+1+1=_;rw[hs3]
 rw[hd]at hst E;rw[hW3];rw[hs3]at hst;obtain⟨W4,dD⟩:∃W,(((W3.alloc (.map #[] 0)).alloc (.map #[] 0)).alloc (.cells #[.int .i64 T,.int .i64 N,.slice ra R.length rc,.slice na N nc,.slice fa N fc,.slice ga N gc,.slice none 0 0,.map (some (w2.heap.size+1)),.map (some (w2.heap.size+1+1)),.slice none 0 0] 107))=W:=⟨_,rfl⟩;rw[dD]at hst⊢;subst hT;subst hN;have HST:Hid (aj W3 W4 d Bl (aS d.T []) 0 ⟨fun _=>0,[],0⟩):=hst;have Hy:Hid (iT W3 d R (fI R d.N) (jW R (fI R d.N) d.T d.N)):=E;have HFR:Hid (∀n,((jW R (fI R d.N) d.T d.N).getD n []).length<=d.T):=hfr;have fs:=abz E hst rfl;rw[hma]at fs;have Uf:Hid (d.ma=w2.heap.size+1+1+1):=hma;clear hW3 dD hB3 hd hst E hfr hma x0 x1 xf0 xf1 HR1 HR2 HD1 HD2 HE HB0 HB2;have Ug:Hid (W3.heap.size=w2.heap.size+1):=hs3;clear hs3;by_cases hmore:More d.T d.N R 150
 ·have Uh:Calls Tryz.prog 59 #[.pointer (some ⟨w2.heap.size+1+1+1,0,none⟩)] W4 fun e w5=>e= .returned (.bool false)/\Below W3.heap.size W4 w5:=fs.mono fun e w5 h=>by
   rcases h with⟨h1,_,h2⟩|⟨_,K,v',ng,h3,h4⟩
   ·exact⟨h1,h2⟩
   ·refine absurd hmore (yN (K:=K) ?_ (by rw[<-h4];exact h3.few))
    unfold Whole;rw[<-h3.s.len];exact h4
  clear fs
  go_wp2_with
   (go_at_call 59;refine Uh.mono ?_;rintro e w5 ⟨rfl,ak⟩
    obtain⟨x0,x1,xf0,xf1,hb5⟩:=Bn.out w5 (HST.out.since.trans ak);have fA:Hid (Below w.heap.size w w5):=hb5
    clear hb5 ak Uh)
  refine bodyPost_ret (v:= .tuple #[.agg #[.slice none 0 0,.slice none 0 0],.int .i64 1]) (by simp[results,Tryz.results31,go_sem,x0,x1]) rfl (.inl ⟨rfl,(fA.out.setCell (by simp) _).setCell (by simp) _,hmore⟩)
 ·have fsF:Calls Tryz.prog 59 #[.pointer (some ⟨w2.heap.size+1+1+1,0,none⟩)] W4 fun e w5=>e= .returned (.bool true)/\∃K v' ng,F1 W3 W4 d Bl ⟨fun _=>0,[],0⟩ R K v' ng w5/\v'.OL.length=K:=fs.mono fun e w5 h=>by
   rcases h with⟨_,h1,_⟩|h
   ·exact absurd h1 hmore
   ·exact h
  clear fs
  go_wp2_with
   (first
    |(go_at_call 59;refine fsF.mono ?_;rintro e w5 ⟨rfl,K,v',ng,hF1,hK⟩
      have hz:=all_zero (T:=d.T) (N:=d.N) (R:=R) K;obtain⟨Ma,hW⟩:=ab4 hF1.s hK (⟨by show 0<v'.OL.length;rw[hF1.s.len];exact hz.1,((hF1.s.jo 0 (by rw[hF1.s.len];exact hz.1)).mem _).2 (by rw[hz.2];exact Cl.base rfl)⟩) Hy.out.sym;have ol:ng<=10000000:=by have:=hF1.ng;have:=hF1.few;have:=hF1.le;omega
      have fl:=aa5 Hy.out hF1.m Ma hF1.few ol;rw[Uf.out]at fl;have Eo:Hid (F1 W3 W4 d Bl ⟨fun _=>0,[],0⟩ R K v' ng w5/\v'.OL.length=K):=⟨hF1,hK⟩;have Hz:Hid (jq d.T d.N R v'.OL (af d.T d.N R K).1 (af d.T d.N R K).2/\Whole d.T d.N R K):=⟨Ma,hW⟩
      clear hF1 hK hz Ma hW)
    |(go_at_call 60;refine fl.mono ?_;rintro e w6 ⟨rfl,aA,st',jv,hL6,o9⟩
      have tab:=abX (v:={ v' with ov:=aA }) Hy.out jv Eo.out.1.s Eo.out.1.few ol hL6.c hL6.lk (fun k hk n hn=>ab1 Hz.out.1 hk hn) (fun k hk n hn=>ab2 Hz.out.1 hk hn);rw[Uf.out]at tab;have CZ:Hid (DT d.T d.N R v'.OL (af d.T d.N R K).1 (af d.T d.N R K).2 (fI R d.N) (jW R (fI R d.N) d.T d.N) st'):=hL6;have mJ:Hid (aj W3 w6 d { v' with ov:=aA } (aS d.T (af d.T d.N R K).1) ng st'):=jv
      clear jv hL6 o9 fl)
    |(go_at_call 61;refine tab.mono ?_;rintro e w7 ⟨cv,gv,rfl,tT,fJ⟩
      obtain⟨x0,x1,xf0,xf1,Ep⟩:=Bn.out w7 (mJ.out.since.trans (fJ.mono mJ.out.le));have H8:Hid (Below w.heap.size w w7):=Ep
      have HT7:Hid (∀w'':World,(∀b,w6.heap.size<=b->b<w7.heap.size->w''.heap[b]?=w7.heap[b]?)->TabAt w'' cv gv (bZ d.T d.N R K) (iP d.T d.N R K)):=fun w'' hw=>by
       have h9:=tT w'' hw;obtain⟨e1,e2⟩:=ab3 Hy.out.hN.1 Hz.out.1 Eo.out.2 HFR.out CZ.out;rw[<-e1,<-e2];exact h9
      obtain⟨ca,cc,hcv⟩:=(tT w7 (fun _ _ _=>rfl)).cells.1;obtain⟨Ui,Uj,hgv⟩:=(tT w7 (fun _ _ _=>rfl)).goto.1;simp only[List.length_map,List.length_range]at hcv hgv;subst hcv;subst hgv
      clear Ep fJ tT))
  refine bodyPost_ret (v:= .tuple #[.agg #[.slice ca v'.OL.length cc,.slice Ui v'.OL.length Uj],.int .i64 0]) (by simp[results,Tryz.results31,go_sem,x0,x1]) rfl (.inr ⟨K,.slice ca v'.OL.length cc,.slice Ui v'.OL.length Uj,rfl,(H8.out.setCell (by simp) _).setCell (by simp) _,Hz.out.2,by rw[<-Eo.out.2];exact Eo.out.1.few,fun w'' hw=>HT7.out _ fun b hb hlt=> ?_⟩);have h6:=mJ.out.le;rw[Ug.out]at h6;rw[hw b (by omega) (by simpa using hlt),Below.heap_setCell _ _ _ _ (by simp only;omega),Below.heap_setCell _ _ _ _ (by simp only;omega)]
theorem Uk{w:World}{T N:Nat}{rv:Value}{R:List Ru}(hr:au w w.heap.size rv R)(hm:aD T N R=true):
 Calls Tryz.prog 31 #[.agg #[.int .i64 T,.int .i64 N,rv]] w fun e w'=>
  (e= .returned (.tuple #[.agg #[.slice none 0 0,.slice none 0 0],.int .i64 1])/\Below w.heap.size w w'/\More T N R 150)\/
  ∃K cv gv,e= .returned (.tuple #[.agg #[cv,gv],.int .i64 0])/\Below w.heap.size w w'/\Whole T N R K/\K<=150/\TabAt w' cv gv (bZ T N R K) (iP T N R K):=by
 refine(Ue hr hm).mono fun e w' h=> ?_;rcases h with h|⟨K,cv,gv,h1,h2,h3,h4,h5⟩
 ·exact .inl h
 ·exact .inr ⟨K,cv,gv,h1,h2,h3,h4,h5 w' fun _ _ _=>rfl⟩
def Mc(c:Ce):Nat:=c.2.1.length+(if 0<=c.1 then 1 else 0)+(if c.2.2 then 1 else 0)
theorem acG(c:Ce):decide (1<Mc c)= !xh c:=by
 obtain⟨sh,ru,en⟩:=c;unfold Mc xh;simp only;cases en<;>by_cases h:sh<0<;>by_cases h0:ru.length=0<;>by_cases h1:ru.length=1<;>simp[h,h0,h1,show (0<=sh)↔¬sh<0 by omega]<;>omega
theorem acH{w:World}{sh:Int}{ra:Option Addr}{n rc:Nat}{en:Bool}(hn:n<=1000):
 Calls Tryz.prog 62 #[.agg #[.int .i64 sh,.slice ra n rc,.bool en]] w fun e w'=>e= .returned (.int .i64 ((n+(if 0<=sh then 1 else 0)+(if en then 1 else 0):Nat):Int))/\Below w.heap.size w w':=by
 have HB0:Hid (Below w.heap.size w (w.alloc (.cells #[.int .i64 sh,.slice ra n rc,.bool en] 112))):=(Below.refl _ _).alloc (Nat.le_refl _) _
 go_enter Tryz.func62,Tryz.ntmps62
 by_cases h:0<=sh
 ·have hd:decide (0<=sh)=true:=decide_eq_true h
  cases en
  ·go_wp2_with fail
   go_ret;exact⟨by simp,HB0.out⟩
  ·go_wp2_with fail
   go_ret;exact⟨by simp,HB0.out⟩
 ·have hd:decide (0<=sh)=false:=decide_eq_false h
  cases en
  ·go_wp2_with fail
   go_ret;exact⟨by simp,HB0.out⟩
  ·go_wp2_with fail
   go_ret;exact⟨by simp,HB0.out⟩
theorem Ul{w:World}{cv gv:Value}{C:List (List Ce)}{G:List (List Int)}(h:TabAt w cv gv C G)(hC:C.length<=1000)(hR:∀i,i<C.length->(C.getD i []).length<=1000)(hU:∀i k,i<C.length->k<(C.getD i []).length->((C.getD i []).getD k (0,[],false)).2.1.length<=1000):
 Calls Tryz.prog 32 #[.agg #[cv,gv]] w fun e w'=>e= .returned (.int .i64 (fw C))/\Below w.heap.size w w':=by
 obtain⟨ca,cc,hcv⟩:=h.cells.1;obtain⟨ga,gc,hgv⟩:=h.goto.1;subst hcv;subst hgv;have HH:Hid (Dt w (.slice ca C.length cc) C):=h.cells;have HR:Hid (∀i,i<C.length->(C.getD i []).length<=1000):=hR;have HB0:Hid (Below w.heap.size w (w.alloc (.cells #[.slice ca C.length cc,.slice ga G.length gc] 67))):=(Below.refl _ _).alloc (Nat.le_refl _) _
 have qX:Hid (∀wr,Below (w.heap.size+1) (w.alloc (.cells #[.slice ca C.length cc,.slice ga G.length gc] 67)) wr->wr.cell? ⟨w.heap.size,0,none⟩=some (.slice ca C.length cc)/\Below w.heap.size w wr/\w.heap.size+1<=wr.heap.size):=fun wr hB=>
  ⟨(hB.cell (by simp)).trans (by simp[go_sem]),HB0.out.trans (hB.mono (by omega)),by have:=hB.size;simpa using this⟩
 have HU:Hid (∀i k,i<C.length->k<(C.getD i []).length->((C.getD i []).getD k (0,[],false)).2.1.length<=1000):=hU;clear h hR hU
 go_enter Tryz.func32,Tryz.ntmps32
 go_wp2_with fail
 obtain⟨WT,Um⟩:∃W,w.alloc (.cells #[.slice ca C.length cc,.slice ga G.length gc] 67)=W:=⟨_,rfl⟩;rw[Um]at qX⊢;clear Um HB0
 go_loopw [3,11] (fun s3 s4 wr=> ∃i:Nat,s3= .int .i64 (fw (C.take i))/\s4= .int .i64 i/\i<=C.length/\Below (w.heap.size+1) WT wr) (fun _ s _=>C.length-(intOf s).toNat)
 case atStart=>exact⟨0,rfl,rfl,Nat.zero_le _,Below.refl _ _⟩
 case round=>
  obtain⟨i,rfl,rfl,hi,hB⟩:=hrel;have HB:Hid (Below (w.heap.size+1) WT wr):=hB;obtain⟨b0,hBw,hsz⟩:=qX.out wr hB;by_cases hlt:i<C.length
  ·have AX:fw (C.take i)<=i*1000:=by
    have:=Rf (C:=C.take i) (m:=1000) fun j hj=>by
     have hj':j<i:=by simp at hj;omega
     have e:(C.take i).getD j []=C.getD j []:=by simp[List.getD,hj']
     rw[e];exact HR.out j (by omega)
    simp only[List.length_take]at this;rw[Nat.min_eq_left hi]at this;exact this
   obtain⟨Xr,oz⟩:∃x,C.getD i []=x:=⟨_,rfl⟩;have Bo:Hid (C.getD i []=Xr):=oz;have hXl:Xr.length<=1000:=by rw[<-oz];exact HR.out i hlt
   obtain⟨b,o,c,rv,hv,d0,hcs⟩:=(HH.out.below hBw).2 i hlt;cases hv;rw[oz]at hcs;obtain⟨xa,xc,aG⟩:=hcs.1;subst aG;have i0:(0:Int)<=(i:Int):=Int.natCast_nonneg _;have i1:(i:Int)<(C.length:Int):=by omega
   have tZ:Hid (∀wq,Below wr.heap.size wr wq->Dr wq (.slice xa Xr.length xc) Xr):=fun wq hb=>hcs.below hb;clear hB hBw oz hcs
   go_wp2_with fail
   clear b0 d0;obtain⟨wi,hwi⟩:∃x,wr=x:=⟨_,rfl⟩;have tX:Hid (Below (w.heap.size+1) WT wi):=by rw[<-hwi];exact HB.out
   have hsz':w.heap.size+1<=wi.heap.size:=by rw[<-hwi];exact hsz
   rw[hwi]at tZ
   go_loopw [3,17] (fun s3 s5 wq=> ∃k:Nat,s3= .int .i64 ((fw (C.take i)+mI (Xr.take k):Nat):Int)/\s5= .int .i64 k/\k<=Xr.length/\Below wi.heap.size wi wq) (fun _ s _=>Xr.length-(intOf s).toNat)
   case atStart=>exact⟨0,by simp[mI],rfl,Nat.zero_le _,by subst hwi;exact Below.refl _ _⟩
   case round=>
    obtain⟨k,rfl,rfl,hk,hB⟩:=hrel;have HB2:Hid (Below wi.heap.size wi wr):=hB;have hcs:=tZ.out wr hB;have hcr:=Rc (Xr.take k);simp only[List.length_take]at hcr;obtain⟨q,hq⟩:∃q,fw (C.take i)+mI (Xr.take k)=q:=⟨_,rfl⟩;have HQ:Hid (fw (C.take i)+mI (Xr.take k)=q):=hq;have hqb:q<=2000000:=by omega
    rw[hq];have acI:=hB.size;clear hB hq;by_cases Md:k<Xr.length
    ·obtain⟨b',o',c',rl,hv',e0,e1,e2,e3⟩:=hcs.2 k Md
     cases hv';have hstep:=aac Md;have Bp:=HU.out i k hlt (by rw[Bo.out];exact Md);rw[Bo.out]at Bp;obtain⟨⟨sh,ru,en⟩,hce⟩:∃x,Xr.getD k (0,[],false)=x:=⟨_,rfl⟩;rw[hce]at e0 e2 e3 hstep Bp;simp only at e0 e2 e3 Bp;obtain⟨ra,rc,hrl⟩:=e2.1;subst hrl;have k0:(0:Int)<=(k:Int):=Int.natCast_nonneg _;have k1:(k:Int)<(Xr.length:Int):=by omega
     have hsy:=acG (sh,ru,en);have say:=acH (w:=wr.alloc (.cells #[.int .i64 sh,.slice ra ru.length rc,.bool en] 112)) (sh:=sh) (ra:=ra) (rc:=rc) (en:=en) Bp;obtain⟨m,hmm⟩:∃m,Mc (sh,ru,en)=m:=⟨_,rfl⟩;have hmm':ru.length+(if 0<=sh then 1 else 0)+(if en then 1 else 0)=m:=hmm;rw[hmm']at say;rw[hmm]at hsy;obtain⟨z,hz⟩:∃z,xh (sh,ru,en)=z:=⟨_,rfl⟩;rw[hz]at hstep hsy;have jU:Hid (mI (Xr.take (k+1))=mI (Xr.take k)+(if z then 0 else 1)):=hstep;have hd:decide ((1:Int)<(m:Int))= !z:=by rw[<-hsy,Bool.eq_iff_iff,decide_eq_true_eq,decide_eq_true_eq];omega
     have HA:Hid (Below wi.heap.size wi (wr.alloc (.cells #[.int .i64 sh,.slice ra ru.length rc,.bool en] 112))):=HB2.out.alloc acI _;clear hcs hstep hce e2 hz hsy hmm hmm';cases z with
     |true=>
      simp only[Bool.not_true]at hd;simp only[if_true,Nat.add_zero]at jU
      go_wp2_with (go_at_call 62;refine say.mono ?_;rintro e w5 ⟨rfl,ak⟩
                   have fA:Hid (Below wi.heap.size wi w5):=HA.out.trans (ak.mono (by simp;omega))
                   clear ak)
      go_roundw
      case rel=>exact⟨k+1,by rw[jU.out,<-HQ.out]<;>first|rfl|go_num,by go_num,by omega,fA.out⟩
      case measure=>simp[intOf];omega
     |false=>
      simp only[Bool.not_false]at hd;simp only[Bool.false_eq_true,if_false]at jU
      go_wp2_with (go_at_call 62;refine say.mono ?_;rintro e w5 ⟨rfl,ak⟩
                   have fA:Hid (Below wi.heap.size wi w5):=HA.out.trans (ak.mono (by simp;omega))
                   clear ak)
      go_roundw
      case rel=>exact⟨k+1,by rw[jU.out,<-HQ.out]<;>first|rfl|go_num,by go_num,by omega,fA.out⟩
      case measure=>simp[intOf];omega
    ·have HE:Hid (fw (C.take (i+1))=q):=by
      show fw (C.take (i+1))=q;rw[Rb hlt,Bo.out,<-HQ.out,List.take_of_length_le (by omega:Xr.length<=k)]
     have G6:Hid (Below (w.heap.size+1) WT wr):=tX.out.trans (HB2.out.mono hsz');clear hcs
     go_wp2_with fail
     go_roundw
     case rel=>exact⟨i+1,by rw[HE.out],by go_num,by omega,G6.out⟩
     case measure=>simp[intOf];omega
  ·obtain rfl:i=C.length:=by omega
   have jk:Hid (Below w.heap.size w wr):=hBw;rw[List.take_length];clear hB hBw
   go_wp2_with fail
   go_ret;exact⟨rfl,jk.out⟩
end Go.Proofs.YtblkkhfdeaaidaaGreatDoor
namespace Go.Proofs.YtblkkhfdeaaidaaGreatDoor
def mM(A:Int->List Int->List Int->Prop):List Sy->List Int->List Int->Prop
 | [],d,Z=>d=[]/\Z=[]
 |(true,v)::l,d,Z=> ∃Z',Z=v::Z'/\mM A l d Z'
 |(false,n)::l,d,Z=> ∃d1 d2 Z1 Z2,d=d1++d2/\Z=Z1++Z2/\A n d1 Z1/\mM A l d2 Z2
def vO(R:List Ru):Nat->Int->List Int->List Int->Prop
 |0,_,_,_=>False
 |k+1,n,d,Z=> ∃q:Nat,q<R.length/\(R.getD q (0,[])).1=n/\∃d',d=(q:Int)::d'/\mM (vO R k) (R.getD q (0,[])).2 d' Z
def vP(R:List Ru)(n:Int)(d Z:List Int):Prop:=∃k,vO R k n d Z
theorem mM.mono{A B:Int->List Int->List Int->Prop}(h:∀n d Z,A n d Z->B n d Z):∀{l:List Sy} {d Z:List Int},mM A l d Z->mM B l d Z:=by
 intro l
 induction l with
 |nil=>intro d Z hZ;exact hZ
 |cons s l ih=>
  intro d Z hZ;obtain⟨b,n⟩:=s;cases b with
  |true=>obtain⟨Z',h1,h2⟩:=hZ;exact⟨Z',h1,ih h2⟩
  |false=>obtain⟨d1,d2,Z1,Z2,h1,h2,h3,h4⟩:=hZ;exact⟨d1,d2,Z1,Z2,h1,h2,h _ _ _ h3,ih h4⟩
theorem acJ{R:List Ru}:∀k n d Z,vO R k n d Z->vO R (k+1) n d Z:=by
 intro k
 induction k with
 |zero=>intro n d Z h;exact h.elim
 |succ k ih=>
  rintro n d Z ⟨q,h1,h2,d',h3,h4⟩;exact⟨q,h1,h2,d',h3,h4.mono ih⟩
theorem Un{R:List Ru}{k m:Nat}(h:k<=m):∀n d Z,vO R k n d Z->vO R m n d Z:=by
 induction h with
 |refl=>intro n d Z h;exact h
 |step _ ih=>intro n d Z h;exact acJ _ _ _ _ (ih n d Z h)
theorem acK{R:List Ru}:∀{l:List Sy} {d Z:List Int},mM (vP R) l d Z->∃k,mM (vO R k) l d Z:=by
 intro l
 induction l with
 |nil=>intro d Z h;exact⟨0,h⟩
 |cons s l ih=>
  intro d Z h;obtain⟨b,n⟩:=s;cases b with
  |true=>
   obtain⟨Z',h1,h2⟩:=h;obtain⟨k,hk⟩:=ih h2;exact⟨k,Z',h1,hk⟩
  |false=>
   obtain⟨d1,d2,Z1,Z2,h1,h2,⟨m,h3⟩,h4⟩:=h;obtain⟨k,hk⟩:=ih h4;exact⟨max m k,d1,d2,Z1,Z2,h1,h2,Un (Nat.le_max_left _ _) _ _ _ h3,hk.mono (Un (Nat.le_max_right _ _))⟩
theorem acL{R:List Ru}{q:Nat}(hq:q<R.length){d Z:List Int}(h:mM (vP R) (R.getD q (0,[])).2 d Z):vP R (R.getD q (0,[])).1 ((q:Int)::d) Z:=by
 obtain⟨k,hk⟩:=acK h;exact⟨k+1,q,hq,rfl,d,rfl,hk⟩
theorem acM{A:Int->List Int->List Int->Prop}:∀{l m:List Sy} {d d' Z Z':List Int},mM A l d Z->mM A m d' Z'->mM A (l++m) (d++d') (Z++Z'):=by
 intro l
 induction l with
 |nil=>rintro m d d' Z Z' ⟨rfl,rfl⟩ h';exact h'
 |cons s l ih=>
  intro m d d' Z Z' h h';obtain⟨b,n⟩:=s;cases b with
  |true=>obtain⟨Y,rfl,h2⟩:=h;exact⟨Y++Z',rfl,ih h2 h'⟩
  |false=>
   obtain⟨d1,d2,Z1,Z2,rfl,rfl,h3,h4⟩:=h;exact⟨d1,d2++d',Z1,Z2++Z',by rw[List.append_assoc],by rw[List.append_assoc],h3,ih h4 h'⟩
section
variable{R:List Ru}{D:List Int}
end
section
variable{T N:Nat}{R:List Ru}(hf:bM T N R)
include hf
end
def rP(T N:Nat)(s:Sy):Prop:=0<=s.2/\s.2<if s.1 then (T:Int) else (N:Int)
theorem acN{T N:Nat}{s s':Sy}(h:rP T N s)(h':rP T N s')(e:dX T s=dX T s'):s=s':=by
 obtain⟨b,v⟩:=s;obtain⟨b',v'⟩:=s';cases b<;>cases b'<;>simp_all [rP,dX]<;>omega
theorem Uo{T N:Nat}{s:Sy}(h:rP T N s):0<=dX T s/\dX T s<(T:Int)+N:=by
 obtain⟨b,v⟩:=s;cases b<;>simp_all [rP,dX]<;>omega
theorem Ia{T N:Nat}{R:List Ru}(hf:bM T N R){r:Nat}(hr:r<=R.length):∀s∈aH R r,rP T N s:=fun s hs=>by
 unfold aH at hs;split at hs
 ·simp only[List.mem_singleton]at hs
  subst hs;have:=hf.some;simp[rP];omega
 ·have hm:R.getD r (0,[])∈R:=by simp[List.getD,show r<R.length by omega]
  obtain⟨b,v⟩:=s;cases b with
  |true=>have:=hf.term _ hm _ hs rfl;simpa [rP] using this
  |false=>have:=hf.name _ hm _ hs rfl;simpa [rP] using this
theorem Me{R:List Ru}{r:Nat}(h:r<R.length):aH R r=(R.getD r (0,[])).2:=by
 unfold aH;rw[if_neg (by omega)]
structure nC(T N:Nat)(R:List Ru)(NL:List (List Int))(Ls:List aI):Prop where
 fine:bM T N R
 pos:0<Ls.length
 zero:Ls.getD 0 bC=Cl R (fun i=>i=(R.length,0))
 go:∀k,k<Ls.length->∀x,x<T+N->wX T R Ls k x ((NL.getD k []).getD x 0)
 closed:∀k,k<Ls.length->wY R (Ls.getD k bC)
theorem Uq{T N:Nat}{R:List Ru}{K:Nat}(hf:bM T N R)(h:Whole T N R K)(hK:0<K):nC T N R (af T N R K).1 (af T N R K).2:=by
 have hl:(af T N R K).2.length=K:=h;refine⟨hf,by omega,?_,fun k hk x hx=>(KG (Dj h) k (by omega) x hx).2,fun k hk=>Q0 (T:=T) (N:=N) K _ ?_⟩
 ·obtain⟨E,hE⟩:=KF (T:=T) (N:=N) (R:=R) 0 K (Nat.zero_le _)
  rw[hE];rfl
 ·simp[List.getD,hk]
section
variable{T N:Nat}{R:List Ru}{NL:List (List Int)}{Ls:List aI}
def Mf(T:Nat)(NL:List (List Int))(k:Nat)(s:Sy)(n:Nat):Prop:=(NL.getD k []).getD (dX T s).toNat 0=(n:Int)
theorem nC.goes(h:nC T N R NL Ls){k:Nat}(hk:k<Ls.length){i:It}(hi:Ls.getD k bC i)(hr:i.1<=R.length){s:Sy}(hs:(aH R i.1)[i.2]?=some s):
 ∃n,Mf T NL k s n/\n<Ls.length/\Ls.getD n bC=nT T R (Ls.getD k bC) (dX T s).toNat/\Ls.getD n bC (i.1,i.2+1):=by
 have hok:=Uo (Ia h.fine hr s (List.mem_of_getElem? hs));have hx:(((dX T s).toNat:Nat):Int)=dX T s:=by omega
 obtain⟨n,h1,h2,h3⟩:=(h.go k hk (dX T s).toNat (by omega)).some ⟨i,hi,s,hs,hx.symm⟩;exact⟨n,h1,h2,h3,by rw[h3];exact Q5 hi hs hx.symm⟩
theorem Ib{S:aI}(h:∀i,S i->i.1<=R.length):∀i,Cl R S i->i.1<=R.length:=by
 intro i hi
 induction hi with
 |base h1=>exact h _ h1
 |step _ _ h2 _ _=>exact Nat.le_of_lt h2
theorem Ur{S:aI}{r d:Nat}(h:Cl R S (r,d+1)):S (r,d+1):=by
 cases h with
 |base h=>exact h
theorem Us{S:aI}{r:Nat}(h:Cl R S (r,0)):S (r,0)\/(r<R.length/\∃i,Cl R S i/\(aH R i.1)[i.2]?=some (false,(R.getD r (0,[])).1)):=by
 cases h with
 |base h=>exact .inl h
 |step h1 h2 h3 h4=>exact .inr ⟨h3,_,h1,by rw[h4];exact h2⟩
structure PC where
 S:List Nat
 F:List (List Int)
 pos:Nat
 many:Nat
inductive PR where
 |go (c:PC)
 |fin (d:List Int)
 |no (n:Nat)
def jN(T:Nat)(tok:List Int)(p:Nat):Nat:=if p<tok.length then (tok.getD p 0).toNat else T
def xR(c:PC):Nat:=c.S.getD (c.S.length-1) 0
def Er(R:List Ru)(go:Nat->Nat->Int)(c:PC)(q:Int):PC:=
 let r:=R.getD q.toNat (0,[])
 let keep:=c.F.length-r.2.length
 ⟨c.S.take (keep+1)++[(go (c.S.getD keep 0) r.1.toNat).toNat],c.F.take keep++[q::(c.F.drop keep).flatten],c.pos,c.many+1⟩
def pO(R:List Ru)(go:Nat->Nat->Int)(c:PC)(x:Ce):PR:=
 if x.2.2 then .fin (c.F.getD 0 [])
 else if 0<=x.1 then .go ⟨c.S++[x.1.toNat],c.F++[[]],c.pos+1,c.many⟩
 else match x.2.1 with
  | []=> .no c.pos
  |q::_=> .go (Er R go c q)
def jO(T:Nat)(R:List Ru)(ce:Nat->Nat->Ce)(go:Nat->Nat->Int)(tok:List Int)(c:PC):PR:=pO R go c (ce (xR c) (jN T tok c.pos))
end
section
variable{T N:Nat}{R:List Ru}(hf:bM T N R)
include hf
end
abbrev jd(T:Nat)(NL:List (List Int))(k n:Nat):Int:=(NL.getD k []).getD (T+n) 0
section
variable{T N:Nat}{R:List Ru}{NL:List (List Int)}{Ls:List aI}{tok:List Int}
theorem acO(oC:∀t∈tok,0<=t/\t<(T:Int))(p:Nat):jN T tok p<=T:=by
 unfold jN;split
 ·rename_i h
  have:=oC tok[p] (List.getElem_mem h);have e:tok.getD p 0=tok[p]:=by simp[List.getD,h]
  rw[e];omega
 ·omega
end
section
variable{T N:Nat}{R:List Ru}{NL:List (List Int)}{Ls:List aI}{tok:List Int}
def One(R:List Ru)(s:Sy)(f z:List Int):Prop:=(s.1=true/\f=[]/\z=[s.2])\/(s.1=false/\vP R s.2 f z)
inductive iW(T N:Nat)(R:List Ru)(NL:List (List Int))(Ls:List aI):List Nat->List Sy->List (List Int)->List Int->Prop
 |nil:iW T N R NL Ls [0] [] [] []
 |push {S:List Nat} {X:List Sy} {F:List (List Int)} {Z:List Int} {q g:Nat} {s:Sy} {f z:List Int} (h:iW T N R NL Ls (q::S) X F Z) (hs:rP T N s) (hg:g<Ls.length) (he:Ls.getD g bC=nT T R (Ls.getD q bC) (dX T s).toNat) (h1:One R s f z):iW T N R NL Ls (g::q::S) (s::X) (f::F) (Z++z)
theorem iW.lens{S:List Nat}{X:List Sy}{F:List (List Int)}{Z:List Int}(h:iW T N R NL Ls S X F Z):S.length=F.length+1/\X.length=F.length:=by
 induction h with
 |nil=>exact⟨rfl,rfl⟩
 |push _ _ _ _ _ ih=>simp only[List.length_cons]at ih⊢;omega
theorem iW.lt(lr:nC T N R NL Ls){q:Nat}{S:List Nat}{X:List Sy}{F:List (List Int)}{Z:List Int}(h:iW T N R NL Ls (q::S) X F Z):q<Ls.length:=by
 cases h with
 |nil=>exact lr.pos
 |push _ _ hg _ _=>exact hg
theorem iW.rule(lr:nC T N R NL Ls):∀{S':List Nat} {X:List Sy} {F:List (List Int)} {Z:List Int},iW T N R NL Ls S' X F Z->∀q S,S'=q::S->∀i,Ls.getD q bC i->i.1<=R.length:=by
 intro S' X F Z h
 induction h with
 |nil=>
  intro q S e i hi;injection e with e1;subst e1;rw[lr.zero]at hi;exact Ib (fun i h=>by rw[h];exact Nat.le_refl _) i hi
 |push _ _ _ he _ ih=>
  intro q S e i hi;injection e with e1;subst e1;rw[he]at hi;refine Ib (fun i h=> ?_) i hi;obtain⟨j,h1,_,rfl⟩:=h;exact ih _ _ rfl j h1
theorem acP{l:List Sy}{s:Sy}{d f Z z:List Int}(h:mM (vP R) l d Z)(h1:One R s f z):mM (vP R) (l++[s]) (d++f) (Z++z):=by
 refine acM h ?_;obtain⟨b,v⟩:=s;rcases h1 with⟨hb,rfl,rfl⟩|⟨hb,h2⟩
 ·simp only at hb
  subst hb;exact⟨[],rfl,rfl,rfl⟩
 ·simp only at hb
  subst hb;exact⟨f,[],z,[],by simp,by simp,h2,rfl,rfl⟩
theorem iW.back(lr:nC T N R NL Ls){r:Nat}:∀(n:Nat) {e:Nat} {S:List Nat} {X:List Sy} {F:List (List Int)} {Z:List Int},iW T N R NL Ls (e::S) X F Z->Ls.getD e bC (r,n)->
 ∃(q:Nat) (S2:List Nat) (X2:List Sy) (F1 F2:List (List Int)) (Z1 Z2:List Int),(e::S).drop n=q::S2/\F=F1++F2/\F1.length=n/\Z=Z2++Z1/\n<=(aH R r).length/\mM (vP R) ((aH R r).take n) F1.reverse.flatten Z1/\iW T N R NL Ls (q::S2) X2 F2 Z2/\Ls.getD q bC (r,0):=by
 intro n
 induction n with
 |zero=>
  intro e S X F Z h hi;exact⟨e,S,X,[],F,[],Z,rfl,rfl,rfl,by simp,Nat.zero_le _,⟨rfl,rfl⟩,h,hi⟩
 |succ n ih=>
  intro e S X F Z h hi;cases h with
  |nil=>
   rw[lr.zero]at hi;have:=Ur hi;simp at this
  |push h hs hg he h1=>
   rename_i S X F Z q s f z;rw[he]at hi;obtain⟨i,hq,⟨s',hs',hx⟩,hie⟩:=Ur hi
   have hi':i=(r,n):=by
    obtain⟨a,b⟩:=i;simp only[Prod.mk.injEq]at hie;rw[hie.1,Nat.add_right_cancel hie.2]
   subst hi';have hrr:=iW.rule lr h _ _ rfl _ hq;have hok:=Ia lr.fine hrr s' (List.mem_of_getElem? hs');have h0:=Uo hs;have hse:s'=s:=acN hok hs (by rw[hx];omega);subst hse
   have hlt:n<(aH R r).length:=by
    rcases Nat.lt_or_ge n (aH R r).length with h|h
    ·exact h
    ·rw[List.getElem?_eq_none h]at hs';cases hs'
   obtain⟨q2,S2,X2,F1,F2,Z1,Z2,a1,a2,a3,a4,_,a5,a6,a7⟩:=ih h hq;refine⟨q2,S2,X2,f::F1,F2,Z1++z,Z2,by simpa using a1,by rw[a2];rfl,by simp[a3],by rw[a4,List.append_assoc],hlt,?_,a6,a7⟩
   have ht:(aH R r).take (n+1)=(aH R r).take n++[s']:=by
    rw[List.take_succ_eq_append_getElem hlt];rw[List.getElem?_eq_getElem hlt]at hs';rw[Option.some.inj hs']
   rw[ht];have hfl:(f::F1).reverse.flatten=F1.reverse.flatten++f:=by simp
   rw[hfl];exact acP a5 h1
theorem iW.awaits(lr:nC T N R NL Ls){q:Nat}{S:List Nat}{X:List Sy}{F:List (List Int)}{Z:List Int}(h:iW T N R NL Ls (q::S) X F Z){r:Nat}(hi:Ls.getD q bC (r,0)):
 (r=R.length/\S=[]/\X=[]/\F=[]/\Z=[]/\q=0)\/(r<R.length/\∃i,Ls.getD q bC i/\i.1<=R.length/\(aH R i.1)[i.2]?=some (false,(R.getD r (0,[])).1)):=by
 cases h with
 |nil=>
  have hz:=lr.zero;rw[hz]at hi;rcases Us hi with h1|⟨h1,i,h2,h3⟩
  ·simp only[Prod.mk.injEq]at h1
   exact .inl ⟨h1.1,rfl,rfl,rfl,rfl,rfl⟩
  ·refine .inr ⟨h1,i,by rw[hz];exact h2,Ib (fun i h=>by rw[h];exact Nat.le_refl _) i h2,h3⟩
 |push h hs hg he h1=>
  rw[he]at hi;rcases Us hi with⟨j,_,_,h2⟩|⟨h2,i,h3,h4⟩
  ·simp at h2
  ·refine .inr ⟨h2,i,by rw[he];exact h3,Ib (fun i h'=> ?_) i h3,h4⟩
   obtain⟨j,h5,_,rfl⟩:=h';exact iW.rule lr h _ _ rfl j h5
theorem acQ{qC:List Sy->Nat->Bool}{kM:List Sy->Bool}{k t:Nat}{i:It}(h:qB T R qC kM NL Ls k i t)(hi:i.1=R.length):t=T:=by
 induction h with
 |start=>rfl
 |on _ _ _ ih=>exact ih hi
 |begins _ _ _ h2 _ _ _=>simp only at hi;omega
 |nothing _ _ h2 _ _ _=>simp only at hi;omega
structure lV(T N:Nat)(R:List Ru)(NL:List (List Int))(Ls:List aI)(tok:List Int)(c:PC):Prop where
 ex:∃S X F,c.S=S.reverse/\c.F=F.reverse/\iW T N R NL Ls S X F (tok.take c.pos)
 pos:c.pos<=tok.length
theorem Ut:lV T N R NL Ls tok ⟨[0],[],0,0⟩:=⟨⟨[0],[],[],rfl,rfl,by simpa using iW.nil⟩,Nat.zero_le _⟩
theorem lV.top{c:PC}{S:List Nat}{q:Nat}(h:c.S=(q::S).reverse):xR c=q:=by
 unfold xR;rw[h];simp[List.getD]
open Classical in
theorem Mg{k t:Nat}{q:Int}(h:q∈(cellP T N R NL Ls k t).2.1):∃m:Nat,q=m/\m<R.length/\xk T N R NL Ls k t m:=by
 unfold cellP at h;simp only[List.mem_map,List.mem_filter,List.mem_range,decide_eq_true_eq]at h;obtain⟨m,⟨h1,h2⟩,rfl⟩:=h;exact⟨m,rfl,h1,h2⟩
theorem lV.fin(lr:nC T N R NL Ls)(oC:∀t∈tok,0<=t/\t<(T:Int)){c:PC}(h:lV T N R NL Ls tok c){d:List Int}(hs:jO T R (cellP T N R NL Ls) (jd T NL) tok c= .fin d):vP R 0 d tok/\c.F=[d]:=by
 obtain⟨⟨S,X,F,h1,h2,h3⟩,hp⟩:=h;cases S with
 |nil=>cases h3
 |cons e S=>
 unfold jO at hs;rw[lV.top h1]at hs;unfold pO at hs;split at hs
 ·rename_i hend
  have hdn:xk T N R NL Ls e (jN T tok c.pos) R.length:=by
   unfold cellP at hend;simpa using hend
  have hr:aH R R.length=[(false,0)]:=by simp[aH]
  have hd1:=hdn.1;rw[hr]at hd1;obtain⟨q,S2,X2,F1,F2,Z1,Z2,a1,a2,a3,a4,_,a5,a6,a7⟩:=h3.back lr 1 hd1;rcases a6.awaits lr a7 with⟨_,_,_,rfl,rfl,_⟩|⟨hlt,_⟩
  ·simp only[List.append_nil,List.nil_append]at a2 a4
   subst a2;obtain⟨f,rfl⟩:=List.length_eq_one_iff.1 a3;rw[hr]at a5;simp only[List.take_succ_cons,List.take_zero,List.reverse_singleton,List.flatten_cons,List.flatten_nil,List.append_nil]at a5;obtain⟨d1,d2,Y1,Y2,b1,b2,b3,rfl,rfl⟩:=a5;simp only[List.append_nil]at b1 b2;subst b1;subst b2;have ht:=acQ hdn.2 rfl
   have hpl:tok.length<=c.pos:=by
    rcases Nat.lt_or_ge c.pos tok.length with h|h
    ·exfalso
     unfold jN at ht;rw[if_pos h]at ht;have e1:tok.getD c.pos 0=tok[c.pos]:=by simp[List.getD,h]
     have:=oC tok[c.pos] (List.getElem_mem h);rw[e1]at ht;omega
    ·exact h
   rw[List.take_of_length_le hpl]at a4;rw[h2]at hs;simp only[List.reverse_singleton]at hs;injection hs with hs;simp only[List.getD,List.getElem?_cons_zero,Option.getD_some]at hs;rw[<-hs,a4,h2];exact⟨b3,rfl⟩
  ·exact absurd hlt (Nat.lt_irrefl _)
 ·split at hs
  ·cases hs
  ·split at hs<;>cases hs
theorem lV.go(lr:nC T N R NL Ls)(oC:∀t∈tok,0<=t/\t<(T:Int)){c c':PC}(h:lV T N R NL Ls tok c)(hs:jO T R (cellP T N R NL Ls) (jd T NL) tok c= .go c'):lV T N R NL Ls tok c':=by
 obtain⟨⟨S,X,F,h1,h2,h3⟩,hp⟩:=h;cases S with
 |nil=>cases h3
 |cons e S=>
 have he:=h3.lt lr;unfold jO at hs;rw[lV.top h1]at hs;unfold pO at hs;split at hs
 ·cases hs
 ·split at hs
  ·rename_i hsh
   injection hs with hs
   have o6:jN T tok c.pos<T:=by
    rcases Nat.lt_or_ge (jN T tok c.pos) T with h|h
    ·exact h
    ·exfalso
     unfold cellP at hsh;simp only[show ¬jN T tok c.pos<T by omega,if_false]at hsh;omega
   have hpl:c.pos<tok.length:=by
    rcases Nat.lt_or_ge c.pos tok.length with h|h
    ·exact h
    ·exfalso
     unfold jN at o6;rw[if_neg (by omega)]at o6;omega
   have hc1:(cellP T N R NL Ls e (jN T tok c.pos)).1=(NL.getD e []).getD (jN T tok c.pos) 0:=by unfold cellP;simp only[o6,if_true]
   rw[hc1]at hs hsh;have hgo:=lr.go e he (jN T tok c.pos) (by omega)
   have hex:∃i,Ls.getD e bC i/\iO T R i (jN T tok c.pos):=Classical.byContradiction fun hn=>by
    have:=hgo.none hn;omega
   obtain⟨n,g1,g2,g3⟩:=hgo.some hex;obtain⟨i,hi,s,hs1,hs2⟩:=hex;have hok:=Ia lr.fine (iW.rule lr h3 _ _ rfl i hi) s (List.mem_of_getElem? hs1)
   have hte:((jN T tok c.pos:Nat):Int)=tok.getD c.pos 0:=by
    unfold jN;rw[if_pos hpl];have e1:tok.getD c.pos 0=tok[c.pos]:=by simp[List.getD,hpl]
    have:=oC tok[c.pos] (List.getElem_mem hpl);rw[e1];omega
   have hst:s=(true,tok.getD c.pos 0):=by
    obtain⟨b,v⟩:=s;cases b with
    |true=>simp only[dX,if_true]at hs2;rw[hs2,hte]
    |false=>
     simp only[dX,rP,Bool.false_eq_true,if_false]at hs2 hok;omega
   subst hst;have jD:(dX T (true,tok.getD c.pos 0)).toNat=jN T tok c.pos:=by rw[hs2];simp
   rw[g1]at hs;subst hs;refine⟨⟨n::e::S,(true,tok.getD c.pos 0)::X,[]::F,by simp[h1],by simp[h2],?_⟩,hpl⟩;have:=iW.push h3 hok g2 (by rw[jD];exact g3) (f:=[]) (z:=[tok.getD c.pos 0]) (.inl ⟨rfl,rfl,rfl⟩)
   have e2:tok.take (c.pos+1)=tok.take c.pos++[tok.getD c.pos 0]:=by
    rw[List.take_succ_eq_append_getElem hpl];simp[List.getD,hpl]
   simp only;rw[e2];exact this
  ·split at hs
   ·cases hs
   ·rename_i q0 rest hrl
    injection hs with hs;obtain⟨m,rfl,hm,hdn⟩:=Mg (q:=q0) (by rw[hrl];simp);have hd1:=hdn.1;obtain⟨q,S2,X2,F1,F2,Z1,Z2,a1,a2,a3,a4,_,a5,a6,a7⟩:=h3.back lr _ hd1;rw[List.take_length,Me hm]at a5;have acR:=acL hm a5;rcases a6.awaits lr a7 with⟨h0,_⟩|⟨_,i,hi,hir,hin⟩
    ·omega
    ·have hq:=a6.lt lr
     obtain⟨g,g1,g2,g3,_⟩:=lr.goes hq hi hir hin;have hok:=Ia lr.fine hir _ (List.mem_of_getElem? hin);have GQ:=h3.lens;have hfl:F.length=F1.length+F2.length:=by rw[a2];simp
     have acS:(R.getD m (0,[])).2.length=F1.length:=by rw[a3,Me hm]
     have hSd:e::S=(e::S).take F1.length++(q::S2):=by
      rw[a3,<-a1,List.take_append_drop]
     have hl2:=a6.lens;unfold Er at hs;simp only[Int.toNat_natCast]at hs;have hk:c.F.length-(R.getD m (0,[])).2.length=F2.length:=by rw[h2,List.length_reverse,acS,hfl];omega
     rw[hk]at hs
     have hrev:c.S=(q::S2).reverse++((e::S).take F1.length).reverse:=by
      rw[h1];conv=>lhs;rw[hSd]
      rw[List.reverse_append]
     have Uu:c.F=F2.reverse++F1.reverse:=by rw[h2,a2,List.reverse_append]
     have hlq:(q::S2).reverse.length=F2.length+1:=by rw[List.length_reverse];exact hl2.1
     have t1:c.S.take (F2.length+1)=(q::S2).reverse:=by rw[hrev,<-hlq,List.take_left]
     have t2:c.S.getD F2.length 0=q:=by
      rw[hrev]
      have Mh:S2.reverse.length=F2.length:=by
       have:=hl2.1;simp only[List.length_cons,List.length_reverse]at this⊢;omega
      simp only[List.reverse_cons,List.append_assoc];rw[<-Mh];simp[List.getD]
     have t3:(jd T NL q (R.getD m (0,[])).1.toNat).toNat=g:=by
      unfold jd;have hg:=g1;unfold Mf at hg;have h0:0<=(R.getD m (0,[])).1:=(lr.fine.left (R.getD m (0,[])) (by simp[List.getD,hm])).1;have e1:(dX T (false,(R.getD m (0,[])).1)).toNat=T+(R.getD m (0,[])).1.toNat:=by simp only[dX,Bool.false_eq_true,if_false];omega
      rw[e1]at hg;rw[hg];simp
     have t4:c.F.take F2.length=F2.reverse:=by rw[Uu,<-List.length_reverse,List.take_left]
     have t5:c.F.drop F2.length=F1.reverse:=by rw[Uu,<-List.length_reverse,List.drop_left]
     rw[t1,t2,t3,t4,t5]at hs;subst hs;refine⟨⟨g::q::S2,(false,(R.getD m (0,[])).1)::X2,((m:Int)::F1.reverse.flatten)::F2,by simp,by simp,?_⟩,hp⟩;simp only;rw[a4];exact iW.push a6 hok g2 g3 (.inr ⟨rfl,acR⟩)
end
inductive Mi where
 |done (d:List Int)
 |none (n:Nat)
 |size
def qF(T:Nat)(R:List Ru)(ce:Nat->Nat->Ce)(go:Nat->Nat->Int)(tok:List Int):Nat->PC->Mi
 |0,_=> .size
 |f+1,c=>if c.many<=400 then (match jO T R ce go tok c with| .go c'=>qF T R ce go tok f c'| .fin d=> .done d| .no n=> .none n) else .size
def Uv:PC:=⟨[0],[],0,0⟩
noncomputable def qG(T N:Nat)(R:List Ru)(NL:List (List Int))(Ls:List aI)(tok:List Int):Mi:=qF T R (cellP T N R NL Ls) (jd T NL) tok (tok.length+402) Uv
section
variable{T N:Nat}{R:List Ru}{NL:List (List Int)}{Ls:List aI}{tok:List Int}{ce:Nat->Nat->Ce}{go:Nat->Nat->Int}
theorem acT{c c':PC}(h:jO T R ce go tok c= .go c'):c'.pos+c'.many=c.pos+c.many+1/\c.many<=c'.many/\c.pos<=c'.pos:=by
 unfold jO pO at h;split at h
 ·cases h
 ·split at h
  ·injection h with h;subst h;simp only;omega
  ·split at h
   ·cases h
   ·injection h with h;subst h;unfold Er;simp only;omega
theorem Uw{c c':PC}(h:jO T R ce go tok c= .go c')(hm:c.many<=400)(f:Nat):qF T R ce go tok (f+1) c=qF T R ce go tok f c':=by
 rw[qF,if_pos hm];simp only[h]
def Sum(c:PC):Prop:=(c.F.map List.length).sum=c.many
theorem acU(L:List (List Int)):L.flatten.length=(L.map List.length).sum:=by
 induction L with
 |nil=>rfl
 |cons a L ih=>simp
theorem Ux{c c':PC}(h:jO T R ce go tok c= .go c')(hs:Sum c):Sum c':=by
 unfold Sum at hs⊢;unfold jO pO at h;split at h
 ·cases h
 ·split at h
  ·injection h with h;subst h;simpa using hs
  ·split at h
   ·cases h
   ·rename_i q _ _
    injection h with h;subst h;unfold Er;simp only[List.map_append,List.map_cons,List.map_nil,List.sum_append,List.sum_cons,List.sum_nil,List.length_cons,acU]
    have e:(c.F.map List.length).sum=((c.F.take (c.F.length-(R.getD q.toNat (0,[])).2.length)).map List.length).sum+((c.F.drop (c.F.length-(R.getD q.toNat (0,[])).2.length)).map List.length).sum:=by
     rw[<-List.sum_append,<-List.map_append,List.take_append_drop]
    omega
theorem acV(lr:nC T N R NL Ls)(oC:∀t∈tok,0<=t/\t<(T:Int)):∀(f:Nat) (c:PC),lV T N R NL Ls tok c->Sum c->
 (∀d,qF T R (cellP T N R NL Ls) (jd T NL) tok f c= .done d->vP R 0 d tok/\d.length<=400)/\∀n,qF T R (cellP T N R NL Ls) (jd T NL) tok f c= .none n->n<=tok.length:=by
 intro f
 induction f with
 |zero=>intro c _ _;exact⟨fun d h=>(by cases h),fun n h=>(by cases h)⟩
 |succ f ih=>
  intro c hP hS;rw[qF];by_cases hm:c.many<=400
  ·rw[if_pos hm]
   cases hst:jO T R (cellP T N R NL Ls) (jd T NL) tok c with
   |go c'=>exact ih c' (hP.go lr oC hst) (Ux hst hS)
   |fin d=>
    obtain⟨h1,h2⟩:=hP.fin lr oC hst;refine⟨fun d' h=> ?_,fun n h=>by cases h⟩;injection h with h;subst h;unfold Sum at hS;rw[h2]at hS;simp only[List.map_cons,List.map_nil,List.sum_cons,List.sum_nil]at hS;exact⟨h1,by omega⟩
   |no n=>
    refine⟨fun d' h=>(by cases h),fun n' h=> ?_⟩;injection h with h;subst h;unfold jO pO at hst;split at hst
    ·cases hst
    ·split at hst
     ·cases hst
     ·split at hst
      ·injection hst with hst;rw[<-hst];exact hP.pos
      ·cases hst
  ·rw[if_neg hm]
   exact⟨fun d h=>(by cases h),fun n h=>(by cases h)⟩
end
end Go.Proofs.YtblkkhfdeaaidaaGreatDoor
