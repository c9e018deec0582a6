import Derived.Test.YtblkkhfdeaaidaaGreatDoorRef3MathAndGrowMath
import Derived.Test.YtblkkhfdeaaidaaGreatDoorReachMathAndReachCome
import Derived.Test.YtblkkhfdeaaidaaGreatDoorStCxAndLeft3
set_option maxHeartbeats 6400000
set_option maxRecDepth 100000
namespace Go.Proofs.YtblkkhfdeaaidaaGreatDoor
open Go.RowKit
theorem VT{X Y:List Bool}{N:Nat}{P:Int->Prop}(h1:X.length=N)(h2:Y.length=N)(p1:∀n,hasB X n↔P n)(p2:∀n,hasB Y n↔P n):X=Y:=by
 refine List.ext_getElem (by omega) fun i hi hi'=> ?_;have:=(p1 i).trans (p2 i).symm;unfold hasB at this;simp only[Int.toNat_natCast]at this;have e1:X.getD i false=X[i]:=by simp[List.getD,hi]
 have e2:Y.getD i false=Y[i]:=by simp[List.getD,hi']
 rw[e1,e2]at this;have h0:(0:Int)<=(i:Int):=Int.natCast_nonneg _;cases hx:X[i]<;>cases hy:Y[i]<;>simp_all
theorem aeu{w:World}{T N:Int}{ra:Option Addr}{rc:Nat}{R:List Ru}{op a b c:Int}(hr:au w w.heap.size (.slice ra R.length rc) R)(hs:¬(a=0/\b=0/\c=0)):
 Calls Tryz.prog 155 #[.agg #[.int .i64 T,.int .i64 N,.slice ra R.length rc,.int .i64 op,.int .i64 a,.int .i64 b,.int .i64 c]] w fun e w'=>e= .returned (.tuple #[.nilIface,.bool false])/\Below w.heap.size w w':=by
 have hK:=oH (T:=T) (N:=N) (op:=op) (a:=a) (b:=b) (c:=c) hr;obtain⟨W0,hW0⟩:∃W,w.alloc (.cells #[.int .i64 T,.int .i64 N,.slice ra R.length rc,.int .i64 op,.int .i64 a,.int .i64 b,.int .i64 c] 207)=W:=⟨_,rfl⟩;rw[hW0]at hK;have x4:=hK.x4;have x5:=hK.x5;have x6:=hK.x6;have HB:Hid (Below w.heap.size w W0):=hK.below;clear hK hr;by_cases ha:a=0
 ·subst ha
  by_cases hb:b=0
  ·subst hb
   have ec:(c==0)=false:=by
    have:c≠0:=fun hc=>hs ⟨rfl,rfl,hc⟩;simpa using this
   clear hs
   go_enter Tryz.func155,Tryz.ntmps155
   go_wp2_with fail
   refine bodyPost_ret (v:= .tuple #[.nilIface,.bool false]) (by simp[results,Tryz.results155,go_sem]) rfl ?_;exact⟨rfl,HB.out⟩
  ·have eb:(b==0)=false:=by simpa using hb
   clear hs hb
   go_enter Tryz.func155,Tryz.ntmps155
   go_wp2_with fail
   refine bodyPost_ret (v:= .tuple #[.nilIface,.bool false]) (by simp[results,Tryz.results155,go_sem]) rfl ?_;exact⟨rfl,HB.out⟩
 ·have ea:(a !=0)=true:=by simpa using ha
  clear hs ha
  go_enter Tryz.func155,Tryz.ntmps155
  go_wp2_with fail
  refine bodyPost_ret (v:= .tuple #[.nilIface,.bool false]) (by simp[results,Tryz.results155,go_sem]) rfl ?_;exact⟨rfl,HB.out⟩
theorem aev{w:World}{T N:Nat}{ra:Option Addr}{rc:Nat}{R:List Ru}{op:Int}(hr:au w w.heap.size (.slice ra R.length rc) R)(hm:aD T N R=true):
 Calls Tryz.prog 155 #[.agg #[.int .i64 T,.int .i64 N,.slice ra R.length rc,.int .i64 op,.int .i64 0,.int .i64 0,.int .i64 0]] w fun e w'=> ∃ov,e= .returned (.tuple #[.iface 264 (.agg #[.int .i64 T,.int .i64 N,.slice ra R.length rc,.int .i64 op,.int .i64 0,.int .i64 0,.int .i64 0,ov]),.bool true])/\w'.ownsRow w.heap.size 3 1 ov (aY (fun k=>qK N R (R.getD k (0,[]))) R.length).length (kE (aY (fun k=>qK N R (R.getD k (0,[]))) R.length))/\Below w.heap.size w w':=by
 obtain⟨p,hp⟩:∃p:Nat->Bool,(fun k=>qK N R (R.getD k (0,[])))=p:=⟨_,rfl⟩;rw[hp];have GV:Hid (∀k,p k=qK N R (R.getD k (0,[]))):=fun k=>by rw[<-hp]
 clear hp;have hf:=IZ hm;obtain⟨hT,hN1,hN,hRl,h5⟩:=fV hm;have hK:=oH (T:=T) (N:=N) (op:=op) (a:=0) (b:=0) (c:=0) hr;obtain⟨W0,hW0⟩:∃W,w.alloc (.cells #[.int .i64 T,.int .i64 N,.slice ra R.length rc,.int .i64 op,.int .i64 0,.int .i64 0,.int .i64 0] 207)=W:=⟨_,rfl⟩;rw[hW0]at hK;have HK:Hid (fK w T N ra rc R op 0 0 0 W0):=hK;have x0:=hK.x0;have x1:=hK.x1;have x2:=hK.x2;have x4:=hK.x4;have x5:=hK.x5;have x6:=hK.x6;have mk:=VR hK.all hm;have uF:Hid (aD T N R=true):=hm;have I9:Hid (bM T N R):=hf
 have H5:Hid (∀q,q<R.length->(0<=(R.getD q (0,[])).1/\(R.getD q (0,[])).1<(N:Int))/\(R.getD q (0,[])).2.length<=1000/\∀j,j<(R.getD q (0,[])).2.length->((R.getD q (0,[])).2.getD j (false,0)).1=false->0<=((R.getD q (0,[])).2.getD j (false,0)).2/\((R.getD q (0,[])).2.getD j (false,0)).2<(N:Int)):=fun q hq=>by
  obtain⟨h1,h2,h3,h4⟩:=h5 q hq;generalize (R.getD q (0,[])).2=l at h3 h4⊢;refine⟨⟨h1,h2⟩,by omega,fun j hj ht=> ?_⟩
  have hmem:l.getD j (false,0)∈l:=by
   rw[show l.getD j (false,0)=l[j] by simp[List.getD,hj]];exact List.getElem_mem hj
  have:=h4 _ hmem;rw[ht]at this;simpa using this
 have aew:R.length<=1000:=by omega
 clear hr hm hf h5 hT hN hRl hK
 go_enter Tryz.func155,Tryz.ntmps155
 go_wp2_with
  (first
   |(go_at_call 174;refine mk.mono ?_;rintro e w2 ⟨g1,Y1,rfl,hB2,BO,hM1⟩
     have hB3:Below W0.heap.size W0 (w2.alloc (.cells #[.slice (some ⟨g1,0,none⟩) N N] 53)):=hB2.alloc hB2.size _;have hK3:=HK.out.next hB3;obtain⟨w3,hw3⟩:∃W,w2.alloc (.cells #[.slice (some ⟨g1,0,none⟩) N N] 53)=W:=⟨_,rfl⟩;obtain⟨mb,hmb⟩:∃x,w2.heap.size=x:=⟨_,rfl⟩;have Nc:Hid (w3.cell? ⟨w2.heap.size,0,none⟩=some (.slice (some ⟨g1,0,none⟩) N N)):=by show _=_;rw[<-hw3];exact aB (heap_alloc_new _ _) rfl
     rw[hw3]at hB3 hK3;have v0:=hK3.x0;have v1:=hK3.x1;have v2:=hK3.x2;have co:=aes hK3.all uF.out;have yM:Hid (fK w T N ra rc R op 0 0 0 w3):=hK3;have AL:Hid (eU w3 (W0.heap.size+1) g1 N Y1):=by show eU _ _ _ _ _;rw[<-hw3];exact BO.below ((Below.refl _ _).alloc (Nat.le_refl _) _)
     have pE:Hid (∀n,hasB Y1 n↔gT N R n):=hM1
     clear mk hB2 BO hM1 hB3 hK3 hmb x0 x1 x2 x4 x5 x6)
   |(go_at_call 175;refine co.mono ?_;rintro e w4 ⟨g2,Y2,rfl,hB4,hY2,hM2⟩
     have hK4:=yM.out.next hB4;have Ez:Hid (fK w T N ra rc R op 0 0 0 w4):=hK4;have Nf:Hid (w4.cell? ⟨w2.heap.size,0,none⟩=some (.slice (some ⟨g1,0,none⟩) N N)):=(hB4.cell (World.block_lt_of_cell? _ _ Nc.out)).trans Nc.out;have VU:Hid (eU w4 (W0.heap.size+1) g1 N Y1):=AL.out.below hB4;have VX:Hid (eU w4 (w3.heap.size+1) g2 N Y2):=hY2;have iU:Hid (∀n,hasB Y2 n↔oI N R n):=hM2;have t0:=hK4.x0;have t1:=hK4.x1;have t2:=hK4.x2;have t3:=hK4.x3;have t4:=hK4.x4;have t5:=hK4.x5;have t6:=hK4.x6;have t2':=(hK4.next ((Below.refl _ _).alloc (Nat.le_refl _) (.cells #[.int .i64 T,.int .i64 N,.slice ra R.length rc,.int .i64 op,.int .i64 0,.int .i64 0,.int .i64 0,.slice none 0 0] 264))).x2
     clear co hB4 hY2 hM2 hK4 v0 v1 v2 hw3 Nc AL hW0))
 have HP:Hid (∀k,p k=(Y1.getD (R.getD k (0,[])).1.toNat false&&Y2.getD (R.getD k (0,[])).1.toNat false&&dK Y1 (R.getD k (0,[])).2)):=fun k=>by
  have e1:Y1=qJ R N:=VT VU.out.len (M4 I9.out).1 pE.out (M4 I9.out).2;have e2:Y2=Iw R N:=VT VX.out.len (Vz I9.out).1 iU.out (Vz I9.out).2;rw[GV.out k,e1,e2];rfl
 obtain⟨mb,hmb⟩:∃x,w2.heap.size=x:=⟨_,rfl⟩;rw[hmb]at Nf⊢;clear GV hmb pE iU uF t0 t1 t2 t3 t4 t5 t6 t2';obtain⟨pb,hpb⟩:∃x,w4.heap.size=x:=⟨_,rfl⟩;have hs1:(w4.alloc (.cells #[.int .i64 T,.int .i64 N,.slice ra R.length rc,.int .i64 op,.int .i64 0,.int .i64 0,.int .i64 0,.slice none 0 0] 264)).heap[pb]?=some (.cells #[.int .i64 T,.int .i64 N,.slice ra R.length rc,.int .i64 op,.int .i64 0,.int .i64 0,.int .i64 0,.slice none 0 0] 264 (0,0)):=by rw[<-hpb];exact heap_alloc_new _ _
 have hs2:Below pb w4 (w4.alloc (.cells #[.int .i64 T,.int .i64 N,.slice ra R.length rc,.int .i64 op,.int .i64 0,.int .i64 0,.int .i64 0,.slice none 0 0] 264)):=by rw[<-hpb];exact(Below.refl _ _).alloc (Nat.le_refl _) _
 have HS:Hid (pb=w4.heap.size):=hpb.symm;obtain⟨W1,hW1⟩:∃W,w4.alloc (.cells #[.int .i64 T,.int .i64 N,.slice ra R.length rc,.int .i64 op,.int .i64 0,.int .i64 0,.int .i64 0,.slice none 0 0] 264)=W:=⟨_,rfl⟩;rw[hW1]at hs1 hs2⊢;rw[hpb];have qp:Hid (W1.heap[pb]?=some (.cells #[.int .i64 T,.int .i64 N,.slice ra R.length rc,.int .i64 op,.int .i64 0,.int .i64 0,.int .i64 0,.slice none 0 0] 264 (0,0))/\Below pb w4 W1):=⟨hs1,hs2⟩;clear hW1 hpb hs1 hs2
 go_loopw [47] (fun s47 wr=> ∃(k:Nat) (ov:Value),s47= .int .i64 k/\k<=R.length/\wr.heap[pb]?=some (.cells #[.int .i64 T,.int .i64 N,.slice ra R.length rc,.int .i64 op,.int .i64 0,.int .i64 0,.int .i64 0,ov] 264 (0,0))/\wr.ownsRow (pb+1) 3 1 ov (aY p k).length (kE (aY p k))/\Below pb w4 wr) (fun s _=>R.length-(intOf s).toNat)
 case atStart=>exact⟨0,_,rfl,Nat.zero_le _,qp.out.1,World.ownsRow_nil _ _ _ _,qp.out.2⟩
 case round=>
  obtain⟨k,ov,rfl,hk,hbx,hO,hB⟩:=hrel;clear qp;have ko:Hid (wr.heap[pb]?=some (.cells #[.int .i64 T,.int .i64 N,.slice ra R.length rc,.int .i64 op,.int .i64 0,.int .i64 0,.int .i64 0,ov] 264 (0,0))):=hbx;have HO:Hid (wr.ownsRow (pb+1) 3 1 ov (aY p k).length (kE (aY p k))):=hO;have HB:Hid (Below pb w4 wr):=hB;have hpl:pb<wr.heap.size:=(Array.getElem?_eq_some_iff.1 hbx).1;have hB4:∀wq,Below pb w4 wq->Below w4.heap.size w4 wq:=fun wq hq=>by rw[<-HS.out];exact hq
  have gJ:Hid (∀wq,Below pb w4 wq->Below w4.heap.size w4 wq):=hB4;clear hB4;by_cases hlt:k<R.length
  ·obtain⟨b0,o0,qy,qa,qc,hv,_,k1,k2,hsy⟩:=(Ez.out.next (gJ.out wr hB)).rules.jV hlt
   cases hv;obtain⟨⟨hL0,hL1⟩,vX,Ja⟩:=H5.out k hlt;have hpk:=HP.out k;have hsu:=VB p k;have hln:=IU p k;obtain⟨⟨L,l⟩,hx⟩:∃x,R.getD k (0,[])=x:=⟨_,rfl⟩;rw[hx]at k1 k2 hsy hL0 hL1 vX Ja hpk;simp only at k1 k2 hsy hL0 hL1 vX Ja hpk;obtain⟨Ln,rfl⟩:∃q:Nat,L=q:=⟨L.toNat,by omega⟩;rw[Int.toNat_natCast]at hpk;obtain⟨W2,hW2⟩:∃W,wr.alloc (.cells #[.int .i64 Ln,.slice qa l.length qc] 91)=W:=⟨_,rfl⟩;obtain⟨rb,hrb⟩:∃x,wr.heap.size=x:=⟨_,rfl⟩;have hB2:Below wr.heap.size wr W2:=by rw[<-hW2];exact(Below.refl _ _).alloc (Nat.le_refl _) _
   have r0:W2.cell? ⟨rb,0,none⟩=some (.int .i64 Ln):=by rw[<-hW2,<-hrb];exact aB (heap_alloc_new _ _) rfl
   have r1:W2.cell? ⟨rb,1,none⟩=some (.slice qa l.length qc):=by rw[<-hW2,<-hrb];exact aB (heap_alloc_new _ _) rfl
   have hB2':Below pb w4 W2:=hB.trans (hB2.mono (by omega));have dD:=gJ.out W2 hB2';have m0:=(dD.cell (World.block_lt_of_cell? _ _ Nf.out)).trans Nf.out;have hY:=VU.out.below dD;have hZ:=VX.out.below dD;have c1:=(hY.cell (m:=Ln) (by omega)).1;have c2:=(hZ.cell (m:=Ln) (by omega)).1;have cf:=aea (w:=W2) (hsy.same (iH hB2)) vX m0 hY Ja;obtain⟨y1,hy1⟩:∃y,Y1.getD Ln false=y:=⟨_,rfl⟩;obtain⟨y2,hy2⟩:∃y,Y2.getD Ln false=y:=⟨_,rfl⟩;obtain⟨y3,hy3⟩:∃y,dK Y1 l=y:=⟨_,rfl⟩;rw[hy1]at c1 hpk;rw[hy2]at c2 hpk;rw[hy3]at cf hpk;rw[hpk]at hsu;have gu:Hid (Below wr.heap.size wr W2/\Below pb w4 W2/\pb<wr.heap.size):=⟨hB2,hB2',hpl⟩;have i0:(0:Int)<=(k:Int):=Int.natCast_nonneg _;have i1:(k:Int)<(R.length:Int):=by omega
   have j0:(0:Int)<=(Ln:Int):=Int.natCast_nonneg _;have BA:Hid (aY p (k+1)=aY p k++(if (y1&&y2&&y3)=true then [k] else [])):=hsu
   have keep:∀w5,Below W2.heap.size W2 w5->(y1&&y2&&y3)=false->∃(k':Nat) (aA:Value),Value.int .i64 ((k:Int)+1)= .int .i64 k'/\k'<=R.length/\w5.heap[pb]?=some (.cells #[.int .i64 T,.int .i64 N,.slice (some ⟨b0,o0,none⟩) R.length rc,.int .i64 op,.int .i64 0,.int .i64 0,.int .i64 0,aA] 264 (0,0))/\w5.ownsRow (pb+1) 3 1 aA (aY p k').length (kE (aY p k'))/\Below pb w4 w5:=fun w5 ak hn=>by
    have hBw:Below wr.heap.size wr w5:=gu.out.1.trans (ak.mono gu.out.1.size);refine⟨k+1,ov,by push_cast;rfl,by omega,(hBw.block _ gu.out.2.2).trans ko.out,?_,HB.out.trans (hBw.mono (Nat.le_of_lt gu.out.2.2))⟩;rw[BA.out,hn];simpa using own_below HO.out hBw fun g hg=>(HO.out.lt g hg).2
   have oh:Hid (∀w5,Below W2.heap.size W2 w5->(y1&&y2&&y3)=false->∃(k':Nat) (aA:Value),Value.int .i64 ((k:Int)+1)= .int .i64 k'/\k'<=R.length/\w5.heap[pb]?=some (.cells #[.int .i64 T,.int .i64 N,.slice (some ⟨b0,o0,none⟩) R.length rc,.int .i64 op,.int .i64 0,.int .i64 0,.int .i64 0,aA] 264 (0,0))/\w5.ownsRow (pb+1) 3 1 aA (aY p k').length (kE (aY p k'))/\Below pb w4 w5):=keep;clear hx hB2 hB2' dD hY hZ hy1 hy2 hy3 hpk hsu hsy Ja hB hO hbx keep hpl;cases y1 with
   |false=>
    go_wp2_with fail
    go_roundw
    case rel=>first|exact oh.out _ (Below.refl _ _) rfl|(obtain⟨k',aA,h⟩:=oh.out _ (Below.refl _ _) rfl;exact⟨k',aA,by rw[<-h.1];go_num,h.2⟩)
    case measure=>simp[intOf];omega
   |true=>
    cases y2 with
    |false=>
     go_wp2_with fail
     go_roundw
     case rel=>first|exact oh.out _ (Below.refl _ _) rfl|(obtain⟨k',aA,h⟩:=oh.out _ (Below.refl _ _) rfl;exact⟨k',aA,by rw[<-h.1];go_num,h.2⟩)
     case measure=>simp[intOf];omega
    |true=>
     cases y3 with
     |false=>
      go_wp2_with (go_at_call 177;refine cf.mono ?_;rintro e w5 ⟨rfl,ak⟩;clear cf)
      go_roundw
      case rel=>first|exact oh.out _ ak rfl|(obtain⟨k',aA,h⟩:=oh.out _ ak rfl;exact⟨k',aA,by rw[<-h.1];go_num,h.2⟩)
      case measure=>simp[intOf];omega
     |true=>
      obtain⟨oa,oc,hov⟩:=bK HO.out;obtain⟨q,hq⟩:∃q,(aY p k).length=q:=⟨_,rfl⟩;rw[hq]at hov hln;have n1:q+1<=maxLen:=by unfold maxLen;omega
      have n2:(q+1)*8<=140737488355328:=by omega
      have HX:Hid (aY p (k+1)=aY p k++[k]/\(aY p k).length=q/\ov= .slice oa q oc):=⟨by simpa using BA.out,hq,hov⟩;obtain⟨rC,hi0,hz0,hz1,hz2⟩:=info_parts Tryz.infoIn8;clear hov hq
      go_wp2_with
       (first
        |(go_at_call 177;refine cf.mono ?_;rintro e w5 ⟨rfl,ak⟩;clear cf
          have hBw:Below wr.heap.size wr w5:=gu.out.1.trans (ak.mono gu.out.1.size);have jk:Hid (Below wr.heap.size wr w5):=hBw;have VY:=(hBw.block _ gu.out.2.2).trans ko.out;have g7:w5.cell? ⟨pb,7,none⟩=some (.slice oa q oc):=by rw[<-HX.out.2.2];exact aB VY rfl
          have dh:=(own_below HO.out hBw fun g hg=>(HO.out.lt g hg).2).alloc (.cells #[.int .i64 k] 3);rw[HX.out.2.1,HX.out.2.2]at dh;have iJ:=World.news_of_block (cs:= #[.int .i64 k]) (t:=3) (fr:=(0,0)) (heap_alloc_new w5 (.cells #[.int .i64 k] 3))
          have hb5:pb+1<=(w5.alloc (.cells #[.int .i64 k] 3)).heap.size:=by
           have:=hBw.size;have:=gu.out.2.2;simp;omega
          clear hBw VY ak)
        |(at_builtin
          refine wpList_append_lies _ rfl _ _ _ rfl (pb+1) 3 rC _ 1 8 Tryz.underlying59 hi0 hz0 hz1 hz2 rfl (by omega) (.slice oa q oc) q (kE (aY p k)) rfl dh ⟨w5.heap.size,0,none⟩ 1 1 [.int .i64 k] rfl rfl iJ (by simp[Value.oneCell']) (by omega) n1 n2 hb5 _ rfl ?_;intro g6 cap6 w6 hown6 dO lI rq;have aQ:Below (pb+1) w5 w6:=((Below.refl _ _).alloc (Nat.le_trans gu.out.2.2 jk.out.size) _).grown dO hb5 fun j hj=>(dh.lt j hj).1;have Jb:=(aQ.block pb (by omega)).trans ((jk.out.block _ gu.out.2.2).trans ko.out);have g6c:w6.cell? ⟨pb,7,none⟩=some ov:=aB Jb rfl;have g6f:w6.frozen? ⟨pb,7,none⟩=false:=MS Jb;have si:Hid (Below (pb+1) w5 w6):=aQ;have VZ:Hid (w6.heap[pb]?=some (.cells #[.int .i64 T,.int .i64 N,.slice (some ⟨b0,o0,none⟩) R.length rc,.int .i64 op,.int .i64 0,.int .i64 0,.int .i64 0,ov] 264 (0,0))):=Jb
          clear aQ Jb))
      go_roundw
      case rel=>
       have af0:pb<w6.heap.size:=(Array.getElem?_eq_some_iff.1 VZ.out).1;refine⟨k+1,.slice (some ⟨g6,0,none⟩) (q+1) cap6,by go_num,by omega,?_,?_,?_⟩
       ·have:=heap_setCell_same w6 pb 7 _ 264 (.slice (some ⟨g6,0,none⟩) (q+1) cap6) VZ.out
        simpa using this
       ·rw[HX.out.1,List.length_append,HX.out.2.1]
        refine BG ?_ (by simp) _;unfold kE at hown6⊢;rw[List.map_append];exact hown6
       ·have h5:Below pb w4 w5:=HB.out.trans (jk.out.mono (Nat.le_of_lt gu.out.2.2))
        exact(h5.trans (si.out.mono (by omega))).setCell (by simp) _
      case measure=>simp[intOf];omega
  ·have hkk:k=R.length:=by omega
   obtain⟨oa,oc,hov⟩:=bK hO;subst hov;have g0:wr.cell? ⟨pb,0,none⟩=some (.int .i64 T):=aB hbx rfl;have g1':wr.cell? ⟨pb,1,none⟩=some (.int .i64 N):=aB hbx rfl;have g2':wr.cell? ⟨pb,2,none⟩=some (.slice ra R.length rc):=aB hbx rfl;have g3:wr.cell? ⟨pb,3,none⟩=some (.int .i64 op):=aB hbx rfl;have g4:wr.cell? ⟨pb,4,none⟩=some (.int .i64 0):=aB hbx rfl;have g5:wr.cell? ⟨pb,5,none⟩=some (.int .i64 0):=aB hbx rfl;have g6:wr.cell? ⟨pb,6,none⟩=some (.int .i64 0):=aB hbx rfl;have g7:wr.cell? ⟨pb,7,none⟩=some (.slice oa (aY p k).length oc):=aB hbx rfl;have lM:Hid (Below w.heap.size w wr):=(Ez.out.next (gJ.out wr hB)).below;have HL:Hid (wr.ownsRow w.heap.size 3 1 (.slice oa (aY p k).length oc) (aY p k).length (kE (aY p k))/\k=R.length):=⟨jf hO (by have:=Ez.out.below.size;have:=HS.out;omega),hkk⟩;obtain⟨q,hq⟩:∃q,(aY p k).length=q:=⟨_,rfl⟩;have HQ:Hid ((aY p k).length=q):=hq;rw[hq]at g7;clear hbx hO hB hkk hpl
   go_wp2_with fail
   refine bodyPost_ret (v:= .tuple #[.iface 264 (.agg #[.int .i64 T,.int .i64 N,.slice ra R.length rc,.int .i64 op,.int .i64 0,.int .i64 0,.int .i64 0,.slice oa q oc]),.bool true]) (by simp[results,Tryz.results155,go_sem]) rfl ?_;have h:=HL.out.1;rw[HQ.out]at h;rw[<-HQ.out,HL.out.2]at h;refine⟨_,rfl,?_,lM.out⟩;rw[<-HQ.out,HL.out.2];exact h
def yh(R:List Ru)(s:Stp):Ru:=R.getD s.a.toNat (0,[])
def ES(R:List Ru)(s:Stp):List Nat:=aY (fun k=>decide ((R.getD k (0,[])).1=((yh R s).2.getD s.b.toNat (false,0)).2)) R.length
structure fU(w:World)(B:Nat)(T N:Nat)(ra:Option Addr)(rc:Nat)(R:List Ru)(s:Stp)(cv:Value):Prop where
 swap:s.op=1->cv= .iface 252 (.agg #[.int .i64 T,.int .i64 N,.slice ra R.length rc,.int .i64 s.op,.int .i64 s.a,.int .i64 s.b,.int .i64 s.c])
 extract:s.op=2->cv= .iface 255 (.agg #[.int .i64 T,.int .i64 N,.slice ra R.length rc,.int .i64 s.op,.int .i64 s.a,.int .i64 s.b,.int .i64 s.c,.int .i64 (iD ((yh R s).2.take s.b.toNat)).length,.int .i64 (iD ((yh R s).2.take s.c.toNat)).length])
 inline:s.op=3->∃ov,cv= .iface 258 (.agg #[.int .i64 T,.int .i64 N,.slice ra R.length rc,.int .i64 s.op,.int .i64 s.a,.int .i64 s.b,.int .i64 s.c,ov,.int .i64 (iD ((yh R s).2.take s.b.toNat)).length])/\w.ownsRow B 3 1 ov (ES R s).length (kE (ES R s))
 left:s.op=4->cv= .iface 259 (.agg #[.int .i64 T,.int .i64 N,.slice ra R.length rc,.int .i64 s.op,.int .i64 s.a,.int .i64 s.b,.int .i64 s.c])
 Jc:s.op=5->∃ov,cv= .iface 264 (.agg #[.int .i64 T,.int .i64 N,.slice ra R.length rc,.int .i64 s.op,.int .i64 s.a,.int .i64 s.b,.int .i64 s.c,ov])/\w.ownsRow B 3 1 ov (aY (fun k=>qK N R (R.getD k (0,[]))) R.length).length (kE (aY (fun k=>qK N R (R.getD k (0,[]))) R.length))
theorem fU.next{w w':World}{B T N:Nat}{ra:Option Addr}{rc:Nat}{R:List Ru}{s:Stp}{cv:Value}(h:fU w B T N ra rc R s cv)(hb:Below w.heap.size w w'):fU w' B T N ra rc R s cv:=
 ⟨h.swap,h.extract,fun e=>let ⟨ov,h1,h2⟩:=h.inline e;⟨ov,h1,own_below h2 hb fun g hg=>(h2.lt g hg).2⟩,h.left,fun e=>let ⟨ov,h1,h2⟩:=h.Jc e;⟨ov,h1,own_below h2 hb fun g hg=>(h2.lt g hg).2⟩⟩
theorem fU.set{w:World}{B T N:Nat}{ra:Option Addr}{rc:Nat}{R:List Ru}{s:Stp}{cv:Value}(h:fU w B T N ra rc R s cv){a:Addr}(ha:a.block<B)(u:Value):fU (w.setCell a u) B T N ra rc R s cv:=
 ⟨h.swap,h.extract,fun e=>let ⟨ov,h1,h2⟩:=h.inline e;⟨ov,h1,BG h2 ha u⟩,h.left,fun e=>let ⟨ov,h1,h2⟩:=h.Jc e;⟨ov,h1,BG h2 ha u⟩⟩
theorem fU.mono{w:World}{B B' T N:Nat}{ra:Option Addr}{rc:Nat}{R:List Ru}{s:Stp}{cv:Value}(h:fU w B T N ra rc R s cv)(hB:B'<=B):fU w B' T N ra rc R s cv:=
 ⟨h.swap,h.extract,fun e=>let ⟨ov,h1,h2⟩:=h.inline e;⟨ov,h1,jf h2 hB⟩,h.left,fun e=>let ⟨ov,h1,h2⟩:=h.Jc e;⟨ov,h1,jf h2 hB⟩⟩
section
variable{w:World}{T N:Nat}{ra:Option Addr}{rc:Nat}{R:List Ru}
theorem aex(hr:au w w.heap.size (.slice ra R.length rc) R){a b c:Int}:Calls Tryz.prog 151 #[.agg #[.int .i64 T,.int .i64 N,.slice ra R.length rc,.int .i64 1,.int .i64 a,.int .i64 b,.int .i64 c]] w fun e w'=> ∃cv,e= .returned (.tuple #[cv,.bool (aX N R ⟨1,a,b,c⟩)])/\(aX N R ⟨1,a,b,c⟩=true->fU w' w.heap.size T N ra rc R ⟨1,a,b,c⟩ cv)/\Below w.heap.size w w':=by
 have _:=hr;refine adV.mono ?_;rintro e w' ⟨rfl,hB⟩
 have hE:(decide (0<a)&&decide (a<(N:Int))&&(decide (0<b)&&decide (b<(N:Int)))&&decide (c=0))=aX N R ⟨1,a,b,c⟩:=by
  unfold aX;simp only;rw[if_pos trivial];have e1:decide (0<a)=decide (1<=a):=by rw[decide_eq_decide];omega
  have e2:decide (0<b)=decide (1<=b):=by rw[decide_eq_decide];omega
  rw[e1,e2];simp only[Bool.and_assoc]
 refine⟨_,by rw[hE],fun _=>⟨fun _=>rfl,fun h=>absurd h (by simp),fun h=>absurd h (by simp),fun h=>absurd h (by simp),fun h=>absurd h (by simp)⟩,hB⟩
theorem aey(hr:au w w.heap.size (.slice ra R.length rc) R)(hm:aD T N R=true){a b c:Int}:Calls Tryz.prog 152 #[.agg #[.int .i64 T,.int .i64 N,.slice ra R.length rc,.int .i64 2,.int .i64 a,.int .i64 b,.int .i64 c]] w fun e w'=> ∃cv,e= .returned (.tuple #[cv,.bool (aX N R ⟨2,a,b,c⟩)])/\(aX N R ⟨2,a,b,c⟩=true->fU w' w.heap.size T N ra rc R ⟨2,a,b,c⟩ cv)/\Below w.heap.size w w':=by
 obtain⟨_,_,_,hRl,h5⟩:=fV hm
 have hst:aX N R ⟨2,a,b,c⟩=true↔(0<=a/\a<(R.length:Int)/\0<=b/\b<c/\c<=((R.getD a.toNat (0,[])).2.length:Int)):=by
  unfold aX;simp only;rw[if_neg (by decide),if_pos trivial];simp only[Bool.and_eq_true,decide_eq_true_eq];constructor
  ·rintro ⟨⟨⟨⟨h1,h2⟩,h3⟩,h4⟩,h5⟩;exact⟨h1,h2,h3,h4,h5⟩
  ·rintro ⟨h1,h2,h3,h4,h5⟩;exact⟨⟨⟨⟨h1,h2⟩,h3⟩,h4⟩,h5⟩
 cases hB:aX N R ⟨2,a,b,c⟩ with
 |false=>
  refine(adX hr fun h=> ?_).mono ?_
  ·rw[hst.2 h]at hB;cases hB
  ·rintro e w' ⟨rfl,hB'⟩
   exact⟨_,rfl,fun h=>absurd h (by simp),hB'⟩
 |true=>
  obtain⟨h1,h2,h3,h4,h6⟩:=hst.1 hB;obtain⟨ka,rfl⟩:∃x:Nat,a=x:=⟨a.toNat,by omega⟩;obtain⟨bn,rfl⟩:∃x:Nat,b=x:=⟨b.toNat,by omega⟩;obtain⟨cn,rfl⟩:∃x:Nat,c=x:=⟨c.toNat,by omega⟩;simp only[Int.toNat_natCast]at h6;obtain⟨⟨L,l⟩,hx⟩:∃x,R.getD ka (0,[])=x:=⟨_,rfl⟩;have h8:=(h5 ka (by omega)).2.2.1;rw[hx]at h6 h8;simp only at h6 h8;refine(adY (m:=l.length-cn) hr (by omega) hx (by omega) (by omega) (by omega)).mono ?_;rintro e w' ⟨rfl,hB'⟩;refine⟨_,rfl,fun _=>⟨fun h=>absurd h (by simp),fun _=> ?_,fun h=>absurd h (by simp),fun h=>absurd h (by simp),fun h=>absurd h (by simp)⟩,hB'⟩;unfold yh;simp only[Int.toNat_natCast,hx]
theorem aez(hr:au w w.heap.size (.slice ra R.length rc) R)(hm:aD T N R=true){a b c:Int}:Calls Tryz.prog 153 #[.agg #[.int .i64 T,.int .i64 N,.slice ra R.length rc,.int .i64 3,.int .i64 a,.int .i64 b,.int .i64 c]] w fun e w'=> ∃cv,e= .returned (.tuple #[cv,.bool (aX N R ⟨3,a,b,c⟩)])/\(aX N R ⟨3,a,b,c⟩=true->fU w' w.heap.size T N ra rc R ⟨3,a,b,c⟩ cv)/\Below w.heap.size w w':=by
 obtain⟨_,_,_,hRl,h5⟩:=fV hm
 have hst:aX N R ⟨3,a,b,c⟩=true↔(0<=a/\a<(R.length:Int)/\0<=b/\b<((R.getD a.toNat (0,[])).2.length:Int)/\c=0/\((R.getD a.toNat (0,[])).2.getD b.toNat (false,0)).1=false/\((R.getD a.toNat (0,[])).2.getD b.toNat (false,0)).2≠(R.getD a.toNat (0,[])).1):=by
  unfold aX;simp only;rw[if_neg (by decide),if_neg (by decide),if_pos trivial];simp only[Bool.and_eq_true,decide_eq_true_eq,Bool.not_eq_true',decide_eq_false_iff_not];constructor
  ·rintro ⟨⟨⟨⟨⟨⟨h1,h2⟩,h3⟩,h4⟩,h5⟩,h6⟩,h7⟩;exact⟨h1,h2,h3,h4,h5,h6,h7⟩
  ·rintro ⟨h1,h2,h3,h4,h5,h6,h7⟩;exact⟨⟨⟨⟨⟨⟨h1,h2⟩,h3⟩,h4⟩,h5⟩,h6⟩,h7⟩
 cases hB:aX N R ⟨3,a,b,c⟩ with
 |false=>
  refine(ad6 hr fun h=> ?_).mono ?_
  ·rw[hst.2 h]at hB;cases hB
  ·rintro e w' ⟨rfl,hB'⟩
   exact⟨_,rfl,fun h=>absurd h (by simp),hB'⟩
 |true=>
  obtain⟨h1,h2,h3,h4,h6,h7,h9⟩:=hst.1 hB;subst h6;obtain⟨ka,rfl⟩:∃x:Nat,a=x:=⟨a.toNat,by omega⟩;obtain⟨bn,rfl⟩:∃x:Nat,b=x:=⟨b.toNat,by omega⟩;simp only[Int.toNat_natCast]at h4 h7 h9;obtain⟨⟨L,l⟩,hx⟩:∃x,R.getD ka (0,[])=x:=⟨_,rfl⟩;have h8:=(h5 ka (by omega)).2.2.1;rw[hx]at h4 h7 h8 h9;simp only at h4 h7 h8 h9;obtain⟨⟨t,X⟩,hX⟩:∃x,l.getD bn (false,0)=x:=⟨_,rfl⟩;rw[hX]at h7 h9;simp only at h7 h9;subst h7;refine(ad7 (m:=l.length-(bn+1)) hr (by omega) (by omega) hx (by omega) (by omega) hX h9).mono ?_;rintro e w' ⟨ov,rfl,hL,hB'⟩;refine⟨_,rfl,fun _=>⟨fun h=>absurd h (by simp),fun h=>absurd h (by simp),fun _=>⟨ov,?_,?_⟩,fun h=>absurd h (by simp),fun h=>absurd h (by simp)⟩,hB'⟩
  ·unfold yh
   simp only[Int.toNat_natCast,hx]
  ·unfold ES yh
   simp only[Int.toNat_natCast,hx,hX];exact hL
theorem aeA(hr:au w w.heap.size (.slice ra R.length rc) R)(hm:aD T N R=true){a b c:Int}:Calls Tryz.prog 154 #[.agg #[.int .i64 T,.int .i64 N,.slice ra R.length rc,.int .i64 4,.int .i64 a,.int .i64 b,.int .i64 c]] w fun e w'=> ∃cv,e= .returned (.tuple #[cv,.bool (aX N R ⟨4,a,b,c⟩)])/\(aX N R ⟨4,a,b,c⟩=true->fU w' w.heap.size T N ra rc R ⟨4,a,b,c⟩ cv)/\Below w.heap.size w w':=by
 obtain⟨_,_,_,hRl,h5⟩:=fV hm
 have hst:aX N R ⟨4,a,b,c⟩=(decide (b=0)&&decide (c=0)&&pW R a):=by
  unfold aX;simp only;rw[if_neg (by decide),if_neg (by decide),if_neg (by decide),if_pos trivial]
 have hin:pW R a=true->0<=a/\a<(N:Int):=fun h=>by
  unfold pW at h;simp only[Bool.and_eq_true,List.any_eq_true]at h;obtain⟨⟨r,hrm,ho⟩,_⟩:=h;unfold iY at ho;simp only[Bool.and_eq_true,decide_eq_true_eq]at ho;have:=(IZ hm).left r hrm;rw[ho.1]at this;exact this
 by_cases hg:0<=a/\a<(N:Int)/\b=0/\c=0
 ·obtain⟨h1,h2,rfl,rfl⟩:=hg
  have e:aX N R ⟨4,a,0,0⟩=pW R a:=by rw[hst];rfl
  rw[e];refine(ad3 hr (by omega) ⟨h1,h2⟩).mono ?_;rintro e w' ⟨cv,rfl,hc,hB'⟩;exact⟨cv,rfl,fun h=>⟨fun h=>absurd h (by simp),fun h=>absurd h (by simp),fun h=>absurd h (by simp),fun _=>hc h,fun h=>absurd h (by simp)⟩,hB'⟩
 ·have e:aX N R ⟨4,a,b,c⟩=false:=by
   cases h:aX N R ⟨4,a,b,c⟩ with
   |false=>rfl
   |true=>
    rw[hst]at h;simp only[Bool.and_eq_true,decide_eq_true_eq]at h;have:=hin h.2;exact absurd ⟨this.1,this.2,h.1.1,h.1.2⟩ hg
  rw[e];refine(ad2 hr hg).mono ?_;rintro e w' ⟨rfl,hB'⟩;exact⟨_,rfl,fun h=>absurd h (by simp),hB'⟩
theorem aeB(hr:au w w.heap.size (.slice ra R.length rc) R)(hm:aD T N R=true){a b c:Int}:Calls Tryz.prog 155 #[.agg #[.int .i64 T,.int .i64 N,.slice ra R.length rc,.int .i64 5,.int .i64 a,.int .i64 b,.int .i64 c]] w fun e w'=> ∃cv,e= .returned (.tuple #[cv,.bool (aX N R ⟨5,a,b,c⟩)])/\(aX N R ⟨5,a,b,c⟩=true->fU w' w.heap.size T N ra rc R ⟨5,a,b,c⟩ cv)/\Below w.heap.size w w':=by
 have hst:aX N R ⟨5,a,b,c⟩=(decide (a=0)&&decide (b=0)&&decide (c=0)):=by
  unfold aX;simp only;rw[if_neg (by decide),if_neg (by decide),if_neg (by decide),if_neg (by decide),if_pos trivial]
 by_cases hg:a=0/\b=0/\c=0
 ·obtain⟨rfl,rfl,rfl⟩:=hg
  have e:aX N R ⟨5,0,0,0⟩=true:=by rw[hst];rfl
  rw[e];refine(aev hr hm).mono ?_;rintro e w' ⟨ov,rfl,hL,hB'⟩;exact⟨_,rfl,fun _=>⟨fun h=>absurd h (by simp),fun h=>absurd h (by simp),fun h=>absurd h (by simp),fun h=>absurd h (by simp),fun _=>⟨ov,rfl,hL⟩⟩,hB'⟩
 ·have e:aX N R ⟨5,a,b,c⟩=false:=by
   cases h:aX N R ⟨5,a,b,c⟩ with
   |false=>rfl
   |true=>
    rw[hst]at h;simp only[Bool.and_eq_true,decide_eq_true_eq]at h;exact absurd ⟨h.1.1,h.1.2,h.2⟩ hg
  rw[e];refine(aeu hr hg).mono ?_;rintro e w' ⟨rfl,hB'⟩;exact⟨_,rfl,fun h=>absurd h (by simp),hB'⟩
theorem aeC(hr:au w w.heap.size (.slice ra R.length rc) R)(hm:aD T N R=true){a b c:Int}:Calls Tryz.prog 122 #[.agg #[.int .i64 T,.int .i64 N,.slice ra R.length rc,.int .i64 1,.int .i64 a,.int .i64 b,.int .i64 c]] w fun e w'=> ∃cv,e= .returned (.tuple #[cv,.bool (aX N R ⟨1,a,b,c⟩)])/\(aX N R ⟨1,a,b,c⟩=true->fU w' w.heap.size T N ra rc R ⟨1,a,b,c⟩ cv)/\Below w.heap.size w w':=by
 have _:=hm;have hK:=oH (T:=T) (N:=N) (op:=1) (a:=a) (b:=b) (c:=c) hr;obtain⟨W0,hW0⟩:∃W,w.alloc (.cells #[.int .i64 T,.int .i64 N,.slice ra R.length rc,.int .i64 1,.int .i64 a,.int .i64 b,.int .i64 c] 207)=W:=⟨_,rfl⟩;rw[hW0]at hK;have x0:=hK.x0;have x1:=hK.x1;have x2:=hK.x2;have x3:=hK.x3;have x4:=hK.x4;have x5:=hK.x5;have x6:=hK.x6;have HB:Hid (Below w.heap.size w W0):=hK.below;have cc:=aex (T:=T) (N:=N) (a:=a) (b:=b) (c:=c) hK.all;obtain⟨z,hz⟩:∃z,aX N R ⟨1,a,b,c⟩=z:=⟨_,rfl⟩;rw[hz]at cc⊢;clear hK hr hm hz
 go_enter Tryz.func122,Tryz.ntmps122
 go_wp2_with (go_at_call 151;refine cc.mono ?_;rintro e w2 ⟨cv,rfl,hcv,hB2⟩;clear cc)
 refine bodyPost_ret (v:= .tuple #[cv,.bool z]) (by simp[results,Tryz.results122,go_sem]) rfl ?_;exact⟨cv,rfl,fun h=>(hcv h).mono HB.out.size,HB.out.trans (hB2.mono HB.out.size)⟩
theorem aeD(hr:au w w.heap.size (.slice ra R.length rc) R)(hm:aD T N R=true){a b c:Int}:Calls Tryz.prog 122 #[.agg #[.int .i64 T,.int .i64 N,.slice ra R.length rc,.int .i64 2,.int .i64 a,.int .i64 b,.int .i64 c]] w fun e w'=> ∃cv,e= .returned (.tuple #[cv,.bool (aX N R ⟨2,a,b,c⟩)])/\(aX N R ⟨2,a,b,c⟩=true->fU w' w.heap.size T N ra rc R ⟨2,a,b,c⟩ cv)/\Below w.heap.size w w':=by
 have _:=hm;have hK:=oH (T:=T) (N:=N) (op:=2) (a:=a) (b:=b) (c:=c) hr;obtain⟨W0,hW0⟩:∃W,w.alloc (.cells #[.int .i64 T,.int .i64 N,.slice ra R.length rc,.int .i64 2,.int .i64 a,.int .i64 b,.int .i64 c] 207)=W:=⟨_,rfl⟩;rw[hW0]at hK;have x0:=hK.x0;have x1:=hK.x1;have x2:=hK.x2;have x3:=hK.x3;have x4:=hK.x4;have x5:=hK.x5;have x6:=hK.x6;have HB:Hid (Below w.heap.size w W0):=hK.below;have cc:=aey (T:=T) (N:=N) (a:=a) (b:=b) (c:=c) hK.all hm;obtain⟨z,hz⟩:∃z,aX N R ⟨2,a,b,c⟩=z:=⟨_,rfl⟩;rw[hz]at cc⊢;clear hK hr hm hz
 go_enter Tryz.func122,Tryz.ntmps122
 go_wp2_with (go_at_call 152;refine cc.mono ?_;rintro e w2 ⟨cv,rfl,hcv,hB2⟩;clear cc)
 refine bodyPost_ret (v:= .tuple #[cv,.bool z]) (by simp[results,Tryz.results122,go_sem]) rfl ?_;exact⟨cv,rfl,fun h=>(hcv h).mono HB.out.size,HB.out.trans (hB2.mono HB.out.size)⟩
theorem aeE(hr:au w w.heap.size (.slice ra R.length rc) R)(hm:aD T N R=true){a b c:Int}:Calls Tryz.prog 122 #[.agg #[.int .i64 T,.int .i64 N,.slice ra R.length rc,.int .i64 3,.int .i64 a,.int .i64 b,.int .i64 c]] w fun e w'=> ∃cv,e= .returned (.tuple #[cv,.bool (aX N R ⟨3,a,b,c⟩)])/\(aX N R ⟨3,a,b,c⟩=true->fU w' w.heap.size T N ra rc R ⟨3,a,b,c⟩ cv)/\Below w.heap.size w w':=by
 have _:=hm;have hK:=oH (T:=T) (N:=N) (op:=3) (a:=a) (b:=b) (c:=c) hr;obtain⟨W0,hW0⟩:∃W,w.alloc (.cells #[.int .i64 T,.int .i64 N,.slice ra R.length rc,.int .i64 3,.int .i64 a,.int .i64 b,.int .i64 c] 207)=W:=⟨_,rfl⟩;rw[hW0]at hK;have x0:=hK.x0;have x1:=hK.x1;have x2:=hK.x2;have x3:=hK.x3;have x4:=hK.x4;have x5:=hK.x5;have x6:=hK.x6;have HB:Hid (Below w.heap.size w W0):=hK.below;have cc:=aez (T:=T) (N:=N) (a:=a) (b:=b) (c:=c) hK.all hm;obtain⟨z,hz⟩:∃z,aX N R ⟨3,a,b,c⟩=z:=⟨_,rfl⟩;rw[hz]at cc⊢;clear hK hr hm hz
 go_enter Tryz.func122,Tryz.ntmps122
 go_wp2_with (go_at_call 153;refine cc.mono ?_;rintro e w2 ⟨cv,rfl,hcv,hB2⟩;clear cc)
 refine bodyPost_ret (v:= .tuple #[cv,.bool z]) (by simp[results,Tryz.results122,go_sem]) rfl ?_;exact⟨cv,rfl,fun h=>(hcv h).mono HB.out.size,HB.out.trans (hB2.mono HB.out.size)⟩
theorem aeF(hr:au w w.heap.size (.slice ra R.length rc) R)(hm:aD T N R=true){a b c:Int}:Calls Tryz.prog 122 #[.agg #[.int .i64 T,.int .i64 N,.slice ra R.length rc,.int .i64 4,.int .i64 a,.int .i64 b,.int .i64 c]] w fun e w'=> ∃cv,e= .returned (.tuple #[cv,.bool (aX N R ⟨4,a,b,c⟩)])/\(aX N R ⟨4,a,b,c⟩=true->fU w' w.heap.size T N ra rc R ⟨4,a,b,c⟩ cv)/\Below w.heap.size w w':=by
 have _:=hm;have hK:=oH (T:=T) (N:=N) (op:=4) (a:=a) (b:=b) (c:=c) hr;obtain⟨W0,hW0⟩:∃W,w.alloc (.cells #[.int .i64 T,.int .i64 N,.slice ra R.length rc,.int .i64 4,.int .i64 a,.int .i64 b,.int .i64 c] 207)=W:=⟨_,rfl⟩;rw[hW0]at hK;have x0:=hK.x0;have x1:=hK.x1;have x2:=hK.x2;have x3:=hK.x3;have x4:=hK.x4;have x5:=hK.x5;have x6:=hK.x6;have HB:Hid (Below w.heap.size w W0):=hK.below;have cc:=aeA (T:=T) (N:=N) (a:=a) (b:=b) (c:=c) hK.all hm;obtain⟨z,hz⟩:∃z,aX N R ⟨4,a,b,c⟩=z:=⟨_,rfl⟩;rw[hz]at cc⊢;clear hK hr hm hz
 go_enter Tryz.func122,Tryz.ntmps122
 go_wp2_with (go_at_call 154;refine cc.mono ?_;rintro e w2 ⟨cv,rfl,hcv,hB2⟩;clear cc)
 refine bodyPost_ret (v:= .tuple #[cv,.bool z]) (by simp[results,Tryz.results122,go_sem]) rfl ?_;exact⟨cv,rfl,fun h=>(hcv h).mono HB.out.size,HB.out.trans (hB2.mono HB.out.size)⟩
theorem aeG(hr:au w w.heap.size (.slice ra R.length rc) R)(hm:aD T N R=true){a b c:Int}:Calls Tryz.prog 122 #[.agg #[.int .i64 T,.int .i64 N,.slice ra R.length rc,.int .i64 5,.int .i64 a,.int .i64 b,.int .i64 c]] w fun e w'=> ∃cv,e= .returned (.tuple #[cv,.bool (aX N R ⟨5,a,b,c⟩)])/\(aX N R ⟨5,a,b,c⟩=true->fU w' w.heap.size T N ra rc R ⟨5,a,b,c⟩ cv)/\Below w.heap.size w w':=by
 have _:=hm;have hK:=oH (T:=T) (N:=N) (op:=5) (a:=a) (b:=b) (c:=c) hr;obtain⟨W0,hW0⟩:∃W,w.alloc (.cells #[.int .i64 T,.int .i64 N,.slice ra R.length rc,.int .i64 5,.int .i64 a,.int .i64 b,.int .i64 c] 207)=W:=⟨_,rfl⟩;rw[hW0]at hK;have x0:=hK.x0;have x1:=hK.x1;have x2:=hK.x2;have x3:=hK.x3;have x4:=hK.x4;have x5:=hK.x5;have x6:=hK.x6;have HB:Hid (Below w.heap.size w W0):=hK.below;have cc:=aeB (T:=T) (N:=N) (a:=a) (b:=b) (c:=c) hK.all hm;obtain⟨z,hz⟩:∃z,aX N R ⟨5,a,b,c⟩=z:=⟨_,rfl⟩;rw[hz]at cc⊢;clear hK hr hm hz
 go_enter Tryz.func122,Tryz.ntmps122
 go_wp2_with (go_at_call 155;refine cc.mono ?_;rintro e w2 ⟨cv,rfl,hcv,hB2⟩;clear cc)
 refine bodyPost_ret (v:= .tuple #[cv,.bool z]) (by simp[results,Tryz.results122,go_sem]) rfl ?_;exact⟨cv,rfl,fun h=>(hcv h).mono HB.out.size,HB.out.trans (hB2.mono HB.out.size)⟩
theorem aeH(hr:au w w.heap.size (.slice ra R.length rc) R){op a b c:Int}(h1:op≠1)(h2:op≠2)(h3:op≠3)(h4:op≠4)(h5:op≠5):Calls Tryz.prog 122 #[.agg #[.int .i64 T,.int .i64 N,.slice ra R.length rc,.int .i64 op,.int .i64 a,.int .i64 b,.int .i64 c]] w fun e w'=>e= .returned (.tuple #[.nilIface,.bool false])/\Below w.heap.size w w':=by
 have hK:=oH (T:=T) (N:=N) (op:=op) (a:=a) (b:=b) (c:=c) hr;obtain⟨W0,hW0⟩:∃W,w.alloc (.cells #[.int .i64 T,.int .i64 N,.slice ra R.length rc,.int .i64 op,.int .i64 a,.int .i64 b,.int .i64 c] 207)=W:=⟨_,rfl⟩;rw[hW0]at hK;have x3:=hK.x3;have HB:Hid (Below w.heap.size w W0):=hK.below;have e1:(op==1)=false:=by simpa using h1
 have e2:(op==2)=false:=by simpa using h2
 have e3:(op==3)=false:=by simpa using h3
 have e4:(op==4)=false:=by simpa using h4
 have e5:(op==5)=false:=by simpa using h5
 clear hK hr h1 h2 h3 h4 h5
 go_enter Tryz.func122,Tryz.ntmps122
 go_wp2_with fail
 refine bodyPost_ret (v:= .tuple #[.nilIface,.bool false]) (by simp[results,Tryz.results122,go_sem]) rfl ?_;exact⟨rfl,HB.out⟩
theorem Ng(hr:au w w.heap.size (.slice ra R.length rc) R)(hm:aD T N R=true)(s:Stp):Calls Tryz.prog 122 #[.agg #[.int .i64 T,.int .i64 N,.slice ra R.length rc,.int .i64 s.op,.int .i64 s.a,.int .i64 s.b,.int .i64 s.c]] w fun e w'=> ∃cv,e= .returned (.tuple #[cv,.bool (aX N R s)])/\(aX N R s=true->fU w' w.heap.size T N ra rc R s cv)/\Below w.heap.size w w':=by
 obtain⟨op,a,b,c⟩:=s;by_cases h1:op=1
 ·subst h1;exact aeC hr hm
 by_cases h2:op=2
 ·subst h2;exact aeD hr hm
 by_cases h3:op=3
 ·subst h3;exact aeE hr hm
 by_cases h4:op=4
 ·subst h4;exact aeF hr hm
 by_cases h5:op=5
 ·subst h5;exact aeG hr hm
 have e:aX N R ⟨op,a,b,c⟩=false:=by
  unfold aX;simp[h1,h2,h3,h4,h5]
 rw[e];refine(aeH hr h1 h2 h3 h4 h5).mono ?_;rintro e w' ⟨rfl,hB⟩;exact⟨_,rfl,fun h=>(by cases h),hB⟩
end
theorem aeI{t:Bool}{v:Int}(w:World):Sem.run Tryz.prog (Instr.field 116 (.agg #[.bool t,.int .i64 v]) 1) w= .ok (.int .i64 v) w:=by
 unfold Instr.field asAgg
 go_simp
def qd(N:Int)(a:Int)(r:Ru):Ru:=if r.1=a then (if vV r then (N,r.2.drop 1++[(false,N)]) else (r.1,r.2++[(false,N)])) else r
theorem Nh{f:Ru->Ru}{R:List Ru}{k:Nat}(hk:k<R.length):((R.take k).map f++R.drop k).set k (f R[k])=(R.take (k+1)).map f++R.drop (k+1):=by
 have h1:((R.take k).map f).length=k:=by rw[List.length_map,List.length_take];omega
 rw[List.set_append_right _ _ (by omega),h1,Nat.sub_self,List.drop_eq_getElem_cons hk,List.set_cons_zero,List.take_succ_eq_append_getElem hk,List.map_append];simp
theorem aeJ{f:Ru->Ru}{R:List Ru}{k:Nat}(hk:k<R.length)(h:f R[k]=R[k]):(R.take k).map f++R.drop k=(R.take (k+1)).map f++R.drop (k+1):=by
 rw[<-Nh hk,h];have h1:((R.take k).map f).length=k:=by rw[List.length_map,List.length_take];omega
 rw[List.set_append_right _ _ (by omega),h1,Nat.sub_self,List.drop_eq_getElem_cons hk,List.set_cons_zero]
section
variable{w:World}{B g cap k:Nat}{v:Value}{RL:List (Value×Ru)}{l:List Sy}
theorem aM.eB(h:aM w B (.slice (some ⟨g,0,none⟩) RL.length cap) RL)(hk:k<RL.length)(hs:oG w (fun b=>B<=b/\b≠g) v l):aM (w.setCell ⟨g,k*2+1,none⟩ v) B (.slice (some ⟨g,0,none⟩) RL.length cap) (RL.set k (v,(RL[k].2.1,l))):=by
 refine⟨?_,fun x hx=> ?_⟩
 ·have:=(h.own.stored (k*2+1) v).1
  rw[Vm hk v l]at this;rw[List.length_set];exact this
 ·rcases MU hx with rfl|hx
  ·refine hs.kept (by simp) fun b hA _=>⟨Below.heap_setCell _ _ _ _ hA.2,hA.1,fun e=> ?_⟩
   simp only[Value.ownBlock,Option.some.injEq]at e;exact hA.2 e.symm
  ·refine(h.sym x hx).kept (by simp) fun b hA hlt=>⟨?_,hA⟩
   rw[Below.heap_setCell _ _ _ _ (fun e=>hA.2 (by simp only[Value.ownBlock];exact congrArg some e.symm))]
theorem aM.V3(h:aM w B (.slice (some ⟨g,0,none⟩) RL.length cap) RL)(hk:k<RL.length)(L:Int)(hs:oG w (fun b=>B<=b/\b≠g) v l):aM ((w.setCell ⟨g,k*2,none⟩ (.int .i64 L)).setCell ⟨g,k*2+1,none⟩ v) B (.slice (some ⟨g,0,none⟩) RL.length cap) (RL.set k (v,(L,l))):=by
 have h1:=h.KS hk L;have e:RL.length=(RL.set k (RL[k].1,(L,RL[k].2.2))).length:=by rw[List.length_set]
 rw[e]at h1;have h2:=h1.eB (k:=k) (v:=v) (l:=l) (by rw[<-e];exact hk) (hs.kept (by simp) fun b hA _=>⟨Below.heap_setCell _ _ _ _ hA.2,hA⟩);simpa [List.set_set] using h2
end
structure OL(w:World)(cs:Array Value)(ra:Option Addr)(rc:Nat)(R:List Ru)(N a:Int)(g cap eb k:Nat)(RL:List (Value×Ru))(wq:World):Prop where
 box:bI w cs 259 ra rc R wq
 rl:aM wq (w.heap.size+2) (.slice (some ⟨g,0,none⟩) RL.length cap) RL
 len:RL.length=R.length
 map:(RL.map fun x=>x.2)=(R.take k).map (qd N a)++R.drop k
 BQ:wq.heap[eb]?=some (.cells #[.bool false,.int .i64 N] 116 (0,0))
 ne:eb≠g
 zD:w.heap.size+2<=g
section
variable{w wq w':World}{cs:Array Value}{ra:Option Addr}{rc:Nat}{R:List Ru}{N a:Int}{g cap eb k:Nat}{RL:List (Value×Ru)}
theorem OL.next(h:OL w cs ra rc R N a g cap eb k RL wq)(hb:Below wq.heap.size wq w'):OL w cs ra rc R N a g cap eb k RL w':=
 ⟨h.box.next hb,h.rl.below hb,h.len,h.map,(hb.block _ (Array.getElem?_eq_some_iff.1 h.BQ).1).trans h.BQ,h.ne,h.zD⟩
theorem OL.ends(h:OL w cs ra rc R N a g cap eb k RL wq):bG wq (.slice (some ⟨eb,0,none⟩) 1 1) [(false,N)]:=by
 refine⟨⟨_,_,rfl,Nat.le_refl _⟩,fun j hj=> ?_⟩;have:j=0:=by simp at hj;omega
 subst this;exact⟨eb,0,1,rfl,aB (i:=0) h.BQ rfl,aB (i:=1) h.BQ rfl⟩
theorem OL.here(h:OL w cs ra rc R N a g cap eb k RL wq)(hk:k<R.length)(hk':k<RL.length):RL[k].2=R[k]:=by
 have h1:((RL.map fun x=>x.2)[k]'(by rw[List.length_map];exact hk'))=R[k]:=by
  simp only[h.map];have hl:((R.take k).map (qd N a)).length=k:=by rw[List.length_map,List.length_take];omega
  rw[List.getElem_append_right (by omega)];simp only[hl,Nat.sub_self,List.getElem_drop,Nat.add_zero]
 simpa using h1
theorem OL.Ni(h:OL w cs ra rc R N a g cap eb k RL wq)(hk:k<R.length){v:Value}{L:Int}{l:List Sy}(hf:qd N a R[k]=(L,l)):((RL.set k (v,(L,l))).map fun x=>x.2)=(R.take (k+1)).map (qd N a)++R.drop (k+1):=by
 rw[List.map_set,h.map,<-Nh hk,hf]
theorem OL.set(h:OL w cs ra rc R N a g cap eb k RL wq){RK:List (Value×Ru)}{w5:World}(hB:Below wq.heap.size wq w5){wz:World}(hz:∀b,b≠g->wz.heap[b]?=w5.heap[b]?)(hs:w5.heap.size=wz.heap.size)(ho:wz.os=w5.os)(ht:wz.tape=w5.tape)(hou:wz.output=w5.output)(hr:aM wz (w.heap.size+2) (.slice (some ⟨g,0,none⟩) RL.length cap) RK)(hl:RK.length=RL.length)(hm:(RK.map fun x=>x.2)=(R.take (k+1)).map (qd N a)++R.drop (k+1)):OL w cs ra rc R N a g cap eb (k+1) RK wz:=by
 have h5:=h.next hB;have hg:=h.zD;have hbz:Below (w.heap.size+2) w5 wz:=⟨ho,ht,hou,by omega,fun b hb=>hz b (by omega)⟩;exact⟨h5.box.later hbz,by rw[hl];exact hr,hl.trans h.len,hm,(hz eb h.ne).trans h5.BQ,h.ne,h.zD⟩
end
theorem V4{w:World}{xb:Nat}{n a b:Int}(x4:w.cell? ⟨xb,4,none⟩=some (.int .i64 a))(x5:w.cell? ⟨xb,5,none⟩=some (.int .i64 b)):
 Calls Tryz.prog 224 #[.int .i64 n,.pointer (some ⟨xb,0,none⟩)] w fun e w'=>e= .returned (.int .i64 (rU a b n))/\w'=w:=by
 unfold rU;by_cases h1:n=a
 ·have e1:(n==a)=true:=by simpa using h1
  rw[if_pos h1];clear h1
  go_enter Tryz.func224,Tryz.ntmps224
  go_wp2_with fail
  go_ret;exact⟨rfl,rfl⟩
 ·have e1:(n==a)=false:=by simpa using h1
  rw[if_neg h1];by_cases h2:n=b
  ·have e2:(n==b)=true:=by simpa using h2
   rw[if_pos h2];clear h1 h2
   go_enter Tryz.func224,Tryz.ntmps224
   go_wp2_with fail
   go_ret;exact⟨rfl,rfl⟩
  ·have e2:(n==b)=false:=by simpa using h2
   rw[if_neg h2];clear h1 h2
   go_enter Tryz.func224,Tryz.ntmps224
   go_wp2_with fail
   go_ret;exact⟨rfl,rfl⟩
theorem V5{f:Sy->Sy}{R:List Sy}{k:Nat}(hk:k<R.length):((R.take k).map f++R.drop k).set k (f R[k])=(R.take (k+1)).map f++R.drop (k+1):=by
 have h1:((R.take k).map f).length=k:=by rw[List.length_map,List.length_take];omega
 rw[List.set_append_right _ _ (by omega),h1,Nat.sub_self,List.drop_eq_getElem_cons hk,List.set_cons_zero,List.take_succ_eq_append_getElem hk,List.map_append];simp
theorem aeK{f:Sy->Sy}{R:List Sy}{k:Nat}(hk:k<R.length)(h:f R[k]=R[k]):(R.take k).map f++R.drop k=(R.take (k+1)).map f++R.drop (k+1):=by
 rw[<-V5 hk,h];have h1:((R.take k).map f).length=k:=by rw[List.length_map,List.length_take];omega
 rw[List.set_append_right _ _ (by omega),h1,Nat.sub_self,List.drop_eq_getElem_cons hk,List.set_cons_zero]
theorem V6{f:Sy->Sy}{R:List Sy}{k:Nat}(hk:k<R.length):((R.take k).map f++R.drop k).getD k (false,0)=R[k]:=by
 have hl:((R.take k).map f).length=k:=by rw[List.length_map,List.length_take];omega
 rw[List.getD_eq_getElem?_getD,List.getElem?_append_right (by omega),hl,Nat.sub_self,List.getElem?_drop,Nat.add_zero,List.getElem?_eq_getElem hk];rfl
theorem aeL{w:World}{B xb:Nat}{a b:Int}{v:Value}{l:List Sy}(ho:w.ownsRow B 116 2 v l.length (aR l))(hl:l.length<=1000)(x4:w.cell? ⟨xb,4,none⟩=some (.int .i64 a))(x5:w.cell? ⟨xb,5,none⟩=some (.int .i64 b))(hxB:xb<B):
 Calls Tryz.prog 226 #[v,.func (.func 224) #[] #[.pointer (some ⟨xb,0,none⟩)]] w fun e w'=>e= .returned (.tuple #[])/\w'.ownsRow B 116 2 v l.length (aR (l.map (zw a b)))/\Kept (fun k=>v.ownBlock=some k) w w':=by
 obtain⟨va,vc,hv⟩:=bK ho;have HO:Hid (w.ownsRow B 116 2 v l.length (aR l)):=ho;have HX:Hid (w.cell? ⟨xb,4,none⟩=some (.int .i64 a)/\w.cell? ⟨xb,5,none⟩=some (.int .i64 b)):=⟨x4,x5⟩;have HV:Hid (v= .slice va l.length vc):=hv;rw[hv];clear ho x4 x5 hv
 go_enter Tryz.func226,Tryz.ntmps226
 go_wp2_with fail
 go_loopw [8] (fun s8 wr=> ∃k:Nat,s8= .int .i64 k/\k<=l.length/\wr.ownsRow B 116 2 v l.length (aR ((l.take k).map (zw a b)++l.drop k))/\Kept (fun k=>v.ownBlock=some k) w wr) (fun s _=>l.length-(intOf s).toNat)
 case atStart=>exact⟨0,rfl,Nat.zero_le _,by simpa using HO.out,Kept.refl _ _⟩
 case round=>
  obtain⟨k,rfl,hk,hO,hK⟩:=hrel;have HK:Hid (Kept (fun k=>v.ownBlock=some k) w wr):=hK;have om:Hid (wr.ownsRow B 116 2 v l.length (aR ((l.take k).map (zw a b)++l.drop k))):=hO;by_cases hlt:k<l.length
  ·obtain⟨g,cap,zF,hgB,hgs⟩:=hO.form (by omega)
   have hva:va=some ⟨g,0,none⟩/\vc=cap:=by
    have:=HV.out;rw[zF]at this;injection this with e1 e2 e3;exact⟨e1.symm,e3.symm⟩
   obtain⟨rfl,rfl⟩:=hva;have hO2:=hO;rw[zF]at hO2
   have hlen:((l.take k).map (zw a b)++l.drop k).length=l.length:=by
    rw[List.length_append,List.length_map,List.length_take,List.length_drop];omega
   have c1:=(hO2.cellAt (k*2) (by omega)).trans (BD (j:=0) (by rw[hlen];exact hlt) (by omega));have c2:=(hO2.cellAt (k*2+1) (by omega)).trans (BD (j:=1) (by rw[hlen];exact hlt) (by omega));rw[V6 hlt]at c1 c2;obtain⟨⟨t,n⟩,hx⟩:∃x,l[k]=x:=⟨_,rfl⟩;rw[hx]at c1 c2;simp only[oF,List.getElem?_cons_zero,List.getElem?_cons_succ]at c1 c2;have f2:=hO2.frozenAt (k*2+1)
   have hxg:¬v.ownBlock=some xb:=fun e=>by
    rw[zF]at e;simp only[Value.ownBlock,Option.some.injEq]at e;omega
   have Bo:Hid (∀wq,Below wr.heap.size wr wq->wq.cell? ⟨xb,4,none⟩=some (.int .i64 a)/\wq.cell? ⟨xb,5,none⟩=some (.int .i64 b)):=fun wq hq=>by
    have h4:=HK.out.cell (p:=⟨xb,4,none⟩) hxg HX.out.1;have h5:=HK.out.cell (p:=⟨xb,5,none⟩) hxg HX.out.2;exact⟨(hq.cell (World.block_lt_of_cell? _ _ h4)).trans h4,(hq.cell (World.block_lt_of_cell? _ _ h5)).trans h5⟩
   have BR:Hid (l[k]=(t,n)/\v= .slice (some ⟨g,0,none⟩) l.length vc/\g<wr.heap.size):=⟨hx,zF,hgs⟩;obtain⟨W1,hW1⟩:∃W,wr.alloc (.cells #[.bool t,.int .i64 n] 116)=W:=⟨_,rfl⟩;have hB1:Below wr.heap.size wr W1:=by rw[<-hW1];exact(Below.refl _ _).alloc (Nat.le_refl _) _
   have HB1:Hid (Below wr.heap.size wr W1):=hB1;have d0:W1.cell? ⟨wr.heap.size,0,none⟩=some (.bool t):=by rw[<-hW1];exact aB (heap_alloc_new _ _) rfl
   have d1:W1.cell? ⟨wr.heap.size,1,none⟩=some (.int .i64 n):=by rw[<-hW1];exact aB (heap_alloc_new _ _) rfl
   have e2:=(hB1.cell (World.block_lt_of_cell? _ _ c2)).trans c2;have ef2:W1.frozen? ⟨g,k*2+1,none⟩=false:=(hB1.frozen (show g<_ from hgs)).trans f2;have ot:=V4 (n:=n) (Bo.out W1 hB1).1 (Bo.out W1 hB1).2;have i0:(0:Int)<=(k:Int):=Int.natCast_nonneg _;have i1:(k:Int)<(l.length:Int):=by omega
   clear hK hO hO2 hx hB1 zF hlen;cases t with
   |true=>
    go_wp2_with fail
    go_roundw
    case rel=>
     refine⟨k+1,by go_num,by omega,?_,HK.out.trans (Kept.bP HB1.out)⟩;rw[<-aeK hlt (by rw[BR.out.1];rfl)];exact own_below om.out HB1.out fun g hg=>(om.out.lt g hg).2
    case measure=>simp[intOf];omega
   |false=>
    go_wp2_with (go_at_call 224;refine ot.mono ?_;rintro e w2 ⟨rfl,rfl⟩;clear ot)
    go_roundw
    case rel=>
     have hvb:v.ownBlock=some g:=by rw[BR.out.2.1];rfl
     have o1:=own_below om.out HB1.out fun g hg=>(om.out.lt g hg).2;rw[BR.out.2.1]at o1;have o2:=(o1.stored (k*2+1) (.int .i64 (rU a b n))).1;rw[adG (by rw[List.length_append,List.length_map,List.length_take,List.length_drop];omega),V6 hlt,BR.out.1]at o2;refine⟨k+1,by go_num,by omega,?_,(HK.out.trans (Kept.bP HB1.out)).setCell hvb _⟩;rw[BR.out.2.1,<-V5 hlt,BR.out.1];exact o2
    case measure=>simp[intOf];omega
  ·have hkk:k=l.length:=by omega
   clear hK hO
   go_wp2_with fail
   go_end0
   refine⟨rfl,?_,by rw[<-HV.out];exact HK.out⟩;have:=om.out;rw[hkk,List.take_length,List.drop_length,List.append_nil]at this;rw[<-HV.out];exact this
end Go.Proofs.YtblkkhfdeaaidaaGreatDoor
