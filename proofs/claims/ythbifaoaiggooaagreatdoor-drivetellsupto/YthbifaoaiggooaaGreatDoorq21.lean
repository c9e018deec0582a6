import Derived.Test.YthbifaoaiggooaaGreatDoorq20
set_option maxHeartbeats 12800000
set_option maxRecDepth 100000
namespace Go.Proofs.YthbifaoaiggooaaGreatDoor
open Go.RowKit
theorem ZE{X Y:List Bool}{N:Nat}{P:Int->Prop}(h1:X.length=N)(h2:Y.length=N)(p1:∀n,hasB X n↔P n)(p2:∀n,hasB Y n↔P n):X=Y:=by
 refine wP (by omega) λi hi hi'=> ?_;have:=(p1 i).trans (p2 i).symm;unfold hasB at this;simp only[Int.toNat_natCast]at this;have e1:X.getD i false=X[i]:=by simp[List.getD,hi]
 have e2:Y.getD i false=Y[i]:=by simp[List.getD,hi']
 rw[e1,e2]at this;have h0:(0:Int)<=(i:Int):=aF _;cases hx:X[i]<;>cases hy:Y[i]<;>simp_all
theorem ahq{w:World}{T N:Int}{ra:Option Addr}{rc:Nat}{R:List Ru}{op a b c:Int}(hr:aG w w.heap.size (.slice ra R.length rc) R)(hs:¬(a=0/\b=0/\c=0)):
 Calls Tryz.prog 139 #[.agg #[.int .i64 T,.int .i64 N,.slice ra R.length rc,.int .i64 op,.int .i64 a,.int .i64 b,.int .i64 c]] w λe w'=>e= .returned (.tuple #[.nilIface,.bool false])/\Below w.heap.size w w':=by
 have hK:=r9 (T:=T) (N:=N) (op:=op) (a:=a) (b:=b) (c:=c) hr;obtain⟨W0,hW0⟩:=af (w.alloc (.cells #[.int .i64 T,.int .i64 N,.slice ra R.length rc,.int .i64 op,.int .i64 a,.int .i64 b,.int .i64 c] 193));rw[hW0]at hK;have x4:=hK.x4;have x5:=hK.x5;have x6:=hK.x6;have HB:Hid (Below w.heap.size w W0):=hK.below;clear hK hr;by_cases ha:a=0
 ·subst ha
  by_cases hb:b=0
  ·subst hb
   have ec:(c==0)=false:=by
    have:c≠0:=λhc=>hs ⟨rfl,rfl,hc⟩;simpa using this
   clear hs
   go_enter Tryz.func139,Tryz.ntmps139
   go_wp2_with fail
   refine aH (v:= .tuple #[.nilIface,.bool false]) (by simp[results,Tryz.results139,go_sem]) rfl ?_;exact⟨rfl,HB.out⟩
  ·have eb:(b==0)=false:=by simpa using hb
   clear hs hb
   go_enter Tryz.func139,Tryz.ntmps139
   go_wp2_with fail
   refine aH (v:= .tuple #[.nilIface,.bool false]) (by simp[results,Tryz.results139,go_sem]) rfl ?_;exact⟨rfl,HB.out⟩
 ·have ea:(a !=0)=true:=by simpa using ha
  clear hs ha
  go_enter Tryz.func139,Tryz.ntmps139
  go_wp2_with fail
  refine aH (v:= .tuple #[.nilIface,.bool false]) (by simp[results,Tryz.results139,go_sem]) rfl ?_;exact⟨rfl,HB.out⟩
theorem ahr{w:World}{T N:Nat}{ra:Option Addr}{rc:Nat}{R:List Ru}{op:Int}(hr:aG w w.heap.size (.slice ra R.length rc) R)(hm:aJ T N R=true):
 Calls Tryz.prog 139 #[.agg #[.int .i64 T,.int .i64 N,.slice ra R.length rc,.int .i64 op,.int .i64 0,.int .i64 0,.int .i64 0]] w λe w'=> ∃ov,e= .returned (.tuple #[.iface 254 (.agg #[.int .i64 T,.int .i64 N,.slice ra R.length rc,.int .i64 op,.int .i64 0,.int .i64 0,.int .i64 0,ov]),.bool true])/\w'.ownsRow w.heap.size 3 1 ov (bL (λk=>uY N R (R.getD k (0,[]))) R.length).length (nG (bL (λk=>uY N R (R.getD k (0,[]))) R.length))/\Below w.heap.size w w':=by
 obtain⟨p,hp⟩:∃p:Nat->Bool,(λk=>uY N R (R.getD k (0,[])))=p:=⟨_,rfl⟩;rw[hp];have Lj:Hid (∀k,p k=uY N R (R.getD k (0,[]))):=λk=>by rw[<-hp]
 clear hp;have hf:=MO hm;obtain⟨hT,hN1,hN,hRl,h5⟩:=iD hm;have hK:=r9 (T:=T) (N:=N) (op:=op) (a:=0) (b:=0) (c:=0) hr;obtain⟨W0,hW0⟩:=af (w.alloc (.cells #[.int .i64 T,.int .i64 N,.slice ra R.length rc,.int .i64 op,.int .i64 0,.int .i64 0,.int .i64 0] 193));rw[hW0]at hK;have HK:Hid (iN w T N ra rc R op 0 0 0 W0):=hK;have x0:=hK.x0;have x1:=hK.x1;have x2:=hK.x2;have x4:=hK.x4;have x5:=hK.x5;have x6:=hK.x6;have mk:=ZA hK.all hm;have yD:Hid (aJ T N R=true):=hm;have MV:Hid (dD T N R):=hf
 have H5:Hid (∀q,q<R.length->(0<=(R.getD q (0,[])).1/\(R.getD q (0,[])).1<(N:Int))/\(R.getD q (0,[])).2.length<=1000/\∀j,j<(R.getD q (0,[])).2.length->((R.getD q (0,[])).2.getD j (false,0)).1=false->0<=((R.getD q (0,[])).2.getD j (false,0)).2/\((R.getD q (0,[])).2.getD j (false,0)).2<(N:Int)):=λq hq=>by
  obtain⟨h1,h2,h3,h4⟩:=h5 q hq;generalize (R.getD q (0,[])).2=l at h3 h4⊢;refine⟨⟨h1,h2⟩,by omega,λj hj ht=> ?_⟩
  have hmem:l.getD j (false,0)∈l:=by
   rw[show l.getD j (false,0)=l[j] by simp[List.getD,hj]];exact jO hj
  have:=h4 _ hmem;rw[ht]at this;simpa using this
 have ahs:R.length<=1000:=by omega
 clear hr hm hf h5 hT hN hRl hK
 go_enter Tryz.func139,Tryz.ntmps139
 go_wp2_with
  (first
   |(go_at_call 162;refine mk.mono ?_;rintro e w2 ⟨g1,Y1,rfl,hB2,Fp,hM1⟩
     have hB3:Below W0.heap.size W0 (w2.alloc (.cells #[.slice (some ⟨g1,0,none⟩) N N] 61)):=hB2.alloc hB2.size _;have hK3:=HK.out.next hB3;obtain⟨w3,hw3⟩:=af (w2.alloc (.cells #[.slice (some ⟨g1,0,none⟩) N N] 61));obtain⟨mb,hmb⟩:=af w2.heap.size;have Ro:Hid (w3.cell? ⟨w2.heap.size,0,none⟩=some (.slice (some ⟨g1,0,none⟩) N N)):=by show _=_;rw[<-hw3];exact aM (heap_alloc_new _ _) rfl
     rw[hw3]at hB3 hK3;have v0:=hK3.x0;have v1:=hK3.x1;have v2:=hK3.x2;have co:=ahp hK3.all yD.out;have Ch:Hid (iN w T N ra rc R op 0 0 0 w3):=hK3;have Ep:Hid (gY w3 (W0.heap.size+1) g1 N Y1):=by show gY _ _ _ _ _;rw[<-hw3];exact Fp.below ((ai _ _).alloc (ah _) _)
     have tJ:Hid (∀n,hasB Y1 n↔jA N R n):=hM1
     clear mk hB2 Fp hM1 hB3 hK3 hmb x0 x1 x2 x4 x5 x6)
   |(go_at_call 163;refine co.mono ?_;rintro e w4 ⟨g2,Y2,rfl,hB4,hY2,hM2⟩
     have hK4:=Ch.out.next hB4;have I6:Hid (iN w T N ra rc R op 0 0 0 w4):=hK4;have Rp:Hid (w4.cell? ⟨w2.heap.size,0,none⟩=some (.slice (some ⟨g1,0,none⟩) N N)):=(hB4.cell (aQ _ _ Ro.out)).trans Ro.out;have ZF:Hid (gY w4 (W0.heap.size+1) g1 N Y1):=Ep.out.below hB4;have ZG:Hid (gY w4 (w3.heap.size+1) g2 N Y2):=hY2;have kN:Hid (∀n,hasB Y2 n↔si N R n):=hM2;have t0:=hK4.x0;have t1:=hK4.x1;have t2:=hK4.x2;have t3:=hK4.x3;have t4:=hK4.x4;have t5:=hK4.x5;have t6:=hK4.x6;have t2':=(hK4.next ((ai _ _).alloc (ah _) (.cells #[.int .i64 T,.int .i64 N,.slice ra R.length rc,.int .i64 op,.int .i64 0,.int .i64 0,.int .i64 0,.slice none 0 0] 254))).x2
     clear co hB4 hY2 hM2 hK4 v0 v1 v2 hw3 Ro Ep hW0))
 have HP:Hid (∀k,p k=(Y1.getD (R.getD k (0,[])).1.toNat false&&Y2.getD (R.getD k (0,[])).1.toNat false&&fF Y1 (R.getD k (0,[])).2)):=λk=>by
  have e1:Y1=uX R N:=ZE ZF.out.len (Rf MV.out).1 tJ.out (Rf MV.out).2;have e2:Y2=Mt R N:=ZE ZG.out.len (Zk MV.out).1 kN.out (Zk MV.out).2;rw[Lj.out k,e1,e2];rfl
 obtain⟨mb,hmb⟩:=af w2.heap.size;rw[hmb]at Rp⊢;clear Lj hmb tJ kN yD t0 t1 t2 t3 t4 t5 t6 t2';obtain⟨pb,hpb⟩:=af w4.heap.size;have hs1:(w4.alloc (.cells #[.int .i64 T,.int .i64 N,.slice ra R.length rc,.int .i64 op,.int .i64 0,.int .i64 0,.int .i64 0,.slice none 0 0] 254)).heap[pb]?=some (.cells #[.int .i64 T,.int .i64 N,.slice ra R.length rc,.int .i64 op,.int .i64 0,.int .i64 0,.int .i64 0,.slice none 0 0] 254 (0,0)):=by rw[<-hpb];exact heap_alloc_new _ _
 have hs2:Below pb w4 (w4.alloc (.cells #[.int .i64 T,.int .i64 N,.slice ra R.length rc,.int .i64 op,.int .i64 0,.int .i64 0,.int .i64 0,.slice none 0 0] 254)):=by rw[<-hpb];exact(ai _ _).alloc (ah _) _
 have HS:Hid (pb=w4.heap.size):=hpb.symm;obtain⟨W1,hW1⟩:=af (w4.alloc (.cells #[.int .i64 T,.int .i64 N,.slice ra R.length rc,.int .i64 op,.int .i64 0,.int .i64 0,.int .i64 0,.slice none 0 0] 254));rw[hW1]at hs1 hs2⊢;rw[hpb];have uJ:Hid (W1.heap[pb]?=some (.cells #[.int .i64 T,.int .i64 N,.slice ra R.length rc,.int .i64 op,.int .i64 0,.int .i64 0,.int .i64 0,.slice none 0 0] 254 (0,0))/\Below pb w4 W1):=⟨hs1,hs2⟩;clear hW1 hpb hs1 hs2
 go_loopw [47] (λs47 wr=> ∃(k:Nat) (ov:Value),s47= .int .i64 k/\k<=R.length/\wr.heap[pb]?=some (.cells #[.int .i64 T,.int .i64 N,.slice ra R.length rc,.int .i64 op,.int .i64 0,.int .i64 0,.int .i64 0,ov] 254 (0,0))/\wr.ownsRow (pb+1) 3 1 ov (bL p k).length (nG (bL p k))/\Below pb w4 wr) (λs _=>R.length-(intOf s).toNat)
 case atStart=>exact⟨0,_,rfl,aP _,uJ.out.1,ji _ _ _ _,uJ.out.2⟩
 case round=>
  obtain⟨k,ov,rfl,hk,hbx,hO,hB⟩:=hrel;clear uJ;have ni:Hid (wr.heap[pb]?=some (.cells #[.int .i64 T,.int .i64 N,.slice ra R.length rc,.int .i64 op,.int .i64 0,.int .i64 0,.int .i64 0,ov] 254 (0,0))):=hbx;have HO:Hid (wr.ownsRow (pb+1) 3 1 ov (bL p k).length (nG (bL p k))):=hO;have HB:Hid (Below pb w4 wr):=hB;have hpl:pb<wr.heap.size:=(dx.1 hbx).1;have hB4:∀wq,Below pb w4 wq->Below w4.heap.size w4 wq:=λwq hq=>by rw[<-HS.out];exact hq
  have jm:Hid (∀wq,Below pb w4 wq->Below w4.heap.size w4 wq):=hB4;clear hB4;by_cases hlt:k<R.length
  ·obtain⟨b0,o0,uM,qa,qc,hv,_,k1,k2,hsy⟩:=(I6.out.next (jm.out wr hB)).rules.mR hlt
   cases hv;obtain⟨⟨hL0,hL1⟩,zR,MW⟩:=H5.out k hlt;have hpk:=HP.out k;have hsu:=Zm p k;have hln:=MK p k;obtain⟨⟨L,l⟩,hx⟩:=af (R.getD k (0,[]));rw[hx]at k1 k2 hsy hL0 hL1 zR MW hpk;simp only at k1 k2 hsy hL0 hL1 zR MW hpk;obtain⟨Ln,rfl⟩:∃q:Nat,L=q:=⟨L.toNat,by omega⟩;rw[Int.toNat_natCast]at hpk;obtain⟨W2,hW2⟩:=af (wr.alloc (.cells #[.int .i64 Ln,.slice qa l.length qc] 96));obtain⟨rb,hrb⟩:=af wr.heap.size;have hB2:Below wr.heap.size wr W2:=by rw[<-hW2];exact(ai _ _).alloc (ah _) _
   have r0:W2.cell? ⟨rb,0,none⟩=some (.int .i64 Ln):=by rw[<-hW2,<-hrb];exact aM (heap_alloc_new _ _) rfl
   have r1:W2.cell? ⟨rb,1,none⟩=some (.slice qa l.length qc):=by rw[<-hW2,<-hrb];exact aM (heap_alloc_new _ _) rfl
   have hB2':Below pb w4 W2:=hB.trans (hB2.mono (by omega));have dS:=jm.out W2 hB2';have m0:=(dS.cell (aQ _ _ Rp.out)).trans Rp.out;have hY:=ZF.out.below dS;have hZ:=ZG.out.below dS;have c1:=(hY.cell (m:=Ln) (by omega)).1;have c2:=(hZ.cell (m:=Ln) (by omega)).1;have cf:=ag8 (w:=W2) (hsy.same (ko hB2)) zR m0 hY MW;obtain⟨y1,hy1⟩:=af (Y1.getD Ln false);obtain⟨y2,hy2⟩:=af (Y2.getD Ln false);obtain⟨y3,hy3⟩:=af (fF Y1 l);rw[hy1]at c1 hpk;rw[hy2]at c2 hpk;rw[hy3]at cf hpk;rw[hpk]at hsu;have jd:Hid (Below wr.heap.size wr W2/\Below pb w4 W2/\pb<wr.heap.size):=⟨hB2,hB2',hpl⟩;have i0:(0:Int)<=(k:Int):=aF _;have i1:(k:Int)<(R.length:Int):=by omega
   have j0:(0:Int)<=(Ln:Int):=aF _;have EY:Hid (bL p (k+1)=bL p k++(if (y1&&y2&&y3)=true then [k] else [])):=hsu
   have keep:∀w5,Below W2.heap.size W2 w5->(y1&&y2&&y3)=false->∃(k':Nat) (aL:Value),Value.int .i64 ((k:Int)+1)= .int .i64 k'/\k'<=R.length/\w5.heap[pb]?=some (.cells #[.int .i64 T,.int .i64 N,.slice (some ⟨b0,o0,none⟩) R.length rc,.int .i64 op,.int .i64 0,.int .i64 0,.int .i64 0,aL] 254 (0,0))/\w5.ownsRow (pb+1) 3 1 aL (bL p k').length (nG (bL p k'))/\Below pb w4 w5:=λw5 aD hn=>by
    have hBw:Below wr.heap.size wr w5:=jd.out.1.trans (aD.mono jd.out.1.size);refine⟨k+1,ov,by push_cast;rfl,by omega,(hBw.block _ jd.out.2.2).trans ni.out,?_,HB.out.trans (hBw.mono (iQ jd.out.2.2))⟩;rw[EY.out,hn];simpa using own_below HO.out hBw λg hg=>(HO.out.lt g hg).2
   have rO:Hid (∀w5,Below W2.heap.size W2 w5->(y1&&y2&&y3)=false->∃(k':Nat) (aL:Value),Value.int .i64 ((k:Int)+1)= .int .i64 k'/\k'<=R.length/\w5.heap[pb]?=some (.cells #[.int .i64 T,.int .i64 N,.slice (some ⟨b0,o0,none⟩) R.length rc,.int .i64 op,.int .i64 0,.int .i64 0,.int .i64 0,aL] 254 (0,0))/\w5.ownsRow (pb+1) 3 1 aL (bL p k').length (nG (bL p k'))/\Below pb w4 w5):=keep;clear hx hB2 hB2' dS hY hZ hy1 hy2 hy3 hpk hsu hsy MW hB hO hbx keep hpl;cases y1 with
   |false=>
    go_wp2_with fail
    go_roundw
    case rel=>first|exact rO.out _ (ai _ _) rfl|(obtain⟨k',aL,h⟩:=rO.out _ (ai _ _) rfl;exact⟨k',aL,by rw[<-h.1];go_num,h.2⟩)
    case measure=>simp[intOf];omega
   |true=>
    cases y2 with
    |false=>
     go_wp2_with fail
     go_roundw
     case rel=>first|exact rO.out _ (ai _ _) rfl|(obtain⟨k',aL,h⟩:=rO.out _ (ai _ _) rfl;exact⟨k',aL,by rw[<-h.1];go_num,h.2⟩)
     case measure=>simp[intOf];omega
    |true=>
     cases y3 with
     |false=>
      go_wp2_with (go_at_call 165;refine cf.mono ?_;rintro e w5 ⟨rfl,aD⟩;clear cf)
      go_roundw
      case rel=>first|exact rO.out _ aD rfl|(obtain⟨k',aL,h⟩:=rO.out _ aD rfl;exact⟨k',aL,by rw[<-h.1];go_num,h.2⟩)
      case measure=>simp[intOf];omega
     |true=>
      obtain⟨oa,oc,hov⟩:=cO HO.out;obtain⟨q,hq⟩:=af ((bL p k).length);rw[hq]at hov hln;have n1:q+1<=maxLen:=by unfold maxLen;omega
      have n2:(q+1)*8<=140737488355328:=by omega
      have HX:Hid (bL p (k+1)=bL p k++[k]/\(bL p k).length=q/\ov= .slice oa q oc):=⟨by simpa using EY.out,hq,hov⟩;obtain⟨vQ,hi0,hz0,hz1,hz2⟩:=fK Tryz.infoIn8;clear hov hq
      go_wp2_with
       (first
        |(go_at_call 165;refine cf.mono ?_;rintro e w5 ⟨rfl,aD⟩;clear cf
          have hBw:Below wr.heap.size wr w5:=jd.out.1.trans (aD.mono jd.out.1.size);have lF:Hid (Below wr.heap.size wr w5):=hBw;have ZH:=(hBw.block _ jd.out.2.2).trans ni.out;have g7:w5.cell? ⟨pb,7,none⟩=some (.slice oa q oc):=by rw[<-HX.out.2.2];exact aM ZH rfl
          have bV:=(own_below HO.out hBw λg hg=>(HO.out.lt g hg).2).alloc (.cells #[.int .i64 k] 3);rw[HX.out.2.1,HX.out.2.2]at bV;have ku:=jh (cs:= #[.int .i64 k]) (t:=3) (fr:=(0,0)) (heap_alloc_new w5 (.cells #[.int .i64 k] 3))
          have hb5:pb+1<=(w5.alloc (.cells #[.int .i64 k] 3)).heap.size:=by
           have:=hBw.size;have:=jd.out.2.2;simp;omega
          clear hBw ZH aD)
        |(at_builtin
          refine ow _ rfl _ _ _ rfl (pb+1) 3 vQ _ 1 8 Tryz.underlying39 hi0 hz0 hz1 hz2 rfl (by omega) (.slice oa q oc) q (nG (bL p k)) rfl bV ⟨w5.heap.size,0,none⟩ 1 1 [.int .i64 k] rfl rfl ku (by simp[Value.oneCell']) (by omega) n1 n2 hb5 _ rfl ?_;intro g6 cap6 w6 hown6 fP oL vN;have bC:Below (pb+1) w5 w6:=((ai _ _).alloc (aZ jd.out.2.2 lF.out.size) _).grown fP hb5 λj hj=>(bV.lt j hj).1;have MX:=(bC.block pb (by omega)).trans ((lF.out.block _ jd.out.2.2).trans ni.out);have g6c:w6.cell? ⟨pb,7,none⟩=some ov:=aM MX rfl;have g6f:w6.frozen? ⟨pb,7,none⟩=false:=Q7 MX;have wH:Hid (Below (pb+1) w5 w6):=bC;have ZI:Hid (w6.heap[pb]?=some (.cells #[.int .i64 T,.int .i64 N,.slice (some ⟨b0,o0,none⟩) R.length rc,.int .i64 op,.int .i64 0,.int .i64 0,.int .i64 0,ov] 254 (0,0))):=MX
          clear bC MX))
      go_roundw
      case rel=>
       have ajq:pb<w6.heap.size:=(dx.1 ZI.out).1;refine⟨k+1,.slice (some ⟨g6,0,none⟩) (q+1) cap6,by go_num,by omega,?_,?_,?_⟩
       ·have:=heap_setCell_same w6 pb 7 _ 254 (.slice (some ⟨g6,0,none⟩) (q+1) cap6) ZI.out
        simpa using this
       ·rw[HX.out.1,aS,HX.out.2.1]
        refine E9 ?_ (by simp) _;unfold nG at hown6⊢;rw[fD];exact hown6
       ·have h5:Below pb w4 w5:=HB.out.trans (lF.out.mono (iQ jd.out.2.2))
        exact(h5.trans (wH.out.mono (by omega))).setCell (by simp) _
      case measure=>simp[intOf];omega
  ·have hkk:k=R.length:=by omega
   obtain⟨oa,oc,hov⟩:=cO hO;subst hov;have g0:wr.cell? ⟨pb,0,none⟩=some (.int .i64 T):=aM hbx rfl;have g1':wr.cell? ⟨pb,1,none⟩=some (.int .i64 N):=aM hbx rfl;have g2':wr.cell? ⟨pb,2,none⟩=some (.slice ra R.length rc):=aM hbx rfl;have g3:wr.cell? ⟨pb,3,none⟩=some (.int .i64 op):=aM hbx rfl;have g4:wr.cell? ⟨pb,4,none⟩=some (.int .i64 0):=aM hbx rfl;have g5:wr.cell? ⟨pb,5,none⟩=some (.int .i64 0):=aM hbx rfl;have g6:wr.cell? ⟨pb,6,none⟩=some (.int .i64 0):=aM hbx rfl;have g7:wr.cell? ⟨pb,7,none⟩=some (.slice oa (bL p k).length oc):=aM hbx rfl;have oP:Hid (Below w.heap.size w wr):=(I6.out.next (jm.out wr hB)).below;have HL:Hid (wr.ownsRow w.heap.size 3 1 (.slice oa (bL p k).length oc) (bL p k).length (nG (bL p k))/\k=R.length):=⟨lq hO (by have:=I6.out.below.size;have:=HS.out;omega),hkk⟩;obtain⟨q,hq⟩:=af ((bL p k).length);have HQ:Hid ((bL p k).length=q):=hq;rw[hq]at g7;clear hbx hO hB hkk hpl
   go_wp2_with fail
   refine aH (v:= .tuple #[.iface 254 (.agg #[.int .i64 T,.int .i64 N,.slice ra R.length rc,.int .i64 op,.int .i64 0,.int .i64 0,.int .i64 0,.slice oa q oc]),.bool true]) (by simp[results,Tryz.results139,go_sem]) rfl ?_;have h:=HL.out.1;rw[HQ.out]at h;rw[<-HQ.out,HL.out.2]at h;refine⟨_,rfl,?_,oP.out⟩;rw[<-HQ.out,HL.out.2];exact h
def BH(R:List Ru)(s:Stp):Ru:=R.getD s.a.toNat (0,[])
def Jp(R:List Ru)(s:Stp):List Nat:=bL (λk=>decide ((R.getD k (0,[])).1=((BH R s).2.getD s.b.toNat (false,0)).2)) R.length
structure iU(w:World)(B:Nat)(T N:Nat)(ra:Option Addr)(rc:Nat)(R:List Ru)(s:Stp)(cv:Value):Prop where
 swap:s.op=1->cv= .iface 242 (.agg #[.int .i64 T,.int .i64 N,.slice ra R.length rc,.int .i64 s.op,.int .i64 s.a,.int .i64 s.b,.int .i64 s.c])
 extract:s.op=2->cv= .iface 245 (.agg #[.int .i64 T,.int .i64 N,.slice ra R.length rc,.int .i64 s.op,.int .i64 s.a,.int .i64 s.b,.int .i64 s.c,.int .i64 (jU ((BH R s).2.take s.b.toNat)).length,.int .i64 (jU ((BH R s).2.take s.c.toNat)).length])
 inline:s.op=3->∃ov,cv= .iface 248 (.agg #[.int .i64 T,.int .i64 N,.slice ra R.length rc,.int .i64 s.op,.int .i64 s.a,.int .i64 s.b,.int .i64 s.c,ov,.int .i64 (jU ((BH R s).2.take s.b.toNat)).length])/\w.ownsRow B 3 1 ov (Jp R s).length (nG (Jp R s))
 left:s.op=4->cv= .iface 249 (.agg #[.int .i64 T,.int .i64 N,.slice ra R.length rc,.int .i64 s.op,.int .i64 s.a,.int .i64 s.b,.int .i64 s.c])
 MZ:s.op=5->∃ov,cv= .iface 254 (.agg #[.int .i64 T,.int .i64 N,.slice ra R.length rc,.int .i64 s.op,.int .i64 s.a,.int .i64 s.b,.int .i64 s.c,ov])/\w.ownsRow B 3 1 ov (bL (λk=>uY N R (R.getD k (0,[]))) R.length).length (nG (bL (λk=>uY N R (R.getD k (0,[]))) R.length))
theorem iU.next{w w':World}{B T N:Nat}{ra:Option Addr}{rc:Nat}{R:List Ru}{s:Stp}{cv:Value}(h:iU w B T N ra rc R s cv)(hb:Below w.heap.size w w'):iU w' B T N ra rc R s cv:=
 ⟨h.swap,h.extract,λe=>let ⟨ov,h1,h2⟩:=h.inline e;⟨ov,h1,own_below h2 hb λg hg=>(h2.lt g hg).2⟩,h.left,λe=>let ⟨ov,h1,h2⟩:=h.MZ e;⟨ov,h1,own_below h2 hb λg hg=>(h2.lt g hg).2⟩⟩
theorem iU.set{w:World}{B T N:Nat}{ra:Option Addr}{rc:Nat}{R:List Ru}{s:Stp}{cv:Value}(h:iU w B T N ra rc R s cv){a:Addr}(ha:a.block<B)(u:Value):iU (w.setCell a u) B T N ra rc R s cv:=
 ⟨h.swap,h.extract,λe=>let ⟨ov,h1,h2⟩:=h.inline e;⟨ov,h1,E9 h2 ha u⟩,h.left,λe=>let ⟨ov,h1,h2⟩:=h.MZ e;⟨ov,h1,E9 h2 ha u⟩⟩
theorem iU.mono{w:World}{B B' T N:Nat}{ra:Option Addr}{rc:Nat}{R:List Ru}{s:Stp}{cv:Value}(h:iU w B T N ra rc R s cv)(hB:B'<=B):iU w B' T N ra rc R s cv:=
 ⟨h.swap,h.extract,λe=>let ⟨ov,h1,h2⟩:=h.inline e;⟨ov,h1,lq h2 hB⟩,h.left,λe=>let ⟨ov,h1,h2⟩:=h.MZ e;⟨ov,h1,lq h2 hB⟩⟩
section
variable{w:World}{T N:Nat}{ra:Option Addr}{rc:Nat}{R:List Ru}
theorem aht(hr:aG w w.heap.size (.slice ra R.length rc) R){a b c:Int}:Calls Tryz.prog 135 #[.agg #[.int .i64 T,.int .i64 N,.slice ra R.length rc,.int .i64 1,.int .i64 a,.int .i64 b,.int .i64 c]] w λe w'=> ∃cv,e= .returned (.tuple #[cv,.bool (bK N R ⟨1,a,b,c⟩)])/\(bK N R ⟨1,a,b,c⟩=true->iU w' w.heap.size T N ra rc R ⟨1,a,b,c⟩ cv)/\Below w.heap.size w w':=by
 have _:=hr;refine agU.mono ?_;rintro e w' ⟨rfl,hB⟩
 have hE:(decide (0<a)&&decide (a<(N:Int))&&(decide (0<b)&&decide (b<(N:Int)))&&decide (c=0))=bK N R ⟨1,a,b,c⟩:=by
  unfold bK;simp only;rw[au trivial];have e1:decide (0<a)=decide (1<=a):=by rw[Dz];omega
  have e2:decide (0<b)=decide (1<=b):=by rw[Dz];omega
  rw[e1,e2];simp only[Bool.and_assoc]
 refine⟨_,by rw[hE],λ_=>⟨λ_=>rfl,λh=>absurd h (by simp),λh=>absurd h (by simp),λh=>absurd h (by simp),λh=>absurd h (by simp)⟩,hB⟩
theorem ahu(hr:aG w w.heap.size (.slice ra R.length rc) R)(hm:aJ T N R=true){a b c:Int}:Calls Tryz.prog 136 #[.agg #[.int .i64 T,.int .i64 N,.slice ra R.length rc,.int .i64 2,.int .i64 a,.int .i64 b,.int .i64 c]] w λe w'=> ∃cv,e= .returned (.tuple #[cv,.bool (bK N R ⟨2,a,b,c⟩)])/\(bK N R ⟨2,a,b,c⟩=true->iU w' w.heap.size T N ra rc R ⟨2,a,b,c⟩ cv)/\Below w.heap.size w w':=by
 obtain⟨_,_,_,hRl,h5⟩:=iD hm
 have hst:bK N R ⟨2,a,b,c⟩=true↔(0<=a/\a<(R.length:Int)/\0<=b/\b<c/\c<=((R.getD a.toNat (0,[])).2.length:Int)):=by
  unfold bK;simp only;rw[aj (by decide),au trivial];simp only[bG,bX];constructor
  ·rintro ⟨⟨⟨⟨h1,h2⟩,h3⟩,h4⟩,h5⟩;exact⟨h1,h2,h3,h4,h5⟩
  ·rintro ⟨h1,h2,h3,h4,h5⟩;exact⟨⟨⟨⟨h1,h2⟩,h3⟩,h4⟩,h5⟩
 cases hB:bK N R ⟨2,a,b,c⟩ with
 |false=>
  refine(agW hr λh=> ?_).mono ?_
  ·rw[hst.2 h]at hB;cases hB
  ·rintro e w' ⟨rfl,hB'⟩
   exact⟨_,rfl,λh=>absurd h (by simp),hB'⟩
 |true=>
  obtain⟨h1,h2,h3,h4,h6⟩:=hst.1 hB;obtain⟨ka,rfl⟩:∃x:Nat,a=x:=⟨a.toNat,by omega⟩;obtain⟨bn,rfl⟩:∃x:Nat,b=x:=⟨b.toNat,by omega⟩;obtain⟨cn,rfl⟩:∃x:Nat,c=x:=⟨c.toNat,by omega⟩;simp only[Int.toNat_natCast]at h6;obtain⟨⟨L,l⟩,hx⟩:=af (R.getD ka (0,[]));have h8:=(h5 ka (by omega)).2.2.1;rw[hx]at h6 h8;simp only at h6 h8;refine(agX (m:=l.length-cn) hr (by omega) hx (by omega) (by omega) (by omega)).mono ?_;rintro e w' ⟨rfl,hB'⟩;refine⟨_,rfl,λ_=>⟨λh=>absurd h (by simp),λ_=> ?_,λh=>absurd h (by simp),λh=>absurd h (by simp),λh=>absurd h (by simp)⟩,hB'⟩;unfold BH;simp only[Int.toNat_natCast,hx]
theorem ahv(hr:aG w w.heap.size (.slice ra R.length rc) R)(hm:aJ T N R=true){a b c:Int}:Calls Tryz.prog 137 #[.agg #[.int .i64 T,.int .i64 N,.slice ra R.length rc,.int .i64 3,.int .i64 a,.int .i64 b,.int .i64 c]] w λe w'=> ∃cv,e= .returned (.tuple #[cv,.bool (bK N R ⟨3,a,b,c⟩)])/\(bK N R ⟨3,a,b,c⟩=true->iU w' w.heap.size T N ra rc R ⟨3,a,b,c⟩ cv)/\Below w.heap.size w w':=by
 obtain⟨_,_,_,hRl,h5⟩:=iD hm
 have hst:bK N R ⟨3,a,b,c⟩=true↔(0<=a/\a<(R.length:Int)/\0<=b/\b<((R.getD a.toNat (0,[])).2.length:Int)/\c=0/\((R.getD a.toNat (0,[])).2.getD b.toNat (false,0)).1=false/\((R.getD a.toNat (0,[])).2.getD b.toNat (false,0)).2≠(R.getD a.toNat (0,[])).1):=by
  unfold bK;simp only;rw[aj (by decide),aj (by decide),au trivial];simp only[bG,bX,FE,decide_eq_false_iff_not];constructor
  ·rintro ⟨⟨⟨⟨⟨⟨h1,h2⟩,h3⟩,h4⟩,h5⟩,h6⟩,h7⟩;exact⟨h1,h2,h3,h4,h5,h6,h7⟩
  ·rintro ⟨h1,h2,h3,h4,h5,h6,h7⟩;exact⟨⟨⟨⟨⟨⟨h1,h2⟩,h3⟩,h4⟩,h5⟩,h6⟩,h7⟩
 cases hB:bK N R ⟨3,a,b,c⟩ with
 |false=>
  refine(ag4 hr λh=> ?_).mono ?_
  ·rw[hst.2 h]at hB;cases hB
  ·rintro e w' ⟨rfl,hB'⟩
   exact⟨_,rfl,λh=>absurd h (by simp),hB'⟩
 |true=>
  obtain⟨h1,h2,h3,h4,h6,h7,h9⟩:=hst.1 hB;subst h6;obtain⟨ka,rfl⟩:∃x:Nat,a=x:=⟨a.toNat,by omega⟩;obtain⟨bn,rfl⟩:∃x:Nat,b=x:=⟨b.toNat,by omega⟩;simp only[Int.toNat_natCast]at h4 h7 h9;obtain⟨⟨L,l⟩,hx⟩:=af (R.getD ka (0,[]));have h8:=(h5 ka (by omega)).2.2.1;rw[hx]at h4 h7 h8 h9;simp only at h4 h7 h8 h9;obtain⟨⟨t,X⟩,hX⟩:=af (l.getD bn (false,0));rw[hX]at h7 h9;simp only at h7 h9;subst h7;refine(ag5 (m:=l.length-(bn+1)) hr (by omega) (by omega) hx (by omega) (by omega) hX h9).mono ?_;rintro e w' ⟨ov,rfl,hL,hB'⟩;refine⟨_,rfl,λ_=>⟨λh=>absurd h (by simp),λh=>absurd h (by simp),λ_=>⟨ov,?_,?_⟩,λh=>absurd h (by simp),λh=>absurd h (by simp)⟩,hB'⟩
  ·unfold BH
   simp only[Int.toNat_natCast,hx]
  ·unfold Jp BH
   simp only[Int.toNat_natCast,hx,hX];exact hL
theorem ahw(hr:aG w w.heap.size (.slice ra R.length rc) R)(hm:aJ T N R=true){a b c:Int}:Calls Tryz.prog 138 #[.agg #[.int .i64 T,.int .i64 N,.slice ra R.length rc,.int .i64 4,.int .i64 a,.int .i64 b,.int .i64 c]] w λe w'=> ∃cv,e= .returned (.tuple #[cv,.bool (bK N R ⟨4,a,b,c⟩)])/\(bK N R ⟨4,a,b,c⟩=true->iU w' w.heap.size T N ra rc R ⟨4,a,b,c⟩ cv)/\Below w.heap.size w w':=by
 obtain⟨_,_,_,hRl,h5⟩:=iD hm
 have hst:bK N R ⟨4,a,b,c⟩=(decide (b=0)&&decide (c=0)&&uj R a):=by
  unfold bK;simp only;rw[aj (by decide),aj (by decide),aj (by decide),au trivial]
 have hin:uj R a=true->0<=a/\a<(N:Int):=λh=>by
  unfold uj at h;simp only[bG,List.any_eq_true]at h;obtain⟨⟨r,hrm,ho⟩,_⟩:=h;unfold kT at ho;simp only[bG,bX]at ho;have:=(MO hm).left r hrm;rw[ho.1]at this;exact this
 by_cases hg:0<=a/\a<(N:Int)/\b=0/\c=0
 ·obtain⟨h1,h2,rfl,rfl⟩:=hg
  have e:bK N R ⟨4,a,0,0⟩=uj R a:=by rw[hst];rfl
  rw[e];refine(ag1 hr (by omega) ⟨h1,h2⟩).mono ?_;rintro e w' ⟨cv,rfl,hc,hB'⟩;exact⟨cv,rfl,λh=>⟨λh=>absurd h (by simp),λh=>absurd h (by simp),λh=>absurd h (by simp),λ_=>hc h,λh=>absurd h (by simp)⟩,hB'⟩
 ·have e:bK N R ⟨4,a,b,c⟩=false:=by
   cases h:bK N R ⟨4,a,b,c⟩ with
   |false=>rfl
   |true=>
    rw[hst]at h;simp only[bG,bX]at h;have:=hin h.2;exact absurd ⟨this.1,this.2,h.1.1,h.1.2⟩ hg
  rw[e];refine(ag0 hr hg).mono ?_;rintro e w' ⟨rfl,hB'⟩;exact⟨_,rfl,λh=>absurd h (by simp),hB'⟩
theorem ahx(hr:aG w w.heap.size (.slice ra R.length rc) R)(hm:aJ T N R=true){a b c:Int}:Calls Tryz.prog 139 #[.agg #[.int .i64 T,.int .i64 N,.slice ra R.length rc,.int .i64 5,.int .i64 a,.int .i64 b,.int .i64 c]] w λe w'=> ∃cv,e= .returned (.tuple #[cv,.bool (bK N R ⟨5,a,b,c⟩)])/\(bK N R ⟨5,a,b,c⟩=true->iU w' w.heap.size T N ra rc R ⟨5,a,b,c⟩ cv)/\Below w.heap.size w w':=by
 have hst:bK N R ⟨5,a,b,c⟩=(decide (a=0)&&decide (b=0)&&decide (c=0)):=by
  unfold bK;simp only;rw[aj (by decide),aj (by decide),aj (by decide),aj (by decide),au trivial]
 by_cases hg:a=0/\b=0/\c=0
 ·obtain⟨rfl,rfl,rfl⟩:=hg
  have e:bK N R ⟨5,0,0,0⟩=true:=by rw[hst];rfl
  rw[e];refine(ahr hr hm).mono ?_;rintro e w' ⟨ov,rfl,hL,hB'⟩;exact⟨_,rfl,λ_=>⟨λh=>absurd h (by simp),λh=>absurd h (by simp),λh=>absurd h (by simp),λh=>absurd h (by simp),λ_=>⟨ov,rfl,hL⟩⟩,hB'⟩
 ·have e:bK N R ⟨5,a,b,c⟩=false:=by
   cases h:bK N R ⟨5,a,b,c⟩ with
   |false=>rfl
   |true=>
    rw[hst]at h;simp only[bG,bX]at h;exact absurd ⟨h.1.1,h.1.2,h.2⟩ hg
  rw[e];refine(ahq hr hg).mono ?_;rintro e w' ⟨rfl,hB'⟩;exact⟨_,rfl,λh=>absurd h (by simp),hB'⟩
theorem ahy(hr:aG w w.heap.size (.slice ra R.length rc) R)(hm:aJ T N R=true){a b c:Int}:Calls Tryz.prog 104 #[.agg #[.int .i64 T,.int .i64 N,.slice ra R.length rc,.int .i64 1,.int .i64 a,.int .i64 b,.int .i64 c]] w λe w'=> ∃cv,e= .returned (.tuple #[cv,.bool (bK N R ⟨1,a,b,c⟩)])/\(bK N R ⟨1,a,b,c⟩=true->iU w' w.heap.size T N ra rc R ⟨1,a,b,c⟩ cv)/\Below w.heap.size w w':=by
 have _:=hm;have hK:=r9 (T:=T) (N:=N) (op:=1) (a:=a) (b:=b) (c:=c) hr;obtain⟨W0,hW0⟩:=af (w.alloc (.cells #[.int .i64 T,.int .i64 N,.slice ra R.length rc,.int .i64 1,.int .i64 a,.int .i64 b,.int .i64 c] 193));rw[hW0]at hK;have x0:=hK.x0;have x1:=hK.x1;have x2:=hK.x2;have x3:=hK.x3;have x4:=hK.x4;have x5:=hK.x5;have x6:=hK.x6;have HB:Hid (Below w.heap.size w W0):=hK.below;have cc:=aht (T:=T) (N:=N) (a:=a) (b:=b) (c:=c) hK.all;obtain⟨z,hz⟩:=af (bK N R ⟨1,a,b,c⟩);rw[hz]at cc⊢;clear hK hr hm hz
 go_enter Tryz.func104,Tryz.ntmps104
 go_wp2_with (go_at_call 135;refine cc.mono ?_;rintro e w2 ⟨cv,rfl,hcv,hB2⟩;clear cc)
 refine aH (v:= .tuple #[cv,.bool z]) (by simp[results,Tryz.results104,go_sem]) rfl ?_;exact⟨cv,rfl,λh=>(hcv h).mono HB.out.size,HB.out.trans (hB2.mono HB.out.size)⟩
theorem ahz(hr:aG w w.heap.size (.slice ra R.length rc) R)(hm:aJ T N R=true){a b c:Int}:Calls Tryz.prog 104 #[.agg #[.int .i64 T,.int .i64 N,.slice ra R.length rc,.int .i64 2,.int .i64 a,.int .i64 b,.int .i64 c]] w λe w'=> ∃cv,e= .returned (.tuple #[cv,.bool (bK N R ⟨2,a,b,c⟩)])/\(bK N R ⟨2,a,b,c⟩=true->iU w' w.heap.size T N ra rc R ⟨2,a,b,c⟩ cv)/\Below w.heap.size w w':=by
 have _:=hm;have hK:=r9 (T:=T) (N:=N) (op:=2) (a:=a) (b:=b) (c:=c) hr;obtain⟨W0,hW0⟩:=af (w.alloc (.cells #[.int .i64 T,.int .i64 N,.slice ra R.length rc,.int .i64 2,.int .i64 a,.int .i64 b,.int .i64 c] 193));rw[hW0]at hK;have x0:=hK.x0;have x1:=hK.x1;have x2:=hK.x2;have x3:=hK.x3;have x4:=hK.x4;have x5:=hK.x5;have x6:=hK.x6;have HB:Hid (Below w.heap.size w W0):=hK.below;have cc:=ahu (T:=T) (N:=N) (a:=a) (b:=b) (c:=c) hK.all hm;obtain⟨z,hz⟩:=af (bK N R ⟨2,a,b,c⟩);rw[hz]at cc⊢;clear hK hr hm hz
 go_enter Tryz.func104,Tryz.ntmps104
 go_wp2_with (go_at_call 136;refine cc.mono ?_;rintro e w2 ⟨cv,rfl,hcv,hB2⟩;clear cc)
 refine aH (v:= .tuple #[cv,.bool z]) (by simp[results,Tryz.results104,go_sem]) rfl ?_;exact⟨cv,rfl,λh=>(hcv h).mono HB.out.size,HB.out.trans (hB2.mono HB.out.size)⟩
theorem ahA(hr:aG w w.heap.size (.slice ra R.length rc) R)(hm:aJ T N R=true){a b c:Int}:Calls Tryz.prog 104 #[.agg #[.int .i64 T,.int .i64 N,.slice ra R.length rc,.int .i64 3,.int .i64 a,.int .i64 b,.int .i64 c]] w λe w'=> ∃cv,e= .returned (.tuple #[cv,.bool (bK N R ⟨3,a,b,c⟩)])/\(bK N R ⟨3,a,b,c⟩=true->iU w' w.heap.size T N ra rc R ⟨3,a,b,c⟩ cv)/\Below w.heap.size w w':=by
 have _:=hm;have hK:=r9 (T:=T) (N:=N) (op:=3) (a:=a) (b:=b) (c:=c) hr;obtain⟨W0,hW0⟩:=af (w.alloc (.cells #[.int .i64 T,.int .i64 N,.slice ra R.length rc,.int .i64 3,.int .i64 a,.int .i64 b,.int .i64 c] 193));rw[hW0]at hK;have x0:=hK.x0;have x1:=hK.x1;have x2:=hK.x2;have x3:=hK.x3;have x4:=hK.x4;have x5:=hK.x5;have x6:=hK.x6;have HB:Hid (Below w.heap.size w W0):=hK.below;have cc:=ahv (T:=T) (N:=N) (a:=a) (b:=b) (c:=c) hK.all hm;obtain⟨z,hz⟩:=af (bK N R ⟨3,a,b,c⟩);rw[hz]at cc⊢;clear hK hr hm hz
 go_enter Tryz.func104,Tryz.ntmps104
 go_wp2_with (go_at_call 137;refine cc.mono ?_;rintro e w2 ⟨cv,rfl,hcv,hB2⟩;clear cc)
 refine aH (v:= .tuple #[cv,.bool z]) (by simp[results,Tryz.results104,go_sem]) rfl ?_;exact⟨cv,rfl,λh=>(hcv h).mono HB.out.size,HB.out.trans (hB2.mono HB.out.size)⟩
theorem ahB(hr:aG w w.heap.size (.slice ra R.length rc) R)(hm:aJ T N R=true){a b c:Int}:Calls Tryz.prog 104 #[.agg #[.int .i64 T,.int .i64 N,.slice ra R.length rc,.int .i64 4,.int .i64 a,.int .i64 b,.int .i64 c]] w λe w'=> ∃cv,e= .returned (.tuple #[cv,.bool (bK N R ⟨4,a,b,c⟩)])/\(bK N R ⟨4,a,b,c⟩=true->iU w' w.heap.size T N ra rc R ⟨4,a,b,c⟩ cv)/\Below w.heap.size w w':=by
 have _:=hm;have hK:=r9 (T:=T) (N:=N) (op:=4) (a:=a) (b:=b) (c:=c) hr;obtain⟨W0,hW0⟩:=af (w.alloc (.cells #[.int .i64 T,.int .i64 N,.slice ra R.length rc,.int .i64 4,.int .i64 a,.int .i64 b,.int .i64 c] 193));rw[hW0]at hK;have x0:=hK.x0;have x1:=hK.x1;have x2:=hK.x2;have x3:=hK.x3;have x4:=hK.x4;have x5:=hK.x5;have x6:=hK.x6;have HB:Hid (Below w.heap.size w W0):=hK.below;have cc:=ahw (T:=T) (N:=N) (a:=a) (b:=b) (c:=c) hK.all hm;obtain⟨z,hz⟩:=af (bK N R ⟨4,a,b,c⟩);rw[hz]at cc⊢;clear hK hr hm hz
 go_enter Tryz.func104,Tryz.ntmps104
 go_wp2_with (go_at_call 138;refine cc.mono ?_;rintro e w2 ⟨cv,rfl,hcv,hB2⟩;clear cc)
 refine aH (v:= .tuple #[cv,.bool z]) (by simp[results,Tryz.results104,go_sem]) rfl ?_;exact⟨cv,rfl,λh=>(hcv h).mono HB.out.size,HB.out.trans (hB2.mono HB.out.size)⟩
theorem ahC(hr:aG w w.heap.size (.slice ra R.length rc) R)(hm:aJ T N R=true){a b c:Int}:Calls Tryz.prog 104 #[.agg #[.int .i64 T,.int .i64 N,.slice ra R.length rc,.int .i64 5,.int .i64 a,.int .i64 b,.int .i64 c]] w λe w'=> ∃cv,e= .returned (.tuple #[cv,.bool (bK N R ⟨5,a,b,c⟩)])/\(bK N R ⟨5,a,b,c⟩=true->iU w' w.heap.size T N ra rc R ⟨5,a,b,c⟩ cv)/\Below w.heap.size w w':=by
 have _:=hm;have hK:=r9 (T:=T) (N:=N) (op:=5) (a:=a) (b:=b) (c:=c) hr;obtain⟨W0,hW0⟩:=af (w.alloc (.cells #[.int .i64 T,.int .i64 N,.slice ra R.length rc,.int .i64 5,.int .i64 a,.int .i64 b,.int .i64 c] 193));rw[hW0]at hK;have x0:=hK.x0;have x1:=hK.x1;have x2:=hK.x2;have x3:=hK.x3;have x4:=hK.x4;have x5:=hK.x5;have x6:=hK.x6;have HB:Hid (Below w.heap.size w W0):=hK.below;have cc:=ahx (T:=T) (N:=N) (a:=a) (b:=b) (c:=c) hK.all hm;obtain⟨z,hz⟩:=af (bK N R ⟨5,a,b,c⟩);rw[hz]at cc⊢;clear hK hr hm hz
 go_enter Tryz.func104,Tryz.ntmps104
 go_wp2_with (go_at_call 139;refine cc.mono ?_;rintro e w2 ⟨cv,rfl,hcv,hB2⟩;clear cc)
 refine aH (v:= .tuple #[cv,.bool z]) (by simp[results,Tryz.results104,go_sem]) rfl ?_;exact⟨cv,rfl,λh=>(hcv h).mono HB.out.size,HB.out.trans (hB2.mono HB.out.size)⟩
theorem ahD(hr:aG w w.heap.size (.slice ra R.length rc) R){op a b c:Int}(h1:op≠1)(h2:op≠2)(h3:op≠3)(h4:op≠4)(h5:op≠5):Calls Tryz.prog 104 #[.agg #[.int .i64 T,.int .i64 N,.slice ra R.length rc,.int .i64 op,.int .i64 a,.int .i64 b,.int .i64 c]] w λe w'=>e= .returned (.tuple #[.nilIface,.bool false])/\Below w.heap.size w w':=by
 have hK:=r9 (T:=T) (N:=N) (op:=op) (a:=a) (b:=b) (c:=c) hr;obtain⟨W0,hW0⟩:=af (w.alloc (.cells #[.int .i64 T,.int .i64 N,.slice ra R.length rc,.int .i64 op,.int .i64 a,.int .i64 b,.int .i64 c] 193));rw[hW0]at hK;have x3:=hK.x3;have HB:Hid (Below w.heap.size w W0):=hK.below;have e1:(op==1)=false:=by simpa using h1
 have e2:(op==2)=false:=by simpa using h2
 have e3:(op==3)=false:=by simpa using h3
 have e4:(op==4)=false:=by simpa using h4
 have e5:(op==5)=false:=by simpa using h5
 clear hK hr h1 h2 h3 h4 h5
 go_enter Tryz.func104,Tryz.ntmps104
 go_wp2_with fail
 refine aH (v:= .tuple #[.nilIface,.bool false]) (by simp[results,Tryz.results104,go_sem]) rfl ?_;exact⟨rfl,HB.out⟩
theorem Rq(hr:aG w w.heap.size (.slice ra R.length rc) R)(hm:aJ T N R=true)(s:Stp):Calls Tryz.prog 104 #[.agg #[.int .i64 T,.int .i64 N,.slice ra R.length rc,.int .i64 s.op,.int .i64 s.a,.int .i64 s.b,.int .i64 s.c]] w λe w'=> ∃cv,e= .returned (.tuple #[cv,.bool (bK N R s)])/\(bK N R s=true->iU w' w.heap.size T N ra rc R s cv)/\Below w.heap.size w w':=by
 obtain⟨op,a,b,c⟩:=s;by_cases h1:op=1
 ·subst h1;exact ahy hr hm
 by_cases h2:op=2
 ·subst h2;exact ahz hr hm
 by_cases h3:op=3
 ·subst h3;exact ahA hr hm
 by_cases h4:op=4
 ·subst h4;exact ahB hr hm
 by_cases h5:op=5
 ·subst h5;exact ahC hr hm
 have e:bK N R ⟨op,a,b,c⟩=false:=by
  unfold bK;simp[h1,h2,h3,h4,h5]
 rw[e];refine(ahD hr h1 h2 h3 h4 h5).mono ?_;rintro e w' ⟨rfl,hB⟩;exact⟨_,rfl,λh=>(by cases h),hB⟩
end
theorem ahE{t:Bool}{v:Int}(w:World):Sem.run Tryz.prog (Instr.field 121 (.agg #[.bool t,.int .i64 v]) 1) w= .ok (.int .i64 v) w:=by
 unfold Instr.field asAgg
 go_simp
def uy(N:Int)(a:Int)(r:Ru):Ru:=if r.1=a then (if zP r then (N,r.2.drop 1++[(false,N)]) else (r.1,r.2++[(false,N)])) else r
theorem Rs{f:Ru->Ru}{R:List Ru}{k:Nat}(hk:k<R.length):((R.take k).map f++R.drop k).set k (f R[k])=(R.take (k+1)).map f++R.drop (k+1):=by
 have h1:((R.take k).map f).length=k:=by rw[cK,fq];omega
 rw[yI _ _ (by omega),h1,wW,wO hk,List.set_cons_zero,fT hk,fD];simp
theorem ahF{f:Ru->Ru}{R:List Ru}{k:Nat}(hk:k<R.length)(h:f R[k]=R[k]):(R.take k).map f++R.drop k=(R.take (k+1)).map f++R.drop (k+1):=by
 rw[<-Rs hk,h];have h1:((R.take k).map f).length=k:=by rw[cK,fq];omega
 rw[yI _ _ (by omega),h1,wW,wO hk,List.set_cons_zero]
section
variable{w:World}{B g cap k:Nat}{v:Value}{RL:List (Value×Ru)}{l:List Sy}
theorem bA.gI(h:bA w B (.slice (some ⟨g,0,none⟩) RL.length cap) RL)(hk:k<RL.length)(hs:rZ w (λb=>B<=b/\b≠g) v l):bA (w.setCell ⟨g,k*2+1,none⟩ v) B (.slice (some ⟨g,0,none⟩) RL.length cap) (RL.set k (v,(RL[k].2.1,l))):=by
 refine⟨?_,λx hx=> ?_⟩
 ·have:=(h.own.stored (k*2+1) v).1
  rw[Y7 hk v l]at this;rw[qU];exact this
 ·rcases Q8 hx with rfl|hx
  ·refine hs.kept (by simp) λb hA _=>⟨gm _ _ _ _ hA.2,hA.1,λe=> ?_⟩
   simp only[Value.ownBlock,bM]at e;exact hA.2 e.symm
  ·refine(h.sym x hx).kept (by simp) λb hA hlt=>⟨?_,hA⟩
   rw[gm _ _ _ _ (λe=>hA.2 (by simp only[Value.ownBlock];exact congrArg some e.symm))]
theorem bA.ZJ(h:bA w B (.slice (some ⟨g,0,none⟩) RL.length cap) RL)(hk:k<RL.length)(L:Int)(hs:rZ w (λb=>B<=b/\b≠g) v l):bA ((w.setCell ⟨g,k*2,none⟩ (.int .i64 L)).setCell ⟨g,k*2+1,none⟩ v) B (.slice (some ⟨g,0,none⟩) RL.length cap) (RL.set k (v,(L,l))):=by
 have h1:=h.O8 hk L;have e:RL.length=(RL.set k (RL[k].1,(L,RL[k].2.2))).length:=by rw[qU]
 rw[e]at h1;have h2:=h1.gI (k:=k) (v:=v) (l:=l) (by rw[<-e];exact hk) (hs.kept (by simp) λb hA _=>⟨gm _ _ _ _ hA.2,hA⟩);simpa [List.set_set] using h2
end
structure OL(w:World)(cs:Array Value)(ra:Option Addr)(rc:Nat)(R:List Ru)(N a:Int)(g cap eb k:Nat)(RL:List (Value×Ru))(wq:World):Prop where
 box:dm w cs 249 ra rc R wq
 rl:bA wq (w.heap.size+2) (.slice (some ⟨g,0,none⟩) RL.length cap) RL
 len:RL.length=R.length
 map:(RL.map λx=>x.2)=(R.take k).map (uy N a)++R.drop k
 Fs:wq.heap[eb]?=some (.cells #[.bool false,.int .i64 N] 121 (0,0))
 ne:eb≠g
 C8:w.heap.size+2<=g
section
variable{w wq w':World}{cs:Array Value}{ra:Option Addr}{rc:Nat}{R:List Ru}{N a:Int}{g cap eb k:Nat}{RL:List (Value×Ru)}
theorem OL.next(h:OL w cs ra rc R N a g cap eb k RL wq)(hb:Below wq.heap.size wq w'):OL w cs ra rc R N a g cap eb k RL w':=
 ⟨h.box.next hb,h.rl.below hb,h.len,h.map,(hb.block _ (dx.1 h.Fs).1).trans h.Fs,h.ne,h.C8⟩
theorem OL.ends(h:OL w cs ra rc R N a g cap eb k RL wq):dh wq (.slice (some ⟨eb,0,none⟩) 1 1) [(false,N)]:=by
 refine⟨⟨_,_,rfl,ah _⟩,λj hj=> ?_⟩;have:j=0:=by simp at hj;omega
 subst this;exact⟨eb,0,1,rfl,aM (i:=0) h.Fs rfl,aM (i:=1) h.Fs rfl⟩
theorem OL.here(h:OL w cs ra rc R N a g cap eb k RL wq)(hk:k<R.length)(hk':k<RL.length):RL[k].2=R[k]:=by
 have h1:((RL.map λx=>x.2)[k]'(by rw[cK];exact hk'))=R[k]:=by
  simp only[h.map];have hl:((R.take k).map (uy N a)).length=k:=by rw[cK,fq];omega
  rw[List.getElem_append_right (by omega)];simp only[hl,wW,List.getElem_drop,Nat.add_zero]
 simpa using h1
theorem OL.Rv(h:OL w cs ra rc R N a g cap eb k RL wq)(hk:k<R.length){v:Value}{L:Int}{l:List Sy}(hf:uy N a R[k]=(L,l)):((RL.set k (v,(L,l))).map λx=>x.2)=(R.take (k+1)).map (uy N a)++R.drop (k+1):=by
 rw[Dv,h.map,<-Rs hk,hf]
theorem OL.set(h:OL w cs ra rc R N a g cap eb k RL wq){RK:List (Value×Ru)}{w5:World}(hB:Below wq.heap.size wq w5){wz:World}(hz:∀b,b≠g->wz.heap[b]?=w5.heap[b]?)(hs:w5.heap.size=wz.heap.size)(ho:wz.os=w5.os)(ht:wz.tape=w5.tape)(hou:wz.output=w5.output)(hr:bA wz (w.heap.size+2) (.slice (some ⟨g,0,none⟩) RL.length cap) RK)(hl:RK.length=RL.length)(hm:(RK.map λx=>x.2)=(R.take (k+1)).map (uy N a)++R.drop (k+1)):OL w cs ra rc R N a g cap eb (k+1) RK wz:=by
 have h5:=h.next hB;have hg:=h.C8;have hbz:Below (w.heap.size+2) w5 wz:=⟨ho,ht,hou,by omega,λb hb=>hz b (by omega)⟩;exact⟨h5.box.later hbz,by rw[hl];exact hr,hl.trans h.len,hm,(hz eb h.ne).trans h5.Fs,h.ne,h.C8⟩
end
theorem ZK{w:World}{xb:Nat}{n a b:Int}(x4:w.cell? ⟨xb,4,none⟩=some (.int .i64 a))(x5:w.cell? ⟨xb,5,none⟩=some (.int .i64 b)):
 Calls Tryz.prog 230 #[.int .i64 n,.pointer (some ⟨xb,0,none⟩)] w λe w'=>e= .returned (.int .i64 (wu a b n))/\w'=w:=by
 unfold wu;by_cases h1:n=a
 ·have e1:(n==a)=true:=by simpa using h1
  rw[au h1];clear h1
  go_enter Tryz.func230,Tryz.ntmps230
  go_wp2_with fail
  go_ret;exact⟨rfl,rfl⟩
 ·have e1:(n==a)=false:=by simpa using h1
  rw[aj h1];by_cases h2:n=b
  ·have e2:(n==b)=true:=by simpa using h2
   rw[au h2];clear h1 h2
   go_enter Tryz.func230,Tryz.ntmps230
   go_wp2_with fail
   go_ret;exact⟨rfl,rfl⟩
  ·have e2:(n==b)=false:=by simpa using h2
   rw[aj h2];clear h1 h2
   go_enter Tryz.func230,Tryz.ntmps230
   go_wp2_with fail
   go_ret;exact⟨rfl,rfl⟩
theorem ZL{f:Sy->Sy}{R:List Sy}{k:Nat}(hk:k<R.length):((R.take k).map f++R.drop k).set k (f R[k])=(R.take (k+1)).map f++R.drop (k+1):=by
 have h1:((R.take k).map f).length=k:=by rw[cK,fq];omega
 rw[yI _ _ (by omega),h1,wW,wO hk,List.set_cons_zero,fT hk,fD];simp
theorem ahG{f:Sy->Sy}{R:List Sy}{k:Nat}(hk:k<R.length)(h:f R[k]=R[k]):(R.take k).map f++R.drop k=(R.take (k+1)).map f++R.drop (k+1):=by
 rw[<-ZL hk,h];have h1:((R.take k).map f).length=k:=by rw[cK,fq];omega
 rw[yI _ _ (by omega),h1,wW,wO hk,List.set_cons_zero]
theorem ZO{f:Sy->Sy}{R:List Sy}{k:Nat}(hk:k<R.length):((R.take k).map f++R.drop k).getD k (false,0)=R[k]:=by
 have hl:((R.take k).map f).length=k:=by rw[cK,fq];omega
 rw[List.getD_eq_getElem?_getD,o9 (by omega),hl,wW,JK,Nat.add_zero,pq hk];rfl
theorem ahH{w:World}{B xb:Nat}{a b:Int}{v:Value}{l:List Sy}(ho:w.ownsRow B 121 2 v l.length (bD l))(hl:l.length<=1000)(x4:w.cell? ⟨xb,4,none⟩=some (.int .i64 a))(x5:w.cell? ⟨xb,5,none⟩=some (.int .i64 b))(hxB:xb<B):
 Calls Tryz.prog 232 #[v,.func (.func 230) #[] #[.pointer (some ⟨xb,0,none⟩)]] w λe w'=>e= .returned (.tuple #[])/\w'.ownsRow B 121 2 v l.length (bD (l.map (CU a b)))/\Kept (λk=>v.ownBlock=some k) w w':=by
 obtain⟨va,vc,hv⟩:=cO ho;have HO:Hid (w.ownsRow B 121 2 v l.length (bD l)):=ho;have HX:Hid (w.cell? ⟨xb,4,none⟩=some (.int .i64 a)/\w.cell? ⟨xb,5,none⟩=some (.int .i64 b)):=⟨x4,x5⟩;have HV:Hid (v= .slice va l.length vc):=hv;rw[hv];clear ho x4 x5 hv
 go_enter Tryz.func232,Tryz.ntmps232
 go_wp2_with fail
 go_loopw [8] (λs8 wr=> ∃k:Nat,s8= .int .i64 k/\k<=l.length/\wr.ownsRow B 121 2 v l.length (bD ((l.take k).map (CU a b)++l.drop k))/\Kept (λk=>v.ownBlock=some k) w wr) (λs _=>l.length-(intOf s).toNat)
 case atStart=>exact⟨0,rfl,aP _,by simpa using HO.out,Kept.refl _ _⟩
 case round=>
  obtain⟨k,rfl,hk,hO,hK⟩:=hrel;have HK:Hid (Kept (λk=>v.ownBlock=some k) w wr):=hK;have rQ:Hid (wr.ownsRow B 121 2 v l.length (bD ((l.take k).map (CU a b)++l.drop k))):=hO;by_cases hlt:k<l.length
  ·obtain⟨g,cap,C9,hgB,hgs⟩:=hO.form (by omega)
   have hva:va=some ⟨g,0,none⟩/\vc=cap:=by
    have:=HV.out;rw[C9]at this;injection this with e1 e2 e3;exact⟨e1.symm,e3.symm⟩
   obtain⟨rfl,rfl⟩:=hva;have hO2:=hO;rw[C9]at hO2
   have hlen:((l.take k).map (CU a b)++l.drop k).length=l.length:=by
    rw[aS,cK,fq,pE];omega
   have c1:=(hO2.cellAt (k*2) (by omega)).trans (E5 (j:=0) (by rw[hlen];exact hlt) (by omega));have c2:=(hO2.cellAt (k*2+1) (by omega)).trans (E5 (j:=1) (by rw[hlen];exact hlt) (by omega));rw[ZO hlt]at c1 c2;obtain⟨⟨t,n⟩,hx⟩:=af (l[k]);rw[hx]at c1 c2;simp only[rY,List.getElem?_cons_zero,List.getElem?_cons_succ]at c1 c2;have f2:=hO2.frozenAt (k*2+1)
   have hxg:¬v.ownBlock=some xb:=λe=>by
    rw[C9]at e;simp only[Value.ownBlock,bM]at e;omega
   have EP:Hid (∀wq,Below wr.heap.size wr wq->wq.cell? ⟨xb,4,none⟩=some (.int .i64 a)/\wq.cell? ⟨xb,5,none⟩=some (.int .i64 b)):=λwq hq=>by
    have h4:=HK.out.cell (p:=⟨xb,4,none⟩) hxg HX.out.1;have h5:=HK.out.cell (p:=⟨xb,5,none⟩) hxg HX.out.2;exact⟨(hq.cell (aQ _ _ h4)).trans h4,(hq.cell (aQ _ _ h5)).trans h5⟩
   have Fu:Hid (l[k]=(t,n)/\v= .slice (some ⟨g,0,none⟩) l.length vc/\g<wr.heap.size):=⟨hx,C9,hgs⟩;obtain⟨W1,hW1⟩:=af (wr.alloc (.cells #[.bool t,.int .i64 n] 121));have hB1:Below wr.heap.size wr W1:=by rw[<-hW1];exact(ai _ _).alloc (ah _) _
   have HB1:Hid (Below wr.heap.size wr W1):=hB1;have d0:W1.cell? ⟨wr.heap.size,0,none⟩=some (.bool t):=by rw[<-hW1];exact aM (heap_alloc_new _ _) rfl
   have d1:W1.cell? ⟨wr.heap.size,1,none⟩=some (.int .i64 n):=by rw[<-hW1];exact aM (heap_alloc_new _ _) rfl
   have e2:=(hB1.cell (aQ _ _ c2)).trans c2;have ef2:W1.frozen? ⟨g,k*2+1,none⟩=false:=(hB1.frozen (show g<_ from hgs)).trans f2;have ot:=ZK (n:=n) (EP.out W1 hB1).1 (EP.out W1 hB1).2;have i0:(0:Int)<=(k:Int):=aF _;have i1:(k:Int)<(l.length:Int):=by omega
   clear hK hO hO2 hx hB1 C9 hlen;cases t with
   |true=>
    go_wp2_with fail
    go_roundw
    case rel=>
     refine⟨k+1,by go_num,by omega,?_,HK.out.trans (Kept.dI HB1.out)⟩;rw[<-ahG hlt (by rw[Fu.out.1];rfl)];exact own_below rQ.out HB1.out λg hg=>(rQ.out.lt g hg).2
    case measure=>simp[intOf];omega
   |false=>
    go_wp2_with (go_at_call 230;refine ot.mono ?_;rintro e w2 ⟨rfl,rfl⟩;clear ot)
    go_roundw
    case rel=>
     have hvb:v.ownBlock=some g:=by rw[Fu.out.2.1];rfl
     have o1:=own_below rQ.out HB1.out λg hg=>(rQ.out.lt g hg).2;rw[Fu.out.2.1]at o1;have o2:=(o1.stored (k*2+1) (.int .i64 (wu a b n))).1;rw[agE (by rw[aS,cK,fq,pE];omega),ZO hlt,Fu.out.1]at o2;refine⟨k+1,by go_num,by omega,?_,(HK.out.trans (Kept.dI HB1.out)).setCell hvb _⟩;rw[Fu.out.2.1,<-ZL hlt,Fu.out.1];exact o2
    case measure=>simp[intOf];omega
  ·have hkk:k=l.length:=by omega
   clear hK hO
   go_wp2_with fail
   go_end0
   refine⟨rfl,?_,by rw[<-HV.out];exact HK.out⟩;have:=rQ.out;rw[hkk,gH,List.drop_length,qp]at this;rw[<-HV.out];exact this
def Da(a b:Int)(r:Ru):Ru:=(wu a b r.1,r.2.map (CU a b))
theorem ahI{RL:List (Value×Ru)}{k:Nat}(hk:k<RL.length)(L:Int)(l:List Sy):(dY RL).set (k*2) (.int .i64 L)=dY (RL.set k (RL[k].1,(L,l))):=by
 unfold dY
 induction RL generalizing k with
 |nil=>simp at hk
 |cons a RL ih=>
  cases k with
  |zero=>simp[lT]
  |succ k=>
   have:=ih (k:=k) (by simpa using hk);rw[gV,List.set_cons_succ,gV,yI _ _ (by simp[lT];omega)];simp only[lT,List.length_cons,List.length_nil,List.getElem_cons_succ]at this⊢;rw[show (k+1)*2-(0+1+1)=k*2 by omega,this]
theorem aA.ahJ{w w1:World}{B g cap k:Nat}{RL:List (Value×Ru)}(h:aA w B (jy (.slice (some ⟨g,0,none⟩) RL.length cap) RL))(hk:k<RL.length)(L:Int)(l:List Sy)(hl:l.length=RL[k].2.2.length)
 (ho:w1.ownsRow B 121 2 RL[k].1 l.length (bD l)) (hK:Kept (λb=>RL[k].1.ownBlock=some b) (w.setCell ⟨g,k*2,none⟩ (.int .i64 L)) w1):aA w1 B (jy (.slice (some ⟨g,0,none⟩) RL.length cap) (RL.set k (RL[k].1,(L,l)))):=by
 have h1:=h.store (i:=none) (g:=g) (n:=RL.length) (cap:=cap) (e:=96) (size:=2) (xs:=dY RL) rfl (k*2) (.int .i64 L)
 have hn:∀j a,upd (jy (.slice (some ⟨g,0,none⟩) RL.length cap) RL) none ⟨.slice (some ⟨g,0,none⟩) RL.length cap,96,2,RL.length,(dY RL).set (k*2) (.int .i64 L)⟩ j=some a->j≠some k->w1.ownsRow B a.e a.size a.v a.n a.xs:=λj a ha hj=>by
  have o:=h1.own j a ha;obtain⟨z1,z2|⟨g',c',cur,e,z2,z3,z4⟩⟩:=o
  ·exact⟨z1,.inl z2⟩
  ·refine⟨z1,.inr ⟨g',c',cur,e,z2,?_,z4⟩⟩
   have hlt:=(dx.1 z3).1;rw[hK.block g' hlt λe'=> ?_]
   ·exact z3
   ·have hb:a.v.ownBlock=some g':=by rw[e];rfl
    exact h1.apart j (some k) a _ hj ha (by rw[uG _ (by simp)];exact yt hk) g' hb e'
 have h2:aA w1 B (upd (upd (jy (.slice (some ⟨g,0,none⟩) RL.length cap) RL) none ⟨.slice (some ⟨g,0,none⟩) RL.length cap,96,2,RL.length,(dY RL).set (k*2) (.int .i64 L)⟩) (some k) ⟨RL[k].1,121,2,l.length,bD l⟩):=by
  refine h1.put ho (λj a hj ha=>hn j a ha hj) λj a hj ha g' e1 e2=> ?_;exact h1.apart j (some k) a ⟨RL[k].1,121,2,RL[k].2.2.length,bD RL[k].2.2⟩ hj ha (by rw[uG _ (by simp)];exact yt hk) g' e1 e2
 have e:upd (upd (jy (.slice (some ⟨g,0,none⟩) RL.length cap) RL) none ⟨.slice (some ⟨g,0,none⟩) RL.length cap,96,2,RL.length,(dY RL).set (k*2) (.int .i64 L)⟩) (some k) ⟨RL[k].1,121,2,l.length,bD l⟩=jy (.slice (some ⟨g,0,none⟩) RL.length cap) (RL.set k (RL[k].1,(L,l))):=by
  funext j
  cases j with
  |none=>
   rw[uG _ (by simp),upd_same,ahI hk L l];show _=some _;rw[qU]
  |some j=>
   by_cases hj:j=k
   ·subst hj
    rw[upd_same,yt (by rw[qU];exact hk)];simp
   ·rw[uG _ (by simpa using hj),uG _ (by simp)]
    show (RL[j]?).map _=((RL.set k _)[j]?).map _;rw[Du (λe=>hj e.symm)]
 rw[e]at h2;exact h2
theorem ahK{w:World}{T:Int}{N:Int}{ra:Option Addr}{rc:Nat}{op a b c:Int}{R:List Ru}(hr:aG w w.heap.size (.slice ra R.length rc) R)(hl:R.length<=1000)(hl2:∀q,q<R.length->(R.getD q (0,[])).2.length<=1000):
 Calls Tryz.prog 229 #[.agg #[.int .i64 T,.int .i64 N,.slice ra R.length rc,.int .i64 op,.int .i64 a,.int .i64 b,.int .i64 c]] w λe w'=> ∃lv RL,e= .returned (.agg #[.int .i64 T,.int .i64 N,lv])/\bA w' w.heap.size lv RL/\(RL.map λx=>x.2)=R.map (Da a b)/\Below w.heap.size w w':=by
 obtain⟨cs,hcs⟩:∃cs:Array Value,#[.int .i64 T,.int .i64 N,.slice ra R.length rc,.int .i64 op,.int .i64 a,.int .i64 b,.int .i64 c]=cs:=⟨_,rfl⟩;have hC0:dm w cs 242 ra rc R ((w.alloc (.cells cs 242)).alloc (.cells #[.int .i64 0,.int .i64 0,.slice none 0 0] 27)):=ME hr;rw[<-hcs]at hC0;obtain⟨W0,hW0⟩:=af ((w.alloc (.cells #[.int .i64 T,.int .i64 N,.slice ra R.length rc,.int .i64 op,.int .i64 a,.int .i64 b,.int .i64 c] 242)).alloc (.cells #[.int .i64 0,.int .i64 0,.slice none 0 0] 27));rw[hW0,hcs]at hC0;have xX:Hid (#[.int .i64 T,.int .i64 N,.slice ra R.length rc,.int .i64 op,.int .i64 a,.int .i64 b,.int .i64 c]=cs):=hcs
 have dM:Hid (∀wq,dm w cs 242 ra rc R wq->wq.cell? ⟨w.heap.size,0,none⟩=some (.int .i64 T)/\wq.cell? ⟨w.heap.size,1,none⟩=some (.int .i64 N)/\wq.cell? ⟨w.heap.size,2,none⟩=some (.slice ra R.length rc)/\wq.cell? ⟨w.heap.size,3,none⟩=some (.int .i64 op)/\wq.cell? ⟨w.heap.size,4,none⟩=some (.int .i64 a)/\wq.cell? ⟨w.heap.size,5,none⟩=some (.int .i64 b)/\wq.cell? ⟨w.heap.size,6,none⟩=some (.int .i64 c)):=λwq hq=>by
  refine⟨hq.cell ?_,hq.cell ?_,hq.cell ?_,hq.cell ?_,hq.cell ?_,hq.cell ?_,hq.cell ?_⟩<;>(rw[<-xX.out];rfl)
 obtain⟨x0,x1,x2,x3,x4,x5,x6⟩:=dM.out W0 hC0;have cop:=MC (w:=W0) (T:=T) (N:=N) (op:=op) (a:=a) (b:=b) (c:=c) (hC0.rules.mono (aZ (by omega) hC0.size)) hl hl2;have mq:Hid (dm w cs 242 ra rc R W0):=hC0
 have H2:Hid (∀q (hq:q<R.length),R[q].2.length<=1000):=λq hq=>by
  have:=hl2 q hq;simpa [List.getD,hq] using this
 clear hr hl2 hC0 hcs
 go_enter Tryz.func229,Tryz.ntmps229
 go_upto_region 3 with(go_at_call 231;refine cop.mono ?_;rintro e wq ⟨lv,RL,rfl,hO,hmap,pV⟩;clear cop)
 have hlen:RL.length=R.length:=by rw[<-hmap,cK]
 obtain⟨la,lc,hlv⟩:=cO hO.ul;subst hlv;have zG:Hid (Below W0.heap.size W0 wq):=pV;have HO:Hid (aA wq W0.heap.size (jy (.slice la R.length lc) RL)/\(RL.map λx=>x.2)=R/\RL.length=R.length):=⟨by rw[<-hlen];exact hO,hmap,hlen⟩;rw[hlen];clear hO hmap hlen pV x0 x1 x2 x3 x4 x5 x6 hW0
 go_wp2_with fail
 go_loopw [13] (λs13 wr=> ∃(k:Nat) (RK:List (Value×Ru)),s13= .int .i64 k/\k<=R.length/\RK.length=R.length/\aA wr W0.heap.size (jy (.slice la R.length lc) RK)/\(RK.map λx=>x.2)=(R.take k).map (Da a b)++R.drop k/\Below W0.heap.size W0 wr) (λs _=>R.length-(intOf s).toNat)
 case atStart=>exact⟨0,RL,rfl,aP _,HO.out.2.2,HO.out.1,by rw[HO.out.2.1];simp,zG.out⟩
 case round=>
  obtain⟨k,RK,rfl,hk,hlen,hO,hmap,hB⟩:=hrel;clear HO zG;have HO:Hid (aA wr W0.heap.size (jy (.slice la R.length lc) RK)):=hO;have HM:Hid ((RK.map λx=>x.2)=(R.take k).map (Da a b)++R.drop k/\RK.length=R.length):=⟨hmap,hlen⟩;have HB:Hid (Below W0.heap.size W0 wr):=hB;by_cases hlt:k<R.length
  ·have hkk:k<RK.length:=by omega
   have hat:RK[k].2=R[k]:=by
    have h1:((RK.map λx=>x.2)[k]'(by rw[cK];exact hkk))=R[k]:=by
     simp only[hmap];have hl:((R.take k).map (Da a b)).length=k:=by rw[cK,fq];omega
     rw[List.getElem_append_right (by omega)];simp only[hl,wW,List.getElem_drop,Nat.add_zero]
    simpa using h1
   have hsk:=hO.CW hkk;have hrow:=hO.ul;rw[hlen]at hrow;obtain⟨g,cap,C9,hg0,hg1⟩:=hrow.form (by omega);injection C9 with e1 _ e3;subst e1 e3;have c1:=(hrow.cellAt (k*2) (by omega)).trans (Mx (j:=0) hkk (by omega));have c2:=(hrow.cellAt (k*2+1) (by omega)).trans (Mx (j:=1) hkk (by omega));have hgd:RK.getD k (.slice none 0 0,(0,[]))=RK[k]:=by simp[List.getD,hkk]
   rw[hgd]at c1 c2;obtain⟨⟨v,⟨L,l⟩⟩,hx⟩:=af (RK[k]);rw[hx]at c1 c2 hat hsk;simp only[lT,List.getElem?_cons_zero,List.getElem?_cons_succ]at c1 c2 hat hsk;have zR:=H2.out k hlt;rw[<-hat]at zR;simp only at zR;obtain⟨va,vc,hv⟩:=cO hsk;subst hv;have HX:Hid (RK[k]=(.slice va l.length vc,(L,l))/\R[k]=(L,l)):=⟨hx,hat.symm⟩;have f1:=hrow.frozenAt (k*2);obtain⟨W1,hW1⟩:=af (wr.alloc (.cells #[.int .i64 L,.slice va l.length vc] 96));have hB1:Below wr.heap.size wr W1:=by rw[<-hW1];exact(ai _ _).alloc (ah _) _
   have HB1:Hid (Below wr.heap.size wr W1):=hB1;have d0:W1.cell? ⟨wr.heap.size,0,none⟩=some (.int .i64 L):=by rw[<-hW1];exact aM (heap_alloc_new _ _) rfl
   have d1:W1.cell? ⟨wr.heap.size,1,none⟩=some (.slice va l.length vc):=by rw[<-hW1];exact aM (heap_alloc_new _ _) rfl
   have e1:=(hB1.cell (aQ _ _ c1)).trans c1;have ef1:W1.frozen? ⟨g,k*2,none⟩=false:=(hB1.frozen (show g<_ from hg1)).trans f1;have zS:=mq.out.next (HB.out.trans (hB1.mono HB.out.size));have ot:=ZK (n:=L) (dM.out W1 zS).2.2.2.2.1 (dM.out W1 zS).2.2.2.2.2.1;have Cg:aA W1 W0.heap.size (jy (.slice (some ⟨g,0,none⟩) R.length lc) RK):=hO.below hB1 (ah _);have hgs:w.heap.size+2<=g:=aZ mq.out.size hg0
   have d1':(W1.setCell ⟨g,k*2,none⟩ (.int .i64 (wu a b L))).cell? ⟨wr.heap.size,1,none⟩=some (.slice va l.length vc):=by
    rw[jW (.inl (by simp only;omega))];exact d1
   have hC2:dm w cs 242 ra rc R (W1.setCell ⟨g,k*2,none⟩ (.int .i64 (wu a b L))):=zS.later ((ai _ _).setCell (by simp only;omega) _)
   have hne:∀b',(Value.slice va l.length vc).ownBlock=some b'->b'≠g:=λb' hb' e=>by
    subst e;have hap:=hO.apart (some k) none _ _ (by simp) (yt hkk) rfl b';rw[hx]at hap;exact hap hb' rfl
   have hs2:(W1.setCell ⟨g,k*2,none⟩ (.int .i64 (wu a b L))).ownsRow W0.heap.size 121 2 (.slice va l.length vc) l.length (bD l):=by
    have o:=own_below hsk hB1 λg hg=>(hsk.lt g hg).2;obtain⟨z1,z2|⟨g',c',cur,e,z2,z3,z4⟩⟩:=o
    ·exact⟨z1,.inl z2⟩
    ·exact⟨z1,.inr ⟨g',c',cur,e,z2,by rw[gm _ _ _ _ (hne g' (by rw[e];rfl))];exact z3,z4⟩⟩
   have sw:=ahH (xb:=w.heap.size) hs2 zR (dM.out _ hC2).2.2.2.2.1 (dM.out _ hC2).2.2.2.2.2.1 (by have:=mq.out.size;omega);have zw:Hid (aA W1 W0.heap.size (jy (.slice (some ⟨g,0,none⟩) R.length lc) RK)):=Cg;have HG:Hid (W0.heap.size<=g/\k<RK.length):=⟨hg0,hkk⟩;have i0:(0:Int)<=(k:Int):=aF _;have i1:(k:Int)<(R.length:Int):=by omega
   clear hO hB hmap hlen hat hsk hrow hgd hx hB1 zS Cg hC2 hs2 f1 hne hgs
   go_wp2_with
    (first
     |(go_at_call 230;refine ot.mono ?_;rintro e w2 ⟨rfl,rfl⟩;clear ot)
     |(go_at_call 232;refine sw.mono ?_;rintro e w3 ⟨rfl,ho3,hK3⟩;clear sw))
   go_roundw
   case rel=>
    have ZP:=zw.out;rw[<-HM.out.2]at ZP;have hT:=ZP.ahJ (w1:=w3) (k:=k) HG.out.2 (wu a b L) (l.map (CU a b)) (by rw[HX.out.1,cK]) (by rw[HX.out.1,cK];exact ho3) (by rw[HX.out.1];exact hK3);rw[HX.out.1,HM.out.2]at hT;refine⟨k+1,_,by go_num,by omega,by rw[qU];exact HM.out.2,hT,?_,?_⟩
    ·rw[Dv,HM.out.1,<-Rs hlt,HX.out.2]
     rfl
    ·have hb1:Below W0.heap.size W0 (w2.setCell ⟨g,k*2,none⟩ (.int .i64 (wu a b L))):=(HB.out.trans (HB1.out.mono HB.out.size)).setCell (p:=⟨g,k*2,none⟩) HG.out.1 _
     exact hb1.trans (hK3.below (λb hb=>(ho3.lt b hb).1) hb1.size)
   case measure=>simp[intOf];omega
  ·have hC:=mq.out.next hB
   obtain⟨x0,x1,x2,x3,x4,x5,x6⟩:=dM.out wr hC;have hkk:k=R.length:=by omega
   have Jq:Hid (k=R.length):=hkk;have HC:Hid (dm w cs 242 ra rc R wr):=hC;have wi:=Je (w:=wr) (T:=T) (N:=N) (ra:=ra) (rn:=R.length) (rc:=rc) (op:=op) (a:=a) (b:=b) (c:=c) (M:=N) (oa:=la) (on:=R.length) (oc:=lc);clear hC hO hmap hlen hB hkk
   go_wp2_with
    (go_at_call 233;refine wi.mono ?_;rintro e w7 ⟨rfl,iM⟩
     have iH:Hid (dm w cs 242 ra rc R w7):=HC.out.next iM;have xA:Hid (bA w7 (w.heap.size+2) (.slice la R.length lc) RK):=(HO.out.Jf.mono mq.out.size).below iM;have z0:=iH.out.y0;have z1:=iH.out.y1;have z2:=iH.out.y2;have ZQ:=iH.out.yf 0;have ZR:=iH.out.yf 1;have ZU:=iH.out.yf 2
     clear wi iM)
   have q0:=yu (v0:= .int .i64 T) (v1:= .int .i64 N) (v2:= .slice la R.length lc) z0;have q1:=yw (v0:= .int .i64 T) (v1:= .int .i64 N) (v2:= .slice la R.length lc) z1;have q2:=yx (v0:= .int .i64 T) (v1:= .int .i64 N) (v2:= .slice la R.length lc) z2;refine aH (v:= .agg #[.int .i64 T,.int .i64 N,.slice la R.length lc]) (by simp[results,Tryz.results229,go_sem,q0,q1,q2]) rfl ?_;have ho:=iH.out.out xA.out (.int .i64 T) (.int .i64 N) (.slice la R.length lc);refine⟨_,_,rfl,ho.1,?_,ho.2⟩;rw[HM.out.1,Jq.out];simp
end Go.Proofs.YthbifaoaiggooaaGreatDoor
namespace Go.Proofs.YthbifaoaiggooaaGreatDoor
section
variable{N:Nat}{R:List Ru}
theorem ZV(f:Ru->Ru)(R:List Ru):(List.range R.length).map (λk=>f (R.getD k (0,[])))=R.map f:=by
 refine wP (by simp) λi h1 h2=> ?_;have hi:i<R.length:=by simpa using h2
 simp[List.getD,hi]
theorem ahL{a b c:Int}:R.map (Da a b)=je N R ⟨1,a,b,c⟩:=by
 rw[Rh (h:=λk=>Da a b (R.getD k (0,[]))) (λk=>by unfold EZ Da;simp),ZV];unfold BD;simp
theorem ahM{a b c:Int}:R.map (uy N a)++[((N:Int),[])]=je N R ⟨4,a,b,c⟩:=by
 rw[Rh (h:=λk=>uy N a (R.getD k (0,[]))) (λk=>by unfold EZ uy;simp),ZV];unfold BD;simp
theorem ahN{ka bn cn:Nat}{L:Int}{l:List Sy}(hx:R.getD ka (0,[])=(L,l)):R.set ka (L,l.take bn++(false,(N:Int))::l.drop cn)++[((N:Int),(l.take cn).drop bn)]=je N R ⟨2,ka,bn,cn⟩:=by
 rw[Rh (h:=λk=>if (k:Int)=(ka:Int) then ((R.getD k (0,[])).1,(R.getD k (0,[])).2.take bn++(false,(N:Int))::(R.getD k (0,[])).2.drop cn) else R.getD k (0,[])) (λk=>by unfold EZ;simp)];have hl:BD N R ⟨2,ka,bn,cn⟩=[((N:Int),(l.take cn).drop bn)]:=by unfold BD;simp only[Int.toNat_natCast,hx];simp
 rw[hl]
 congr 1
 refine wP (by simp) λi h1 h2=> ?_;have hi:i<R.length:=by simpa using h2
 rw[List.getElem_set];simp only[List.getElem_map,List.getElem_range];by_cases e:ka=i
 ·subst e
  rw[au rfl,au rfl,hx]
 ·rw[aj e,aj (by omega)]
  simp[List.getD,hi]
theorem ahO{a b c:Int}:((bL (λk=>uY N R (R.getD k (0,[]))) R.length).map λ(n:Nat)=>(n:Int)).map (λi=>R.getD i.toNat (0,[]))=je N R ⟨5,a,b,c⟩:=by
 have h1:je N R ⟨5,a,b,c⟩=(List.range R.length).flatMap λk=>if uY N R (R.getD k (0,[])) then [R.getD k (0,[])] else []:=by
  unfold je BD;simp only;rw[aj (by decide),aj (by decide),qp]
  congr 1
 rw[h1,Zo (λk=>uY N R (R.getD k (0,[]))) (λk=>R.getD k (0,[]))];rw[List.map_map];rfl
theorem ahP(P:List Ru){ka:Nat}(hk:ka<R.length):((List.range R.length).flatMap λk=>if k=ka then P else [R.getD k (0,[])])=R.take ka++P++R.drop (ka+1):=by
 have key:∀n,n<=R.length->((List.range n).flatMap λk=>if k=ka then P else [R.getD k (0,[])])=if n<=ka then R.take n else R.take ka++P++(R.take n).drop (ka+1):=by
  intro n
  induction n with
  |zero=>intro _;simp
  |succ n ih=>
   intro hn;have hnl:n<R.length:=by omega
   have e:R.getD n (0,[])=R[n]:=by simp[List.getD,hnl]
   rw[pF,qQ,ih (by omega),List.flatMap_singleton];by_cases h1:n=ka
   ·subst h1
    rw[au (ah _),au rfl,aj (by omega)];rw[List.drop_eq_nil_of_le (by rw[fq];omega),qp]
   ·rw[aj h1,e,fT hnl]
    by_cases h2:n<=ka
    ·rw[au h2,au (by omega)]
    ·rw[aj h2,aj (by omega),FI (by rw[fq];omega),mG]
 have h:=key R.length (ah _);rw[aj (by omega),gH]at h;exact h
theorem ahQ{ka bn:Nat}{L X:Int}{l:List Sy}(hk:ka<R.length)(hx:R.getD ka (0,[])=(L,l))(hX:l.getD bn (false,0)=(false,X)):R.take ka++((bL (λk=>decide ((R.getD k (0,[])).1=X)) R.length).map λ(n:Nat)=>(n:Int)).map (λi=>(L,l.take bn++(R.getD i.toNat (0,[])).2++l.drop (bn+1)))++R.drop (ka+1)=je N R ⟨3,ka,bn,0⟩:=by
 have h1:je N R ⟨3,ka,bn,0⟩=(List.range R.length).flatMap λk=>if k=ka then (R.filter λx=>decide (x.1=X)).map (YR bn (L,l)) else [R.getD k (0,[])]:=by
  unfold je BD;simp only;rw[aj (by decide),aj (by decide),qp];refine Zn _ λk _=> ?_;unfold EZ;simp only;rw[aj (by decide),aj (by decide),au trivial];by_cases e:k=ka
  ·subst e
   rw[au rfl,au rfl,hx];simp only[Int.toNat_natCast,hX]
  ·rw[aj e,aj (by omega)]
 rw[h1,ahP _ hk,ag2 X,List.map_map,List.map_map]
 congr 2
end
end Go.Proofs.YthbifaoaiggooaaGreatDoor
