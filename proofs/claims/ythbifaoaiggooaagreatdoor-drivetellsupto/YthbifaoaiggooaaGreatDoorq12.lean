import Derived.Test.YthbifaoaiggooaaGreatDoorq11
set_option maxHeartbeats 6400000
set_option maxRecDepth 100000
namespace Go.Proofs.YthbifaoaiggooaaGreatDoor
open Go.RowKit
structure F1(w0 ws:World)(d:gL)(vs:dK)(st:LS)(R:List Ru)(k:Nat)(v':dK)(ng:Nat)(wr:World):Prop where
 m:aB w0 wr d v' (bE d.T (ax d.T d.N R k).1) ng st
 s:kK R v'.OL (ax d.T d.N R k).2
 few:v'.OL.length<=150
 le:k<=v'.OL.length
 ng:ng<=k*20
 ov:v'.ov=vs.ov
 g:aO d vs v' ws wr
structure F2(w0 ws:World)(d:gL)(vs:dK)(st:LS)(R:List Ru)(k x:Nat)(v':dK)(ng:Nat)(wr:World):Prop where
 m:aB w0 wr d v' (bE d.T ((ax d.T d.N R k).1++[(di d.T R k x (ax d.T d.N R k).2).1])) ng st
 s:kK R v'.OL (di d.T R k x (ax d.T d.N R k).2).2
 few:v'.OL.length<=150
 lt:k<v'.OL.length
 b:k<(ax d.T d.N R k).2.length
 ng:ng<=k*20+x
 ov:v'.ov=vs.ov
 g:aO d vs v' ws wr
section
variable{w0 ws wr w':World}{d:gL}{vs v v':dK}{st:LS}{R:List Ru}{k x ng ng':Nat}
theorem F1.into(h:F1 w0 ws d vs st R k v ng wr)(hk:k<v.OL.length):F2 w0 ws d vs st R k 0 v ng wr:=
 ⟨by show aB w0 wr d v (bE d.T ((ax d.T d.N R k).1++[[]])) ng st;rw[ady];exact h.m,h.s,h.few,hk,by rw[<-h.s.len];exact hk,h.ng,h.ov,h.g⟩
theorem F2.out(h:F2 w0 ws d vs st R k (d.T+d.N) v ng wr)(hTN:d.T+d.N<=20):F1 w0 ws d vs st R (k+1) v ng wr:=by
 have e:ax d.T d.N R (k+1)=mh d.T d.N R k (ax d.T d.N R k):=rfl;exact⟨by rw[e];exact h.m,by rw[e];exact h.s,h.few,h.lt,by have:=h.ng;omega,h.ov,h.g⟩
theorem F2.none(h:F2 w0 ws d vs st R k x v ng wr)(he:dV d.T R (v.OL.getD k []) x (v.OL.getD k []).length=[])(hb:Below wr.heap.size wr w'):F2 w0 ws d vs st R k (x+1) v ng w':=by
 have hv:=h.s.adu h.lt he;have e:di d.T R k (x+1) (ax d.T d.N R k).2=lH d.T R k x (di d.T R k x (ax d.T d.N R k).2):=rfl;refine⟨?_,?_,h.few,h.lt,h.b,by have:=h.ng;omega,h.ov,h.g.trans (aO.dI hb)⟩
 ·rw[e,lH]
  simp only;rw[hv,VI,aj (by omega)];exact h.m.below hb
 ·rw[e,lH]
  simp only;rw[hv];exact h.s
theorem F2.some(h:F2 w0 ws d vs st R k x v ng wr)(hne:dV d.T R (v.OL.getD k []) x (v.OL.getD k []).length≠[]){C:List It}(hs:C.Pairwise jL)(hC:∀i,i∈C↔Cl R (· ∈dV d.T R (v.OL.getD k []) x (v.OL.getD k []).length) i){n:Nat}(ht:Hg v.OL C n v'.OL)
 (hm:aB w0 w' d v' (gX (bE d.T ((ax d.T d.N R k).1++[(di d.T R k x (ax d.T d.N R k).2).1])) (k,dJ d.T x) (.int .i64 n)) (ng+1) st) (hov:v'.ov=v.ov) (hg:aO d v v' wr w'):
 (kK R v'.OL (di d.T R k (x+1) (ax d.T d.N R k).2).2)/\(v'.OL.length<=150->F2 w0 ws d vs st R k (x+1) v' (ng+1) w'):=by
 obtain⟨hv1,hv2⟩:=h.s.visit h.lt hne hs hC ht;have e:di d.T R k (x+1) (ax d.T d.N R k).2=lH d.T R k x (di d.T R k x (ax d.T d.N R k).2):=rfl;have hS:kK R v'.OL (di d.T R k (x+1) (ax d.T d.N R k).2).2:=by rw[e,lH];exact hv2
 refine⟨hS,λhf=>⟨?_,hS,hf,?_,h.b,by have:=h.ng;omega,hov.trans h.ov,h.g.trans hg⟩⟩
 ·have hl:=OT (T:=d.T) (R:=R) k x (ax d.T d.N R k).2
  have hl2:=Vq (T:=d.T) (N:=d.N) (R:=R) k;rw[e,lH];simp only;rw[hv1,VI,au (aF _),hl,hl2];exact hm
 ·rcases ht with⟨_,_,e2⟩|⟨_,_,e2⟩
  ·rw[e2];exact h.lt
  ·rw[e2,aS];have:=h.lt;omega
theorem F2.lens(h:F2 w0 ws d vs st R k x v ng wr){Nu:List Bool}{Fi:List (List Bool)}(E:kM w0 d R Nu Fi):∀j,j<v.OL.length->(v.OL.getD j []).length<=369:=λj hj=>by
 have:=KH E.Co (h.s.lI j hj).uO (h.s.ok j hj);have:=E.hR;omega
end
def aeL(w0 w:World)(d:gL)(v:dK)(st:LS)(R:List Ru)(e:Ending)(w':World):Prop:=
 (e= .returned (.bool false)/\More d.T d.N R 150/\Below w0.heap.size w w')\/
 (e= .returned (.bool true)/\∃K v' ng,F1 w0 w d v st R K v' ng w'/\v'.OL.length=K)
theorem aeM{w0 w:World}{d:gL}{v:dK}{st:LS}{R:List Ru}{Nu:List Bool}{Fi:List (List Bool)}(E:kM w0 d R Nu Fi)(h:aB w0 w d v (bE d.T []) 0 st)(zD:v.OL=[]):
 Calls Tryz.prog 50 #[.pointer (some ⟨d.ma,0,none⟩)] w (aeL w0 w d v st R):=by
 have hR:=E.hR;have Bc:=KU (h.auto E);have hM1:=h.alloc (.cells #[.int .i64 R.length,.int .i64 0] 157)
 have hI1:kr (w.alloc (.cells #[.int .i64 R.length,.int .i64 0] 157)) (w.alloc (.cells #[.int .i64 R.length,.int .i64 0] 157)).heap.size (.slice (some ⟨w.heap.size,0,none⟩) 1 1) [(R.length,0)]:=by
  refine⟨⟨_,_,rfl⟩,λk hk=> ?_⟩;obtain rfl:k=0:=by simpa using hk
  exact⟨w.heap.size,0,1,rfl,by simp,by simp[go_sem],by simp[go_sem]⟩
 have Il:=WZ E hM1 hI1 ⟨by simp,by simp,by simp,λx hx=>by simp only[gG]at hx;rw[hx];exact⟨ah _,aP _⟩,λx hx _=>by simp only[gG]at hx;rw[hx]⟩ (by rw[zD];simp) (λk hk=>by rw[zD]at hk;exact absurd hk (iI _));have HE:Hid (kM w0 d R Nu Fi):=E;have HM:Hid (aB w0 w d v (bE d.T []) 0 st):=h;have HOL:Hid (v.OL=[]):=zD;have hT:=E.hT;have hN:=E.hN.2;have hN1:=E.hN.1;clear E h hM1 hI1 zD
 go_enter Tryz.func50,Tryz.ntmps50
 go_wp2_with
  (first
   |(go_at_call 86;refine Bc.mono ?_;rintro e w1 ⟨rfl,rfl⟩)
   |(go_at_call 85;refine Il.mono ?_;rintro e w2 ⟨n,v2,C,rfl,hCs,tK,hSt,hov,hM2,hG2⟩
     have hF:F1 w0 w1 d v st R 0 v2 0 w2:=by
      have Xe:v2.OL=[C]:=by
       rw[HOL.out]at hSt;rcases hSt with⟨h1,_,_⟩|⟨_,_,h3⟩
       ·exact absurd h1 (iI _)
       ·simpa using h3
      refine⟨?_,?_,by rw[Xe];simp,aP _,ah _,hov,(aO.dI ((ai _ _).alloc (ah _) _)).trans hG2⟩
      ·exact hM2
      ·rw[Xe];exact ads hCs tK
     have sys:=aeJ (hM2.auto HE.out) hT hN;have HF:Hid (F1 w0 w1 d v st R 0 v2 0 w2):=hF
     clear hF hCs tK hSt hov hM2 hG2 Il Bc)
   |(go_at_call 87;refine sys.mono ?_;rintro e w3 ⟨yv,rfl,hrow,hB3⟩
     obtain⟨ya,yc,hyv⟩:=cO hrow;subst hyv;have Xf:Hid (F1 w0 w1 d v st R 0 v2 0 w3):=⟨HF.out.m.below hB3,HF.out.s,HF.out.few,HF.out.le,HF.out.ng,HF.out.ov,HF.out.g.trans (aO.dI hB3)⟩
     have HY:Hid (w3.ownsRow w2.heap.size 121 2 (.slice ya (d.T+d.N) yc) (d.T+d.N) ((lN d.T (d.T+d.N)).flatMap tL)/\∀g,(Value.slice ya (d.T+d.N) yc).ownBlock=some g->¬qF d v2 g):=⟨hrow,λg hg hk=>by
      have:=(hrow.lt g hg).1;have:=(HF.out.m.kc hk).2
      omega⟩
     clear hrow hB3 sys HF))
 go_loopw [4] (λs4 wr=> ∃(k:Nat) (v':dK) (ng:Nat),s4= .int .i64 k/\F1 w0 w1 d v st R k v' ng wr/\aO d v2 v' w3 wr) (λs _=>151-(intOf s).toNat)
 case atStart=>exact⟨0,v2,0,rfl,Xf.out,aO.refl _ _ _⟩
 case round=>
  clear Xf;obtain⟨k,v',ng,rfl,hF,hG⟩:=hrel;have HF:Hid (F1 w0 w1 d v st R k v' ng wr):=hF;have HG:Hid (aO d v2 v' w3 wr):=hG;have c6:=(hF.m.cell (i:=6) rfl (by omega)).1;obtain⟨sa,sc,hsv⟩:=hF.m.states;rw[hsv]at c6;have zy:=hF.few;have hle:=hF.le;clear hF hG hsv;by_cases hlt:k<v'.OL.length
  ·obtain⟨p,hp⟩:=af v'.OL.length
   rw[hp]at c6 zy hle hlt;have HP:Hid (v'.OL.length=p):=hp;clear hp
   go_wp2_with fail
   clear c6
   go_loopw [27] (λIm wq=> ∃(x:Nat) (v':dK) (ng:Nat),Im= .int .i64 x/\x<=d.T+d.N/\F2 w0 w1 d v st R k x v' ng wq/\aO d v2 v' w3 wq) (λs _=>d.T+d.N-(intOf s).toNat)
   case atStart=>exact⟨0,v',ng,rfl,aP _,HF.out.into (by rw[HP.out];exact hlt),HG.out⟩
   case round=>
    clear HF HG HP;obtain⟨x,v',ng,rfl,hx,hF,hG⟩:=hrel;have HF:Hid (F2 w0 w1 d v st R k x v' ng wr):=hF;have HG:Hid (aO d v2 v' w3 wr):=hG;by_cases Xg:x<d.T+d.N
    ·have hrow:=Wo HY.out.1 hG HY.out.2
     obtain⟨yg,aje,hyv,_,_⟩:=hrow.form (by omega);cases hyv
     have q:∀i,i<2->wr.cell? ⟨yg,x*2+i,none⟩=(tL (dJ d.T x))[i]?:=λi hi=>by
      rw[hrow.cellAt (x*2+i) (by omega),aeG (by rw[aeH];exact Xg) hi,aeI Xg]
     have q0:=q 0 (by omega);have q1:=q 1 (by omega);have Lh:=hF.lens HE.out;have hkl:=Vn (T:=d.T) (R:=R) (x:=x) (O:=v'.OL.getD k []) (j:=(v'.OL.getD k []).length);have hk3:=Lh k hF.lt;have EF:=aeK (x:=x) HE.out (hF.m.alloc (.cells #[.bool (dJ d.T x).1,.int .i64 (dJ d.T x).2] 121)) hF.s hF.lt;have hX:=hF.m.box #[.bool (dJ d.T x).1,.int .i64 (dJ d.T x).2] 121;have hM1:=hF.m.alloc (.cells #[.bool (dJ d.T x).1,.int .i64 (dJ d.T x).2] 121)
     have zm:dV d.T R (v'.OL.getD k []) x (v'.OL.getD k []).length≠[]->Pz R (dV d.T R (v'.OL.getD k []) x (v'.OL.getD k []).length):=λhne=>
      ⟨ac4 (hF.s.lI k hF.lt).uO,FL.2 hne,by omega,λi hi=>(hF.s.VH hF.lt i hi).1,λi hi h0=>absurd h0 (hF.s.VH hF.lt i hi).2⟩
     have hsy:0<=(dJ d.T x).2/\(dJ d.T x).2<=20:=by unfold dJ;split<;>simp<;>omega
     have aeN:=hF.few;have hkb:k<v'.OL.length:=hF.lt;have rP:=hF.ng;obtain⟨y,hy⟩:=af (dJ d.T x);have l7:Hid (dJ d.T x=y):=hy;rw[hy]at q0 q1 EF hX hM1 hsy;obtain⟨L,hL⟩:=af (dV d.T R (v'.OL.getD k []) x (v'.OL.getD k []).length);have HL:Hid (dV d.T R (v'.OL.getD k []) x (v'.OL.getD k []).length=L):=hL;rw[hL]at hkl EF zm;have aeO:Hid (L≠[]->Pz R L):=zm;have aeP:Hid (∀j,j<v'.OL.length->(v'.OL.getD j []).length<=369):=Lh;obtain⟨yb,yn⟩:=y;simp only[tL,Nat.add_zero]at q0 q1 EF hX hM1 hsy;have Cu:wr.cell? ⟨yg,x*2,none⟩=some (.bool yb):=q0;have q1':wr.cell? ⟨yg,x*2+1,none⟩=some (.int .i64 yn):=q1;obtain⟨Gx,PE⟩:=af (bE d.T ((ax d.T d.N R k).1++[(di d.T R k x (ax d.T d.N R k).2).1]));rw[PE]at hM1;have HGx:Hid (bE d.T ((ax d.T d.N R k).1++[(di d.T R k x (ax d.T d.N R k).2).1])=Gx):=PE;have tN:Hid (dL (wr.alloc (.cells #[.bool yb,.int .i64 yn] 121)) d v' wr.heap.size #[.bool yb,.int .i64 yn] 121):=hX;have tJ:Hid (aB w0 (wr.alloc (.cells #[.bool yb,.int .i64 yn] 121)) d v' Gx ng st):=hM1;have i0:(0:Int)<=(x:Int):=aF _;have i1:(x:Int)<((d.T+d.N:Nat):Int):=by omega
     have i2:(x:Int)<(d.T:Int)+(d.N:Int):=by omega
     clear hF hG hrow q q0 q1 hy hL Lh zm hX hM1 PE;by_cases hnil:L=[]
     ·subst hnil
      go_wp2_with
       (go_at_call 88;refine EF.mono ?_;rintro e w4 ⟨ov,rfl,hrow4,hB4⟩
        obtain⟨oa,oc,hov⟩:=cO hrow4;simp only[List.length_nil]at hov;subst hov;have jm:Hid (Below wr.heap.size wr w4):=((ai _ _).alloc (ah _) _).trans (hB4.mono (by simp))
        clear hrow4 hB4)
      go_roundw
      case rel=>exact⟨x+1,v',ng,by go_num,by omega,HF.out.none HL.out jm.out,HG.out.trans (aO.dI jm.out)⟩
      case measure=>simp[intOf];omega
     ·have hpos:0<L.length:=FL.2 hnil
      have e1:((L.length:Int)==0)=false:=by simp;omega
      have Hz:Hid (L≠[]):=hnil;clear hnil
      go_wp2_with
       (go_at_call 88;refine EF.mono ?_;rintro e w4 ⟨ov,rfl,hrow4,hB4⟩
        obtain⟨oa,oc,hov⟩:=cO hrow4;subst hov;have PG:=tJ.out.below hB4;have Bf:Hid (aB w0 w4 d v' Gx ng st):=PG;have Xh:Hid (dL w4 d v' wr.heap.size #[.bool yb,.int .i64 yn] 121):=tN.out.below hB4;have jm:Hid (Below wr.heap.size wr w4):=((ai _ _).alloc (ah _) _).trans (hB4.mono (by simp));have Il:=WZ HE.out PG.drew (show kr w4.drew w4.drew.heap.size _ _ from Em hrow4 rfl) (aeO.out Hz.out) aeN (λj hj=>by have:=aeP.out j hj;omega)
        clear hrow4 hB4 PG EF)
      have keep:∀{wx:World} {u:dK} {Gu:Wy->Option Value} {nu:Nat},aB w0 wx d u Gu nu st->dL wx d u wr.heap.size #[.bool yb,.int .i64 yn] 121->
       wx.cell? ⟨d.ma,7,none⟩=some (.map (some d.mg))/\wx.cell? ⟨wr.heap.size,0,none⟩=some (.bool yb)/\wx.cell? ⟨wr.heap.size,1,none⟩=some (.int .i64 yn):=λ{wx u Gu nu} hM hX=>
       ⟨(hM.cell (i:=7) rfl (by omega)).1,hX.cell rfl,hX.cell rfl⟩
      have hS4:=keep Bf.out.drew Xh.out.drew
      have rO:Hid (∀{wx:World} {u:dK} {Gu:Wy->Option Value} {nu:Nat},aB w0 wx d u Gu nu st->dL wx d u wr.heap.size #[.bool yb,.int .i64 yn] 121->
       wx.cell? ⟨d.ma,7,none⟩=some (.map (some d.mg))/\wx.cell? ⟨wr.heap.size,0,none⟩=some (.bool yb)/\wx.cell? ⟨wr.heap.size,1,none⟩=some (.int .i64 yn)):=keep
      clear keep;obtain⟨s0,s1,s2⟩:=hS4
      go_cut [] from 28 (λwx=> ∃(n:Nat) (v5:dK) (C:List It),C.Pairwise jL/\(∀i,i∈C↔Cl R (· ∈L) i)/\Hg v'.OL C n v5.OL/\v5.ov=v'.ov/\aB w0 wx d v5 (gX Gx (k,(yb,yn)) (.int .i64 n)) (ng+1) st/\aO d v' v5 wr wx)
      case first=>
       go_region_held3 (λwx=>wx.cell? ⟨d.ma,7,none⟩=some (.map (some d.mg))/\wx.cell? ⟨wr.heap.size,0,none⟩=some (.bool yb)/\wx.cell? ⟨wr.heap.size,1,none⟩=some (.int .i64 yn)) (first|assumption|exact⟨s0,s1,s2⟩|go_keep)
        (first
         |(go_at_call 85;refine Il.mono ?_;rintro e w5 ⟨n,v5,C,rfl,hCs,tK,hSt,hov,iT,vU⟩
           have PI:=Xh.out.drew.goes vU;have hS5:=rO.out iT PI;obtain⟨w6,u6,lM,tF,-⟩:=iT.jv (p:=(k,(yb,yn))) (by simp only;omega) hsy.1 (by simp only;omega) (.int .i64 n);unfold tu at u6;simp only at u6;have hS6:=rO.out lM (PI.goes tF);have H6:Hid (C.Pairwise jL/\(∀i,i∈C↔Cl R (· ∈L) i)/\Hg v'.OL C n v5.OL/\v5.ov=v'.ov/\aB w0 w6 d v5 (gX Gx (k,(yb,yn)) (.int .i64 n)) (ng+1) st/\aO d v' v5 wr w6):=⟨hCs,tK,hSt,hov,lM,((aO.dI jm.out).drew.trans vU).trans tF⟩
           clear hCs tK hSt hov iT vU PI lM tF))
       all_goals
        go_wp2_with fail
        go_meet
        case rel=>exact⟨n,v5,C,H6.out⟩
      case rest=>
       obtain⟨n,v5,C,hCs,tK,hSt,hov,iT,vU⟩:=hcut;have c6:=(iT.cell (i:=6) rfl (by omega)).1;obtain⟨sa5,sc5,EB⟩:=iT.states;rw[EB]at c6;obtain⟨r1,r2⟩:=HF.out.some (by rw[HL.out];exact Hz.out) hCs (by rw[HL.out];exact tK) hSt (by rw[HGx.out,l7.out];exact iT) hov vU;have Xi:=r1.len
       have hp5:v5.OL.length<=151:=by
        rcases hSt with⟨_,_,e2⟩|⟨_,_,e2⟩
        ·rw[e2];omega
        ·rw[e2,aS,List.length_cons,List.length_nil];omega
       have HR2:Hid (v5.OL.length<=150->F2 w0 w1 d v st R k (x+1) v5 (ng+1) wc):=r2;have Xj:Hid (150<v5.OL.length->More d.T d.N R 150):=λhgt=>⟨k,x+1,HF.out.b,by omega,by rw[<-Xi];exact hgt⟩;have zh:Hid (aO d v' v5 wr wc):=vU;have PK:Hid (Below w0.heap.size w1 wc):=(HM.out.rC HF.out.g).trans (HF.out.m.rC vU);obtain⟨p5,hp⟩:=af v5.OL.length;rw[hp]at c6 hp5 HR2 Xj;clear hCs tK hSt hov iT vU EB r1 r2 Xi s0 s1 s2 Il hp;by_cases hgt:p5<=150
       ·have d1:decide (150<p5)=false:=aU (by omega)
        go_wp2_with fail
        go_roundw
        case rel=>exact⟨x+1,v5,ng+1,by go_num,by omega,HR2.out hgt,HG.out.trans zh.out⟩
        case measure=>simp[intOf];omega
       ·have d1:decide (150<p5)=true:=aT (by omega)
        go_wp2_with fail
        go_ret;exact .inl ⟨rfl,Xj.out (by omega),PK.out⟩
    ·obtain rfl:x=d.T+d.N:=by omega
     clear hF hG
     go_wp2_with fail
     go_roundw
     case rel=>exact⟨k+1,v',ng,by go_num,HF.out.out (by omega),HG.out⟩
     case measure=>simp[intOf];omega
  ·have HE2:Hid (v'.OL.length=k):=by show v'.OL.length=k;omega
   go_wp2_with fail
   go_ret;exact .inr ⟨rfl,k,v',ng,HF.out,HE2.out⟩
section
variable{w:World}{base:Nat}{sv nv:Value}{vi vr:Nat->Value}{OL:List (List It)}{NL:List (List Int)}{c l:Option Row}
end
section
variable{w wr:World}{ab lim T N:Nat}{rv sv nv:Value}{R:List Ru}
end
section
variable{w wr:World}{ab lim T N:Nat}{rv sv nv lv:Value}{R:List Ru}{vi vr:Nat->Value}{OL:List (List It)}{NL:List (List Int)}
end
section
variable{w:World}{base T m jc:Nat}{OL:List (List It)}{lv:Value}{vl:Nat->Value}{vb:Nat->Nat->Value}
end
section
variable{w w':World}{base ab lim T N:Nat}{OL:List (List It)}{NL:List (List Int)}{rv sv nv lv nuv fiv:Value}{vi vr vl:Nat->Value}{vb:Nat->Nat->Value}{R:List Ru}{Nu:List Bool}{Fi:List (List Bool)}
end
section
variable{w wr:World}{sh:Int}{L:List Int}{en:Bool}{rv:Value}
end
theorem Xk{w:World}{base n:Nat}{v:Value}{X:List Int}(h:w.ownsRow base 3 1 v n (X.map (Value.int .i64))):aY w w.heap.size v X:=by
 have hl:X.length=n:=by simpa using h.1
 obtain⟨a,c,hv⟩:=cO h;refine⟨⟨a,c,by rw[hv,hl]⟩,λi hi=> ?_⟩;obtain⟨g,cap,rfl,_,_⟩:=h.form (by omega);refine⟨g,0,cap,by rw[hl],(h.lt g rfl).2,?_⟩;rw[eO,h.cellAt i (by omega)];simp[List.getD,hi]
section
variable{w:World}{base:Nat}{cv gv:Value}{vc vg:Nat->Value}{vr:Nat->Nat->Value}{C:List (List Ce)}{G:List (List Int)}
end
def Says(G:Wy->Option Value)(p:Wy)(z:Int):Prop:=G p=some (.int .i64 z)\/(G p=none/\z= -1)
theorem Xl{w0 w:World}{d:gL}{v:dK}{G:Wy->Option Value}{ng:Nat}{st:LS}{k:Nat}{sb:Bool}{sv z:Int}(h:aB w0 w d v G ng st)(hk:k<=1000)(h0:0<=sv)(h1:sv<=1000)(rP:ng<=10000000)(hz:Says G (k,(sb,sv)) z):
 Calls Tryz.prog 125 #[.pointer (some ⟨d.ma,0,none⟩),.int .i64 k,.agg #[.bool sb,.int .i64 sv]] w λe w'=>e= .returned (.int .i64 z)/\Below w.heap.size w w':=by
 have hM:=h.alloc (.cells #[.bool sb,.int .i64 sv] 121);have l1:=hM.drew.V9 (p:=(k,(sb,sv))) hk h0 h1 rP true;have c7:=(hM.cell (i:=7) rfl (by omega)).1;unfold tu at l1;simp only[bQ]at l1;have hb:Below w.heap.size w (w.alloc (.cells #[.bool sb,.int .i64 sv] 121)).drew:=((ai _ _).alloc (ah _) _).drew;rcases hz with hz|⟨hz,rfl⟩
 ·rw[hz]at l1
  simp only[Option.getD_some,Option.isSome_some]at l1;have HB:Hid (Below w.heap.size w (w.alloc (.cells #[.bool sb,.int .i64 sv] 121)).drew):=hb;clear h hM hz hb
  go_enter Tryz.func125,Tryz.ntmps125
  go_wp2_with fail
  go_region
  all_goals
   go_wp2_with fail
   go_ret;exact⟨rfl,HB.out⟩
 ·rw[hz]at l1
  simp only[Option.getD_none,Option.isSome_none]at l1;have HB:Hid (Below w.heap.size w (w.alloc (.cells #[.bool sb,.int .i64 sv] 121)).drew):=hb;clear h hM hz hb
  go_enter Tryz.func125,Tryz.ntmps125
  go_wp2_with fail
  go_region
  all_goals
   go_wp2_with fail
   go_ret;exact⟨rfl,HB.out⟩
theorem aeQ{N n:Nat}{Z:Nat->Int}:((List.range N).map λj=>if j<n then Z j else 0).set n (Z n)=(List.range N).map λj=>if j<n+1 then Z j else 0:=by
 apply wP (by simp);intro i h1 h2;simp only[qU,cK,qR]at h1;rw[List.getElem_set];simp only[List.getElem_map,List.getElem_range];by_cases e:n=i
 ·subst e;simp
 ·rw[aj e]
  by_cases h:i<n
  ·rw[au h,au (by omega)]
  ·rw[aj h,aj (by omega)]
theorem aeR{w0 w:World}{d:gL}{v:dK}{G:Wy->Option Value}{ng:Nat}{st:LS}{k:Nat}{Z:Nat->Int}(h:aB w0 w d v G ng st)(hN:d.N<=12)(hN1:1<=d.N)(hk:k<=1000)(rP:ng<=10000000)(hZ:∀n,n<d.N->Says G (k,(false,(n:Int))) (Z n)):
 Calls Tryz.prog 93 #[.pointer (some ⟨d.ma,0,none⟩),.int .i64 k] w λe w'=> ∃g,e= .returned (.slice (some ⟨g,0,none⟩) d.N d.N)/\fO w' w.heap.size g d.N ((List.range d.N).map Z)/\Below w.heap.size w w':=by
 have c1:=(h.cell (i:=1) rfl (by omega)).1;have HM:Hid (aB w0 w d v G ng st):=h;have HZ:Hid (∀n,n<d.N->Says G (k,(false,(n:Int))) (Z n)):=hZ;have Ap:=Tq d.N (by omega)
 have EG:Hid (fO (w.alloc (.cells (madeCells #[.int .i64 0] d.N) 3)) w.heap.size w.heap.size d.N ((List.range d.N).map λj=>if j<0 then Z j else 0)):=by
  have:=Tt w (N:=d.N) (by unfold maxLen;omega)
  have e:((List.range d.N).map λj=>if j<0 then Z j else 0)=List.replicate d.N 0:=by
   apply wP (by simp);intro i h1 h2;simp
  show fO _ _ _ _ _;rw[e];exact this
 have HB0:Hid (Below w.heap.size w (w.alloc (.cells (madeCells #[.int .i64 0] d.N) 3))):=(ai _ _).alloc (ah _) _;clear h hZ
 go_enter Tryz.func93,Tryz.ntmps93
 go_wp2_with fail
 clear Ap c1;generalize w.alloc (.cells (madeCells #[.int .i64 0] d.N) 3)=W1 at EG HB0⊢;obtain⟨g,hg⟩:=af w.heap.size;have HGB:Hid (w.heap.size=g):=hg;rw[show (Value.slice (some { block:=w.heap.size,off:=0 }) d.N d.N)=(Value.slice (some { block:=g,off:=0 }) d.N d.N) by rw[hg]];rw[show fO W1 w.heap.size w.heap.size d.N ((List.range d.N).map λj=>if j<0 then Z j else 0)=fO W1 w.heap.size g d.N ((List.range d.N).map λj=>if j<0 then Z j else 0) by rw[hg]]at EG;clear hg
 go_loopw [15] (λs15 wr=> ∃n:Nat,s15= .int .i64 n/\n<=d.N/\fO wr w.heap.size g d.N ((List.range d.N).map λj=>if j<n then Z j else 0)/\Below w.heap.size w wr) (λs _=>d.N-(intOf s).toNat)
 case atStart=>exact⟨0,rfl,aP _,EG.out,HB0.out⟩
 case round=>
  obtain⟨n,rfl,hn,hR,hB⟩:=hrel;have HR:Hid (fO wr w.heap.size g d.N ((List.range d.N).map λj=>if j<n then Z j else 0)):=hR;have HB:Hid (Below w.heap.size w wr):=hB;by_cases hlt:n<d.N
  ·have got:=Xl (HM.out.below hB) hk (sb:=false) (sv:=(n:Int)) (by omega) (by omega) rP (HZ.out n hlt)
   obtain⟨z,hz⟩:=af (Z n);rw[hz]at got;have Ld:Hid (Z n=z):=hz;have hgl:g<wr.heap.size:=(World.ownsRow.lt hR g rfl).2;obtain⟨x0,xf⟩:=hR.cell hlt;have HS:=aeQ (N:=d.N) (n:=n) (Z:=Z);have i0:(0:Int)<=(n:Int):=aF _;have i1:(n:Int)<(d.N:Int):=by omega
   have HS':Hid (((List.range d.N).map λj=>if j<n then Z j else 0).set n z=(List.range d.N).map λj=>if j<n+1 then Z j else 0):=by rw[<-hz];exact HS
   obtain⟨y,hy⟩:=af (((List.range d.N).map λj=>if j<n then Z j else 0).getD n 0);rw[hy]at x0;clear hR hB hz HS hy
   go_wp2_with
    (go_at_call 125;refine got.mono ?_;rintro e w2 ⟨rfl,hB2⟩
     have x2:=(hB2.cell (p:=⟨g,n,none⟩) hgl).trans x0;have f2:=(hB2.frozen (p:=⟨g,n,none⟩) hgl).trans xf;have HR2:Hid (fO w2 w.heap.size g d.N ((List.range d.N).map λj=>if j<n then Z j else 0)):=HR.out.below hB2;have HB2:Hid (Below w.heap.size w w2):=HB.out.trans (hB2.mono HB.out.size)
     clear hB2)
   go_roundw
   case rel=>exact⟨n+1,by go_num,by omega,by rw[<-HS'.out];exact HR2.out.set n z,HB2.out.setCell (by simp only;have:=HGB.out;omega) _⟩
   case measure=>simp[intOf];omega
  ·obtain rfl:n=d.N:=by omega
   have HE:Hid (((List.range d.N).map λj=>if j<d.N then Z j else 0)=(List.range d.N).map Z):=yH λj hj=>by rw[au (jC.1 hj)]
   clear hR hB
   go_wp2_with fail
   go_ret;exact⟨g,rfl,by rw[<-HE.out];exact HR.out,HB.out⟩
inductive PN where
 |cl
 |rl (n:Nat)
 deriving DecidableEq
def qh(vr:Nat->Value)(f:Nat->Ce)(M:Nat):List Value:=(List.range M).flatMap λn=>[.int .i64 (f n).1,vr n,.bool (f n).2.2]
theorem Cx(vr:Nat->Value)(f:Nat->Ce)(M:Nat):(qh vr f M).length=M*3:=by
 induction M with
 |zero=>rfl
 |succ m ih=>
  unfold qh at ih⊢;rw[pF,qQ,aS,ih];simp;omega
theorem EH{vr:Nat->Value}{f:Nat->Ce}{M i o:Nat}(hi:i<M)(ho:o<3):(qh vr f M)[i*3+o]?=[Value.int .i64 (f i).1,vr i,.bool (f i).2.2][o]?:=by
 induction M with
 |zero=>omega
 |succ m ih=>
  have e:qh vr f (m+1)=qh vr f m++[.int .i64 (f m).1,vr m,.bool (f m).2.2]:=by unfold qh;rw[pF,qQ];simp
  rw[e];rcases fJ.1 hi with h|rfl
  ·rw[vo (by rw[Cx];omega)]
   exact ih h
  ·rw[o9 (by rw[Cx];omega),Cx]
   simp
theorem Xm{vr mZ:Nat->Value}{f f':Nat->Ce}{M n o:Nat}{u:Value}(ho:o<3)(hother:∀i,i≠n->mZ i=vr i/\f' i=f i)(hat:[Value.int .i64 (f' n).1,mZ n,.bool (f' n).2.2]=[Value.int .i64 (f n).1,vr n,.bool (f n).2.2].set o u):
 (qh vr f M).set (n*3+o) u=qh mZ f' M:=by
 apply FJ;intro t;by_cases ht:t<M*3
 ·have hi:t/3<M:=by omega
  have hr:t%3<3:=by omega
  have et:t=t/3*3+t%3:=by omega
  have h2:=EH (vr:=mZ) (f:=f') hi hr;rw[<-et]at h2;rw[h2,List.getElem?_set];by_cases e:n*3+o=t
  ·have e1:t/3=n:=by omega
   have e2:t%3=o:=by omega
   rw[au e,au (by rw[Cx];omega),e1,e2,hat,JM (by simpa using ho)]
  ·rw[aj e]
   have h1:=EH (vr:=vr) (f:=f) hi hr;rw[<-et]at h1;rw[h1];by_cases e1:t/3=n
   ·have e2:o≠t%3:=by omega
    rw[e1,hat,Du e2]
   ·obtain⟨a,b⟩:=hother _ e1
    rw[a,b]
 ·rw[nJ (by rw[qU,Cx];omega),nJ (by rw[Cx];omega)]
def cB(cg:Nat)(vr:Nat->Value)(f:Nat->Ce)(M:Nat):PN->Option Row
 | .cl=>some ⟨.slice (some ⟨cg,0,none⟩) M M,117,3,M,qh vr f M⟩
 | .rl n=>if n<M then some ⟨vr n,3,1,(f n).2.1.length,(f n).2.1.map (Value.int .i64)⟩ else none
def fA{α:Type}(f:Nat->α)(n:Nat)(c:α):Nat->α:=λi=>if i=n then c else f i
def mr(R:List Ru)(r:Nat)(c:Ce):Ce:=if r=R.length then (c.1,c.2.1,true) else (c.1,c.2.1++[(r:Int)],c.2.2)
section
variable{w w':World}{B cg M n:Nat}{vr:Nat->Value}{f:Nat->Ce}
theorem PO(h:aA w B (cB cg vr f M))(hn:n<M):w.cell? ⟨cg,n*3,none⟩=some (.int .i64 (f n).1)/\w.cell? ⟨cg,n*3+1,none⟩=some (vr n)/\w.cell? ⟨cg,n*3+2,none⟩=some (.bool (f n).2.2)/\(∀o,w.frozen? ⟨cg,o,none⟩=false)/\B<=cg/\cg<w.heap.size:=by
 have hr:w.ownsRow B 117 3 (.slice (some ⟨cg,0,none⟩) M M) M (qh vr f M):=h.own .cl _ rfl;refine⟨?_,?_,?_,λo=>hr.frozenAt o,(hr.lt cg rfl).1,(hr.lt cg rfl).2⟩
 ·rw[hr.cellAt _ (by omega)];exact EH (o:=0) hn (by omega)
 ·rw[hr.cellAt _ (by omega)];exact EH (o:=1) hn (by omega)
 ·rw[hr.cellAt _ (by omega)];exact EH (o:=2) hn (by omega)
theorem Li(h:aA w B (cB cg vr f M))(hn:n<M):w.ownsRow B 3 1 (vr n) (f n).2.1.length ((f n).2.1.map (Value.int .i64)):=h.own (.rl n) ⟨vr n,3,1,(f n).2.1.length,(f n).2.1.map (Value.int .i64)⟩ (by simp[cB,hn])
theorem Xn(h:aA w B (cB cg vr f M))(hn:n<M){o:Nat}(ho:o<3){u:Value}{c:Ce}(hr:c.2.1=(f n).2.1)(hat:[Value.int .i64 c.1,vr n,.bool c.2.2]=[Value.int .i64 (f n).1,vr n,.bool (f n).2.2].set o u):aA (w.setCell ⟨cg,n*3+o,none⟩ u) B (cB cg vr (fA f n c) M):=by
 have h1:=h.store (i:= .cl) (g:=cg) (n:=M) (cap:=M) (e:=117) (size:=3) (xs:=qh vr f M) rfl (n*3+o) u
 have e:upd (cB cg vr f M) .cl ⟨.slice (some ⟨cg,0,none⟩) M M,117,3,M,(qh vr f M).set (n*3+o) u⟩=cB cg vr (fA f n c) M:=by
  rw[Xm (f':=fA f n c) (mZ:=vr) ho (λi hi=>⟨rfl,by simp[fA,hi]⟩) (by simp only[fA,bQ];exact hat)]
  funext i
  cases i with
  |cl=>simp[upd,cB]
  |rl i=>
   by_cases hi:i=n
   ·subst hi;simp[upd,cB,fA,hr]
   ·simp[upd,cB,fA,hi]
 rwa [e]at h1
theorem aeS(h:aA w B (cB cg vr f M))(hn:n<M){nv:Value}{r:Int}(hg:w.grownBy w' (vr n).ownBlock)(ho:w'.ownsRow B 3 1 nv ((f n).2.1.length+1) ((f n).2.1.map (Value.int .i64)++[.int .i64 r]))(hat:∀g,nv.ownBlock=some g->(vr n).ownBlock=some g\/g=w.heap.size):
 aA (w'.setCell ⟨cg,n*3+1,none⟩ nv) B (cB cg (fA vr n nv) (fA f n ((f n).1,(f n).2.1++[r],(f n).2.2)) M):=by
 have h1:=h.turn (i:= .rl n) (r:=⟨vr n,3,1,(f n).2.1.length,(f n).2.1.map (Value.int .i64)⟩) (r':=⟨nv,3,1,(f n).2.1.length+1,(f n).2.1.map (Value.int .i64)++[.int .i64 r]⟩) (by simp[cB,hn]) hg ho hat;have h2:=h1.store (i:= .cl) (g:=cg) (n:=M) (cap:=M) (e:=117) (size:=3) (xs:=qh vr f M) (by simp[upd,cB]) (n*3+1) nv
 have e:upd (upd (cB cg vr f M) (.rl n) ⟨nv,3,1,(f n).2.1.length+1,(f n).2.1.map (Value.int .i64)++[.int .i64 r]⟩) .cl ⟨.slice (some ⟨cg,0,none⟩) M M,117,3,M,(qh vr f M).set (n*3+1) nv⟩=cB cg (fA vr n nv) (fA f n ((f n).1,(f n).2.1++[r],(f n).2.2)) M:=by
  rw[Xm (f':=fA f n ((f n).1,(f n).2.1++[r],(f n).2.2)) (mZ:=fA vr n nv) (by omega) (λi hi=>⟨by simp[fA,hi],by simp[fA,hi]⟩) (by simp[fA])]
  funext i
  cases i with
  |cl=>simp[upd,cB]
  |rl i=>
   by_cases hi:i=n
   ·subst hi;simp[upd,cB,fA,hn]
   ·simp[upd,cB,fA,hi]
 rwa [e]at h2
end
theorem aeT{w:World}{lim ab T N B cg M n r:Nat}{rv:Value}{R:List Ru}{vr:Nat->Value}{f:Nat->Ce}(hA:jT w lim ab T N rv R)(hO:aA w B (cB cg vr f M))(hB:B<=w.heap.size)(hn:n<M)(hl:(f n).2.1.length<=1000):
 Calls Tryz.prog 127 #[.pointer (some ⟨ab,0,none⟩),.pointer (some ⟨cg,n*3,none⟩),.int .i64 r] w λe w'=>e= .returned (.tuple #[])/\∃mZ,aA w' B (cB cg mZ (fA f n (mr R r (f n))) M)/\(∀i g,(mZ i).ownBlock=some g->(vr i).ownBlock=some g\/w.heap.size<=g)/\Kept (λb=>b=cg\/(vr n).ownBlock=some b) w w':=by
 have Bc:=KU hA;obtain⟨c0,c1,c2,cf,hcB,hcl⟩:=PO hO hn;have HO:Hid (aA w B (cB cg vr f M)):=hO;have hrl:=Li hO hn;by_cases hr:r=R.length
 ·subst hr
  have HP:Hid (mr R R.length (f n)=((f n).1,(f n).2.1,true)):=by show mr R R.length (f n)=_;simp[mr]
  have f2:=cf (n*3+2);have e1:((R.length:Int)==(R.length:Int))=true:=by simp
  clear hA hO hrl c0 c1 cf
  go_enter Tryz.func127,Tryz.ntmps127
  go_wp2_with (go_at_call 86;refine Bc.mono ?_;rintro e w1 ⟨rfl,rfl⟩)
  refine aH (v:= .tuple #[]) (Af Tryz.results127 _ _ _) rfl ?_;refine⟨rfl,vr,?_,λi g hg=> .inl hg,(Kept.refl _ _).setCell (.inl rfl) _⟩;rw[HP.out];exact Xn HO.out hn (by omega) rfl (by simp)
 ·have HP:Hid (mr R r (f n)=((f n).1,(f n).2.1++[(r:Int)],(f n).2.2)):=by show mr R r (f n)=_;simp[mr,hr]
  have e1:((r:Int)==(R.length:Int))=false:=by simpa using λh=>hr (by omega)
  have f1:=cf (n*3+1);obtain⟨ra,rc,aI⟩:=cO hrl;have bV:=hrl.alloc (.cells #[.int .i64 r] 3);rw[aI]at c1 bV;have Io:Hid (vr n= .slice ra (f n).2.1.length rc):=aI;have ku:=jh (cs:= #[.int .i64 r]) (t:=3) (fr:=(0,0)) (heap_alloc_new w (.cells #[.int .i64 r] 3));have hne:some cg≠(Value.slice ra (f n).2.1.length rc).ownBlock:=λe=>hO.apart .cl (.rl n) _ ⟨vr n,3,1,(f n).2.1.length,(f n).2.1.map (Value.int .i64)⟩ (by simp) rfl (by simp[cB,hn]) cg rfl (by show (vr n).ownBlock=_;rw[aI];exact e.symm);have HRB:Hid (∀g,(Value.slice ra (f n).2.1.length rc).ownBlock=some g->B<=g):=λg hg=>by rw[<-aI]at hg;exact(hrl.lt g hg).1
  obtain⟨p,hp⟩:=af ((f n).2.1.length);rw[hp]at c1 bV hne Io HRB hl;have Lj:Hid ((f n).2.1.length=p):=hp;have n1:p+1<=maxLen:=by unfold maxLen;omega
  have n2:(p+1)*8<=140737488355328:=by omega
  obtain⟨i0,hi0,hz0,hz1,hz2⟩:=fK Tryz.infoInt;have c1':(w.alloc (.cells #[.int .i64 r] 3)).cell? ⟨cg,n*3+1,none⟩=some (.slice ra p rc):=(dB _ _ _ hcl).trans c1;have f1':(w.alloc (.cells #[.int .i64 r] 3)).frozen? ⟨cg,n*3+1,none⟩=false:=(((ai _ w).alloc (ah _) _).frozen (p:=⟨cg,n*3+1,none⟩) hcl).trans f1;clear hA hO hrl c0 c2 cf aI hp
  go_enter Tryz.func127,Tryz.ntmps127
  go_wp2_with
   (first
    |(go_at_call 86;refine Bc.mono ?_;rintro e w1 ⟨rfl,rfl⟩)
    |(at_builtin
      (refine ow _ rfl _ _ _ rfl B 3 i0 _ 1 8 Tryz.underlying39 hi0 hz0 hz1 hz2 rfl (by omega) (.slice ra p rc) p ((f n).2.1.map (Value.int .i64)) rfl bV ⟨w1.heap.size,0,none⟩ 1 1 [.int .i64 r] rfl rfl ku (by simp[Value.oneCell']) (by omega) n1 n2 (by simp;omega) (w1.heap.size+1) (by simp) ?_)
      intro g6 cap6 w6 hown6 fP oL vN;have c6:=(fP.cell_far ⟨cg,n*3+1,none⟩ (by simp;omega) hne).trans c1'
      have f6:=(fP.frozen_far ⟨cg,n*3+1,none⟩ (by simp;omega) hne).trans f1'))
  go_end0
  have hal:aA (w1.alloc (.cells #[.int .i64 r] 3)) B (cB cg vr f M):=HO.out.alloc _
  have hfin:=aeS (r:=(r:Int)) (nv:= .slice (some ⟨g6,0,none⟩) (p+1) cap6) hal hn (by rw[Io.out];exact fP) (by rw[Lj.out];exact hown6) (λg' hg'=>by
   obtain rfl:g6=g':=by simpa [Value.ownBlock] using hg'
   rw[Io.out]
   simpa using oL)
  refine⟨rfl,_,by rw[HP.out];exact hfin,λi g hg=> ?_,?_⟩
  ·unfold fA at hg
   split at hg
   ·rename_i e
    subst e;obtain rfl:g6=g:=by simpa [Value.ownBlock] using hg
    rw[Io.out];rcases oL with h5|h5
    ·exact .inl h5
    ·exact .inr (by omega)
   ·exact .inl hg
  ·have k1:Kept (λb=>b=cg\/(vr n).ownBlock=some b) w1 (w1.alloc (.cells #[.int .i64 r] 3)):=(Kept.refl _ _).alloc _
   have k2:Kept (λb=>b=cg\/(vr n).ownBlock=some b) (w1.alloc (.cells #[.int .i64 r] 3)) w6:=⟨fP.os,fP.tape,fP.output,fP.size,λb hb hK=>fP.block b hb λe=>hK (.inr (by rw[Io.out];exact e.symm))⟩;exact(k1.trans k2).setCell (.inl rfl) _
def oQ(R:List Ru)(lk:bB->Nat)(k n:Nat)(it:It):Bool:=decide (it.2=(aR R it.1).length)&&(lk (k,it)).testBit n
def dG(R:List Ru)(lk:bB->Nat)(k n:Nat)(L:List It)(c:Ce):Ce:=L.foldl (λc it=>if oQ R lk k n it then mr R it.1 c else c) c
theorem aeU{R:List Ru}{lk:bB->Nat}{k n i:Nat}{O:List It}{c:Ce}{it:It}(hi:i<O.length)(hit:O.getD i (0,0)=it):dG R lk k n (O.take (i+1)) c=if oQ R lk k n it then mr R it.1 (dG R lk k n (O.take i) c) else dG R lk k n (O.take i) c:=by
 have e:O[i]=it:=by rw[<-hit,Lb hi]
 unfold dG;rw[fT hi,FK,e];rfl
theorem aeV(R:List Ru)(r:Nat)(c:Ce):(mr R r c).2.1.length<=c.2.1.length+1:=by unfold mr;split<;>simp
theorem aeW{R:List Ru}{lk:bB->Nat}{k n:Nat}:∀(L:List It) (c:Ce),(dG R lk k n L c).2.1.length<=c.2.1.length+L.length:=by
 intro L
 induction L with
 |nil=>intro c;exact ah _
 |cons it L ih=>
  intro c;have h1:=ih (if oQ R lk k n it then mr R it.1 c else c)
  have h2:(if oQ R lk k n it then mr R it.1 c else c).2.1.length<=c.2.1.length+1:=by
   split
   ·exact aeV _ _ _
   ·omega
  show (dG R lk k n L (if oQ R lk k n it then mr R it.1 c else c)).2.1.length<=_;simp only[List.length_cons];omega
theorem Bg{cg M:Nat}{vr:Nat->Value}{f f':Nat->Ce}(h:∀n,n<M->f n=f' n):cB cg vr f M=cB cg vr f' M:=by
 funext i
 cases i with
 |cl=>
  simp only[cB]
  congr 2
  unfold qh;simp only[List.flatMap_def]
  congr 1
  exact yH λn hn=>by rw[h n (jC.1 hn)]
 |rl n=>
  simp only[cB];by_cases hn:n<M
  ·rw[au hn,au hn,h n hn]
  ·rw[aj hn,aj hn]
theorem Tryz.infoCe:(Tryz.prog.info? 117).map (λi=>(i.zero,i.size,i.bytes))=some (some (.agg #[.int .i64 0,.slice none 0 0,.bool false]),3,40):=by kernel_rfl
theorem aeX(n:Nat)(hn:n<=1000000)(u:World):(Instr.makeSlice 115 (.int .i64 n) (.int .i64 n)).run Tryz.prog u= .ok (.slice (some ⟨u.heap.size,0,none⟩) n n) (u.alloc (.cells (madeCells #[.int .i64 0,.slice none 0 0,.bool false] (n*3)) 117)):=by
 obtain⟨i0,hi,hz0,hz1,hz2⟩:=fK Tryz.infoCe;have h:=run_make (P:=Tryz.prog) u 115 117 i0 (.agg #[.int .i64 0,.slice none 0 0,.bool false]) Tryz.underlying115 hi hz0 .i64 .i64 n n (by omega) (su _) (by rw[hz2];omega) (by omega);simpa [hz1,Value.cells] using h
theorem aeY(M:Nat):(madeCells #[.int .i64 0,.slice none 0 0,.bool false] (M*3)).toList=qh (λ_=> .slice none 0 0) (λ_=>(0,[],false)) M:=by
 apply FJ;intro t;by_cases ht:t<M*3
 ·have h1:=EH (vr:=λ_=> .slice none 0 0) (f:=λ_=>((0,[],false):Ce)) (M:=M) (i:=t/3) (o:=t%3) (by omega) (by omega)
  rw[show t/3*3+t%3=t by omega]at h1;rw[h1];unfold madeCells;have hc:t%3=0\/t%3=1\/t%3=2:=by omega
  rcases hc with e|e|e<;>simp[ht,e]
 ·rw[nJ (by simp[size_madeCells];omega),nJ (by rw[Cx];omega)]
theorem aeZ(w:World){M:Nat}(hM:M<=100):aA (w.alloc (.cells (madeCells #[.int .i64 0,.slice none 0 0,.bool false] (M*3)) 117)) w.heap.size (cB w.heap.size (λ_=> .slice none 0 0) (λ_=>(0,[],false)) M):=by
 have h1:=sM (base:=w.heap.size) (e:=117) (size:=3) w (madeCells #[.int .i64 0,.slice none 0 0,.bool false] (M*3)) M (ah _) (by unfold maxLen;omega) (by simp[size_madeCells]);rw[aeY]at h1;refine⟨λi r hr=> ?_,λi j a b hij ha hb g h2 h3=> ?_⟩
 ·cases i with
  |cl=>simp only[cB,bM]at hr;subst hr;exact h1
  |rl n=>
   simp only[cB]at hr;split at hr
   ·simp only[bM]at hr;subst hr;exact ji _ _ _ _
   ·cases hr
 ·have nil:∀n r,cB w.heap.size (λ_=> .slice none 0 0) (λ_=>(0,[],false)) M (.rl n)=some r->r.v.ownBlock=none:=λn r hr=>by
   simp only[cB]at hr;split at hr
   ·simp only[bM]at hr;subst hr;rfl
   ·cases hr
  cases i with
  |cl=>
   cases j with
   |cl=>exact hij rfl
   |rl n=>rw[nil n b hb]at h3;cases h3
  |rl n=>rw[nil n a ha]at h2;cases h2
theorem ae0{w0 w:World}{d:gL}{v:dK}{G:Wy->Option Value}{ng:Nat}{st:LS}{R:List Ru}{Nu:List Bool}{Fi:List (List Bool)}{Ls:List aV}{k:Nat}{Z:Nat->Int}(E:kM w0 d R Nu Fi)(h:aB w0 w d v G ng st)(hS:kK R v.OL Ls)(hk:k<v.OL.length)(few:v.OL.length<=150)(rP:ng<=10000000)(hc:st.c<=10000000)(hlk:∀s,st.lk s<512)
 (hZ:∀n,n<=d.T->Says G (k,(true,(n:Int))) (Z n)):
 Calls Tryz.prog 92 #[.pointer (some ⟨d.ma,0,none⟩),.int .i64 k] w λe w'=> ∃cg vr,e= .returned (.slice (some ⟨cg,0,none⟩) (d.T+1) (d.T+1))/\aA w' w.heap.size (cB cg vr (λn=>dG R st.lk k n (v.OL.getD k []) (Z n,[],false)) (d.T+1))/\Below w.heap.size w w':=by
 have hT:=E.hT
 have hlen:(v.OL.getD k []).length<=369:=by
  have:=KH E.Co (hS.lI k hk).uO (hS.ok k hk);have:=E.hR;omega
 have rQ:Hid (∀t∈v.OL.getD k [],qb R t):=hS.ok k hk;have HE:Hid (kM w0 d R Nu Fi):=E;have HM:Hid (aB w0 w d v G ng st):=h;have HZ:Hid (∀n,n<=d.T->Says G (k,(true,(n:Int))) (Z n)):=hZ;have OG:Hid (∀s,st.lk s<512):=hlk;have a0:=(h.cell (i:=0) rfl (by omega)).1;have PS:=aeX (d.T+1) (by omega);rw[show ((d.T+1:Nat):Int)=(d.T:Int)+1 from rfl]at PS
 have Bj:Hid (aA (w.alloc (.cells (madeCells #[.int .i64 0,.slice none 0 0,.bool false] ((d.T+1)*3)) 117)) w.heap.size (cB w.heap.size (λ_=> .slice none 0 0) (λn=>(if n<0 then Z n else 0,[],false)) (d.T+1))):=by
  show aA _ _ _;have:=aeZ w (M:=d.T+1) (by omega);rw[Bg (f':=λn=>(if n<0 then Z n else 0,[],false)) (λn _=>by simp)]at this;exact this
 have HB0:Hid (Below w.heap.size w (w.alloc (.cells (madeCells #[.int .i64 0,.slice none 0 0,.bool false] ((d.T+1)*3)) 117))):=(ai _ _).alloc (ah _) _;have HK:Hid (k<v.OL.length):=hk;obtain⟨M,zA⟩:=af (d.T+1);have HMT:Hid (d.T+1=M):=zA;have hM8:M<=9:=by omega
 rw[zA]at PS Bj HB0⊢;clear E h hS hZ hlk zA
 go_enter Tryz.func92,Tryz.ntmps92
 go_wp2_with fail
 clear PS a0;generalize w.alloc (.cells (madeCells #[.int .i64 0,.slice none 0 0,.bool false] (M*3)) 117)=W1 at Bj HB0⊢;obtain⟨cg,hcg⟩:=af w.heap.size;rw[show (Value.slice (some { block:=w.heap.size,off:=0 }) M M)=(Value.slice (some { block:=cg,off:=0 }) M M) by rw[hcg]];rw[show cB w.heap.size (λ_=> .slice none 0 0) (λn=>(if n<0 then Z n else 0,[],false)) M=cB cg (λ_=> .slice none 0 0) (λn=>(if n<0 then Z n else 0,[],false)) M by rw[hcg]]at Bj;clear hcg
 go_loopw [22] (λPU wr=> ∃n:Nat,PU= .int .i64 n/\n<=M/\aA wr w.heap.size (cB cg (λ_=> .slice none 0 0) (λj=>(if j<n then Z j else 0,[],false)) M)/\Below w.heap.size w wr) (λs _=>M-(intOf s).toNat)
 case atStart=>exact⟨0,rfl,aP _,Bj.out,HB0.out⟩
 case round=>
  clear Bj HB0;obtain⟨n,rfl,hn,hO,hB⟩:=hrel;have HO:Hid (aA wr w.heap.size (cB cg (λ_=> .slice none 0 0) (λj=>(if j<n then Z j else 0,[],false)) M)):=hO;have HB:Hid (Below w.heap.size w wr):=hB;by_cases hlt:n<M
  ·have got:=Xl (HM.out.below hB) (k:=k) (by have:=HK.out;omega) (sb:=true) (sv:=(n:Int)) (by omega) (by omega) rP (HZ.out n (by have:=HMT.out;omega))
   obtain⟨z,hz⟩:=af (Z n);rw[hz]at got;have Ld:Hid (Z n=z):=hz;obtain⟨x0,_,_,xf,hcB,hcl⟩:=PO hO hlt;simp only[Dx,bN]at x0;have xf0:=xf (n*3);have i0:(0:Int)<=(n:Int):=aF _;have i1:(n:Int)<(M:Int):=by omega
   clear hO hB hz xf
   go_wp2_with
    (go_at_call 125;refine got.mono ?_;rintro e w2 ⟨rfl,hB2⟩
     have x2:=(hB2.cell (p:=⟨cg,n*3,none⟩) hcl).trans x0;have f2:=(hB2.frozen (p:=⟨cg,n*3,none⟩) hcl).trans xf0;have Ew:Hid (aA w2 w.heap.size (cB cg (λ_=> .slice none 0 0) (λj=>(if j<n then Z j else 0,[],false)) M)):=HO.out.below hB2 (ah _);have HB2:Hid (Below w.heap.size w w2):=HB.out.trans (hB2.mono HB.out.size)
     clear hB2)
   go_roundw
   case rel=>
    refine⟨n+1,by go_num,by omega,?_,HB2.out.setCell (by simp only;omega) _⟩;have h1:=Xn (c:=(z,[],false)) (u:= .int .i64 z) Ew.out hlt (o:=0) (by omega) rfl rfl
    rw[Bg (f':=λj=>(if j<n+1 then Z j else 0,[],false)) (λj _=>by
     unfold fA;by_cases e:j=n
     ·subst e;rw[au rfl,au (by omega),Ld.out]
     ·rw[aj e]
      simp only;by_cases e2:j<n
      ·rw[au e2,au (by omega)]
      ·rw[aj e2,aj (by omega)])]at h1
    exact h1
   case measure=>simp[intOf];omega
  ·obtain rfl:M=n:=by omega
   have hM:=HM.out.below hB;have c6:=(hM.cell (i:=6) rfl (by omega)).1;obtain⟨sg,sc,hsv,_,q0⟩:=hM.state HK.out;rw[hsv]at c6;obtain⟨⟨ia,ic,hiv⟩,_⟩:=hM.items HK.out;rw[hiv]at q0;have Ie:Hid (v.IV k= .slice ia (v.OL.getD k []).length ic):=hiv
   have zw:Hid (aA wr w.heap.size (cB cg (λ_=> .slice none 0 0) (λn=>dG R st.lk k n ((v.OL.getD k []).take 0) (Z n,[],false)) M)):=by
    show aA _ _ _;have:=hO;rw[Bg (f':=λn=>dG R st.lk k n ((v.OL.getD k []).take 0) (Z n,[],false)) (λj hj=>by simp[dG,hj])]at this;exact this
   obtain⟨O,PV⟩:=af (v.OL.getD k []);have Xo:Hid (v.OL.getD k []=O):=PV;rw[PV]at q0 Ie zw hlen rQ;have i0:(0:Int)<=(k:Int):=aF _;have i1:(k:Int)<(v.OL.length:Int):=by have:=HK.out;omega
   clear hO hB hM hsv hiv PV HO
   go_wp2_with fail
   clear c6 q0
   go_loopw [43] (λs43 wq=> ∃(i:Nat) (vr:Nat->Value),s43= .int .i64 i/\i<=O.length/\aA wq w.heap.size (cB cg vr (λn=>dG R st.lk k n (O.take i) (Z n,[],false)) M)/\Below w.heap.size w wq) (λs _=>O.length-(intOf s).toNat)
   case atStart=>exact⟨0,_,rfl,aP _,zw.out,HB.out⟩
   case round=>
    clear zw HB;obtain⟨i,vr,rfl,hi,hO,hB⟩:=hrel;have HO:Hid (aA wr w.heap.size (cB cg vr (λn=>dG R st.lk k n (O.take i) (Z n,[],false)) M)):=hO;have HB:Hid (Below w.heap.size w wr):=hB;by_cases hlt:i<O.length
    ·have hM:=HM.out.below hB
     have hit:=hM.items HK.out;rw[Ie.out,Xo.out]at hit;obtain⟨b',o',c',vS,_,q0,q1⟩:=hit.2 i hlt;cases vS;rw[<-kF]at q1;obtain⟨⟨a,b⟩,hab⟩:=af (O.getD i (0,0));rw[hab]at q0 q1;simp only at q0 q1;have hmem:(a,b)∈O:=by rw[<-hab];simp[List.getD,hlt]
     have ok:=rQ.out _ hmem;have ha:a<=R.length:=ok.1;have hbl:b<=(aR R a).length:=ok.2;have Pk:=HE.out.Co a ha;have hR:=HE.out.hR;have i2:(0:Int)<=(i:Int):=aF _;have i3:(i:Int)<(O.length:Int):=by omega
     have mQ:Hid (∀n,dG R st.lk k n (O.take (i+1)) (Z n,[],false)=if oQ R st.lk k n (a,b) then mr R a (dG R st.lk k n (O.take i) (Z n,[],false)) else dG R st.lk k n (O.take i) (Z n,[],false)):=λn=>aeU hlt hab;have hM1:=hM.alloc (.cells #[.int .i64 a,.int .i64 b] 157);have tN:Hid (dL (wr.alloc (.cells #[.int .i64 a,.int .i64 b] 157)) d v wr.heap.size #[.int .i64 a,.int .i64 b] 157):=hM.box _ _;have tJ:Hid (aB w0 (wr.alloc (.cells #[.int .i64 a,.int .i64 b] 157)) d v G ng st):=hM1;cases hnx:(aR R a)[b]? with
     |some s=>
      have nx:=KV (hM1.auto HE.out) ha hnx;have hlt2:=(qw.1 hnx).1
      have fQ:Hid (∀n,dG R st.lk k n (O.take (i+1)) (Z n,[],false)=dG R st.lk k n (O.take i) (Z n,[],false)):=λn=>by
       rw[mQ.out n,aj];unfold oQ;simp only[bG,bX];omega
      clear hO hB hM hit hab hmem ok hM1 hnx;obtain⟨sb,sv⟩:=s;simp only at nx
      go_wp2_with
       (go_at_call 121;refine nx.mono ?_;rintro e w2 ⟨rfl,hB2⟩
        have HB2:Hid (Below wr.heap.size wr w2):=((ai _ _).alloc (ah _) _).trans (hB2.mono (by simp))
        clear hB2)
      go_roundw
      case rel=>
       have hb:=HB2.out.alloc HB2.out.size (.cells #[.bool sb,.int .i64 sv] 121);refine⟨i+1,vr,by go_num,by omega,?_,HB.out.trans (hb.mono HB.out.size)⟩;rw[Bg (f':=λn=>dG R st.lk k n (O.take i) (Z n,[],false)) (λn _=>fQ.out n)];exact HO.out.below hb (ah _)
      case measure=>simp[intOf];omega
     |none=>
      have hbe:b=(aR R a).length:=by have:=JL.1 hnx;omega
      have nx:=KW (a:=a) (b:=b) (hM1.auto HE.out) ha hbe;obtain⟨q,hq⟩:=af (st.lk (k,(a,b)));have Ia:q<512:=by rw[<-hq];exact OG.out _
      have HQ:Hid (st.lk (k,(a,b))=q):=hq
      have ae1:Hid (∀n,dG R st.lk k n (O.take (i+1)) (Z n,[],false)=if q.testBit n then mr R a (dG R st.lk k n (O.take i) (Z n,[],false)) else dG R st.lk k n (O.take i) (Z n,[],false)):=λn=>by
       rw[mQ.out n];unfold oQ;simp only;rw[hq,aT hbe,wN]
      clear hO hB hM hit hab hmem ok hM1 hnx hq hbe
      go_wp2_with
       (go_at_call 121;refine nx.mono ?_;rintro e w2 ⟨rfl,hB2⟩
        have kN:Hid (aB w0 w2 d v G ng st):=tJ.out.below hB2;have mY:Hid (dL w2 d v wr.heap.size #[.int .i64 a,.int .i64 b] 157):=tN.out.below hB2;have HB2:Hid (Below wr.heap.size wr w2):=((ai _ _).alloc (ah _) _).trans (hB2.mono (by simp))
        clear hB2 nx)
      obtain⟨W3,hW3⟩:=af (w2.alloc (.cells #[.bool false,.int .i64 0] 121));have pO:Hid (aB w0 W3 d v G ng st):=by show aB _ _ _ _ _ _ _;rw[<-hW3];exact kN.out.alloc _
      have qG:Hid (dL W3 d v wr.heap.size #[.int .i64 a,.int .i64 b] 157):=by show dL _ _ _ _ _ _;rw[<-hW3];exact mY.out.alloc _
      have HB3:Hid (Below wr.heap.size wr W3):=by show Below _ _ _;rw[<-hW3];exact HB2.out.alloc HB2.out.size _
      rw[hW3];clear hW3 tJ tN kN mY HB2;have l3:=pO.out.drew.KT (s:=(k,(a,b))) (by have:=HK.out;simp only;omega) (by simp only;omega) (by simp only;omega) hc;unfold qE at l3;simp only[HQ.out]at l3;have c8:=(pO.out.cell (i:=8) rfl (by omega)).1;have x0:=qG.out.cell (i:=0) rfl;have x1:=qG.out.cell (i:=1) rfl
      go_cut [11] from 44 to 78 (λs11 wx=>s11= .int .u32 q/\wx=W3.drew)
      case first=>
       go_region
       all_goals
        go_wp2_with fail
        go_meet
        case rel=>exact⟨rfl,rfl⟩
      case rest=>
       obtain⟨rfl,hwc⟩:=hcut;have Ba:Hid (dL wc d v wr.heap.size #[.int .i64 a,.int .i64 b] 157):=by show dL _ _ _ _ _ _;rw[hwc];exact qG.out.drew
       have En:Hid (Below wr.heap.size wr wc):=by show Below _ _ _;rw[hwc];exact HB3.out.drew
       have Xp:Hid (aA wc w.heap.size (cB cg vr (λn=>dG R st.lk k n (O.take i) (Z n,[],false)) M)):=by show aA _ _ _;exact HO.out.below En.out (ah _)
       have lF:Hid (Below w.heap.size w wc):=HB.out.trans (En.out.mono HB.out.size)
       have Ll:Hid (wr.heap.size≠cg/\∀n,n<M->(vr n).ownBlock≠some wr.heap.size):=by
        have h1:=(HO.out.own .cl _ rfl).lt cg rfl;refine⟨λe=>by omega,λn hn e=> ?_⟩;have:=((Li HO.out hn).lt _ e).2;omega
       clear hwc l3 c8 x0 x1 pO qG HB3 HO HB En;obtain⟨bx,hbx⟩:=af wr.heap.size;rw[hbx]at Ba Ll⊢;clear hbx
       go_wp2_with fail
       have HOl:Hid (∀n,(dG R st.lk k n (O.take i) (Z n,[],false)).2.1.length<=1000):=λn=>by
        have:=aeW (R:=R) (lk:=st.lk) (k:=k) (n:=n) (O.take i) (Z n,[],false);have h2:(O.take i).length<=369:=by rw[fq];omega
        simp only[List.length_nil]at this;omega
       go_loopw [64] (λs64 wq=> ∃(j:Nat) (mZ:Nat->Value),s64= .int .i64 j/\j<=M/\aA wq w.heap.size (cB cg mZ (λn=>if n<j then dG R st.lk k n (O.take (i+1)) (Z n,[],false) else dG R st.lk k n (O.take i) (Z n,[],false)) M)/\Below w.heap.size w wq/\wq.heap[bx]?=some (.cells #[.int .i64 a,.int .i64 b] 157)/\bx≠cg/\∀n,n<M->(mZ n).ownBlock≠some bx) (λs _=>M-(intOf s).toNat)
       case atStart=>
        refine⟨0,vr,rfl,aP _,?_,lF.out,Ba.out.here,Ll.out.1,Ll.out.2⟩;rw[Bg (f':=λn=>dG R st.lk k n (O.take i) (Z n,[],false)) (λn _=>by simp)];exact Xp.out
       case round=>
        clear Xp lF Ba Ll;obtain⟨j,mZ,ae2,hj,hO,hB,hbx,hbc,hbv⟩:=hrel;subst ae2;have HO:Hid (aA wr w.heap.size (cB cg mZ (λn=>if n<j then dG R st.lk k n (O.take (i+1)) (Z n,[],false) else dG R st.lk k n (O.take i) (Z n,[],false)) M)):=hO;have HB:Hid (Below w.heap.size w wr):=hB;have ni:Hid (wr.heap[bx]?=some (.cells #[.int .i64 a,.int .i64 b] 157)/\bx≠cg/\∀n,n<M->(mZ n).ownBlock≠some bx):=⟨hbx,hbc,hbv⟩;by_cases hjl:j<M
        ·have hasc:=ad3 (w:=wr) (m:=q) (n:=j) (by omega) (by omega)
         have b0:wr.cell? ⟨bx,0,none⟩=some (.int .i64 a):=by simp[World.cell?,hbx]
         have hsj:=ae1.out j;have j0:(0:Int)<=(j:Int):=aF _;have j1:(j:Int)<(M:Int):=by omega
         cases hbit:q.testBit j with
         |false=>
          rw[hbit]at hasc hsj;simp only[dO,bN]at hsj;have PW:Hid (dG R st.lk k j (O.take (i+1)) (Z j,[],false)=dG R st.lk k j (O.take i) (Z j,[],false)):=hsj;clear hO hB hbx hbc hbv hsj hbit b0
          go_wp2_with (go_at_call 126;refine hasc.mono ?_;rintro e w5 ⟨rfl,rfl⟩)
          go_roundw
          case rel=>
           refine⟨j+1,mZ,by go_num,by omega,?_,HB.out,ni.out.1,ni.out.2.1,ni.out.2.2⟩
           rw[Bg (f':=λn=>if n<j then dG R st.lk k n (O.take (i+1)) (Z n,[],false) else dG R st.lk k n (O.take i) (Z n,[],false)) (λn _=>by
            by_cases e1:n<j
            ·rw[au e1,au (by omega)]
            ·by_cases e2:n=j
             ·subst e2;rw[au (by omega),aj e1,PW.out]
             ·rw[aj (by omega),aj e1])]
           exact HO.out
          case measure=>simp[intOf];omega
         |true=>
          rw[hbit]at hasc hsj;simp only[bQ]at hsj;have PW:Hid (dG R st.lk k j (O.take (i+1)) (Z j,[],false)=mr R a (dG R st.lk k j (O.take i) (Z j,[],false))):=hsj;have put:=aeT (r:=a) ((HM.out.below hB).drew.auto HE.out) hO.drew (show w.heap.size<=wr.drew.heap.size from hB.size) hjl (by simp only[Dx,bN];exact HOl.out j);simp only[Dx,bN]at put;clear hO hB hbx hbc hbv hsj hbit
          go_wp2_with (go_at_call 126;refine hasc.mono ?_;rintro e w5 ⟨rfl,rfl⟩)
          refine xq 6 (by kernel_rfl) (by kernel_rfl) ?_;simp only[List.take_succ_cons,List.take_zero,qP,om]
          repeat still_step
          refine xg ?_
          go_wp2_with (go_at_call 127;refine put.mono ?_;rintro e w6 ⟨rfl,vr6,Lm,hv6,iE⟩)
          go_roundw
          case rel=>
           have hcB:=(HO.out.own .cl _ rfl).lt cg rfl;have hkb:¬(bx=cg\/(mZ j).ownBlock=some bx):=λe=>e.elim ni.out.2.1 (ni.out.2.2 j hjl);have zf:bx<w5.heap.size:=(dx.1 ni.out.1).1;refine⟨j+1,vr6,by go_num,by omega,?_,?_,(iE.block bx zf hkb).trans ni.out.1,ni.out.2.1,λn hn e=> ?_⟩
           ·rw[Bg (f':=fA (λn=>if n<j then dG R st.lk k n (O.take (i+1)) (Z n,[],false) else dG R st.lk k n (O.take i) (Z n,[],false)) j (mr R a (dG R st.lk k j (O.take i) (Z j,[],false)))) (λn _=>by
             unfold fA;by_cases e2:n=j
             ·subst e2;rw[au (by omega),au rfl,PW.out]
             ·rw[aj e2]
              simp only;by_cases e1:n<j
              ·rw[au e1,au (by omega)]
              ·rw[aj e1,aj (by omega)])]
            exact Lm
           ·have hbel:Below w.heap.size w5.drew w6:=iE.below (λb hb=>by
             rcases hb with rfl|hb
             ·exact hcB.1
             ·exact((Li HO.out hjl).lt b hb).1) HB.out.size
            exact HB.out.trans ((ai _ _).drew.trans hbel)
           ·rcases hv6 n bx e with h1|h1
            ·exact ni.out.2.2 n hn h1
            ·have:w5.drew.heap.size=w5.heap.size:=rfl
             omega
          case measure=>simp[intOf];omega
        ·obtain rfl:M=j:=by omega
         have ae3:Hid (aA wr w.heap.size (cB cg mZ (λn=>dG R st.lk k n (O.take (i+1)) (Z n,[],false)) M)):=by
          show aA _ _ _;rw[Bg (f':=λn=>if n<M then dG R st.lk k n (O.take (i+1)) (Z n,[],false) else dG R st.lk k n (O.take i) (Z n,[],false)) (λn hn=>by rw[au hn])];exact hO
         clear hO hB hbx hbc hbv
         go_wp2_with fail
         go_roundw
         case rel=>
          exact⟨i+1,mZ,by go_num,by omega,ae3.out,HB.out⟩
         case measure=>simp[intOf];omega
    ·obtain rfl:i=O.length:=by omega
     rw[gH]at hO;have HOf:Hid (aA wr w.heap.size (cB cg vr (λn=>dG R st.lk k n O (Z n,[],false)) M)):=hO;clear hO hB
     go_wp2_with fail
     go_ret;exact⟨cg,vr,rfl,by rw[Xo.out];exact HOf.out,HB.out⟩
end Go.Proofs.YthbifaoaiggooaaGreatDoor
