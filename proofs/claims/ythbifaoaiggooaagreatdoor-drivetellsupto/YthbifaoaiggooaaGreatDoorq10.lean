import Derived.Test.YthbifaoaiggooaaGreatDoorq9
import Derived.Shelf.SlSortCmp.WholeK
import Derived.Shelf.SlGeneric
import Derived.Ground.SlsfProg
set_option maxHeartbeats 6400000
set_option maxRecDepth 100000
namespace Go.Proofs.YthbifaoaiggooaaGreatDoor
open Go.RowKit
structure dL(w:World)(d:gL)(v:dK)(b:Nat)(cs:Array Value)(t:TypeId):Prop where
 here:w.heap[b]?=some (.cells cs t)
 no:¬qF d v b
 lt:b<w.heap.size
section
variable{d:gL}{v v':dK}{w0 w w':World}{G:Wy->Option Value}{ng:Nat}{st:LS}{b:Nat}{cs:Array Value}{t:TypeId}
theorem dL.goes(h:dL w d v b cs t)(g:aO d v v' w w'):dL w' d v' b cs t:=let ⟨a,b,c⟩:=g.far h.lt h.no;⟨a.trans h.here,b,c⟩
theorem dL.below(h:dL w d v b cs t)(hb:Below w.heap.size w w'):dL w' d v b cs t:=h.goes (aO.dI hb)
theorem dL.drew(h:dL w d v b cs t):dL w.drew d v b cs t:=h.below (ai _ _).drew
theorem dL.alloc(h:dL w d v b cs t)(o:Obj):dL (w.alloc o) d v b cs t:=h.below ((ai _ _).alloc (ah _) o)
theorem dL.cell(h:dL w d v b cs t){i:Nat}{x:Value}(hx:cs[i]?=some x):w.cell? ⟨b,i,none⟩=some x:=by simp[World.cell?,h.here,hx]
theorem aB.box(h:aB w0 w d v G ng st)(cs:Array Value)(t:TypeId):dL (w.alloc (.cells cs t)) d v w.heap.size cs t:=
 ⟨heap_alloc_new _ _,λhk=>by have:=(h.kc hk).2;omega,by simp⟩
theorem Wo{base n size:Nat}{e:TypeId}{x:Value}{xs:List Value}(h:w.ownsRow base e size x n xs)(g:aO d v v' w w')(hn:∀k,x.ownBlock=some k->¬qF d v k):w'.ownsRow base e size x n xs:=
 UC h λk hk=>(g.far (h.lt k hk).2 (hn k hk)).1
end
theorem Wp{g:bB×Nat}{st:LS}(hg:g.2<512)(h:∀s,st.lk s<512):∀s,(ig g st).lk s<512:=λs=>by
 unfold ig;split
 ·exact h s
 ·simp only
  split
  ·exact KY (h _) hg
  ·exact h s
theorem Wq(g:bB×Nat)(st:LS):(ig g st).c<=st.c+1/\(ig g st).O.length<=st.O.length+1:=by
 unfold ig;split
 ·exact⟨nK _,nK _⟩
 ·simp
theorem aea:∀(L:List (bB×Nat)) (st:LS),(∀g∈L,g.2<512)->(∀s,st.lk s<512)->(∀s,(oO L st).lk s<512)/\(oO L st).c<=st.c+L.length/\(oO L st).O.length<=st.O.length+L.length:=by
 intro L
 induction L with
 |nil=>intro st _ h;exact⟨h,ah _,ah _⟩
 |cons g L ih=>
  intro st hg h;obtain⟨a,b,c⟩:=ih (ig g st) (λg' hg'=>hg g' (mH _ hg')) (Wp (hg g (by simp)) h);have:=Wq g st;refine⟨a,?_,?_⟩
  ·simp only[List.length_cons];exact aZ b (by omega)
  ·simp only[List.length_cons];exact aZ c (by omega)
theorem aeb{L:List (bB×Nat)}{st:LS}{j:Nat}(hj:j<L.length):oO (L.take (j+1)) st=ig L[j] (oO (L.take j) st):=by
 unfold oO;rw[fT hj,FK];rfl
structure KZ(T N:Nat)(R:List Ru)(OL:List (List It))(NL:List (List Int))(Ls:List aV)(st:LS)(k a b:Nat)(ng:Nat):Prop where
 K3:lJ T N R OL NL Ls
 K4:jq OL (k,(a,b))
 lk:∀s,st.lk s<512
 few:OL.length<=150
 ng:ng<=10000000
 c:st.c+100<=10000000
 O:st.O.length+100<=10000000
theorem aec{w0 w:World}{d:gL}{v:dK}{NL:List (List Int)}{Ls:List aV}{R:List Ru}{Nu:List Bool}{Fi:List (List Bool)}{ng:Nat}{st:LS}{k a b:Nat}(E:kM w0 d R Nu Fi)(h:aB w0 w d v (bE d.T NL) ng st)(p:KZ d.T d.N R v.OL NL Ls st k a b ng)(hn:(aR R a)[b]?=none):
 Calls Tryz.prog 91 #[.pointer (some ⟨d.ma,0,none⟩),.agg #[.int .i64 k,.int .i64 a,.int .i64 b]] w λr w'=>r= .returned (.tuple #[])/\aB w0 w' d v (bE d.T NL) ng st/\aO d v v w w':=by
 have ok:=(p.K3.item p.K4).2;have hb:b=(aR R a).length:=by have:=JL.1 hn;have:=ok.2;simp only at this;omega
 have h1:=h.alloc (.cells #[.int .i64 k,.int .i64 a,.int .i64 b] 164);have nx:=KW (h1.auto E) ok.1 hb;have HH:Hid (aB w0 w d v (bE d.T NL) ng st):=h;clear h h1 p E ok hb hn
 go_enter Tryz.func91,Tryz.ntmps91
 go_wp2_with
  (go_at_call 121;refine nx.mono ?_;rintro e w2 ⟨rfl,hB2⟩
   have HB:Hid (Below w.heap.size w w2):=((ai _ _).alloc (ah _) _).trans (hB2.mono (by simp))
   clear hB2)
 refine aH (v:= .tuple #[]) (Af Tryz.results91 _ _ _) rfl ?_;have hb:Below w.heap.size w (w2.alloc (.cells #[.bool false,.int .i64 0] 121)):=HB.out.alloc HB.out.size _;exact⟨rfl,HH.out.below hb,aO.dI hb⟩
theorem aed{w0 w:World}{d:gL}{v:dK}{NL:List (List Int)}{Ls:List aV}{R:List Ru}{Nu:List Bool}{Fi:List (List Bool)}{ng:Nat}{st:LS}{k a b:Nat}{s:Sy}(E:kM w0 d R Nu Fi)(h:aB w0 w d v (bE d.T NL) ng st)(p:KZ d.T d.N R v.OL NL Ls st k a b ng)(hn:(aR R a)[b]?=some s):
 Calls Tryz.prog 91 #[.pointer (some ⟨d.ma,0,none⟩),.agg #[.int .i64 k,.int .i64 a,.int .i64 b]] w λr w'=>r= .returned (.tuple #[])/\∃aL,aB w0 w' d { v with ov:=aL } (bE d.T NL) ng (rH d.T R NL Nu Fi (k,(a,b)) st)/\aO d v { v with ov:=aL } w w':=by
 have ok:=(p.K3.item p.K4).2;have Pk:=E.Co a ok.1;have hR:=E.hR;have ha:a<=R.length:=ok.1;obtain⟨hbl,_⟩:=qw.1 hn;have hk:k<v.OL.length:=p.K4.1;have zy:=p.few;obtain⟨Pm,K5⟩:=p.K3.on p.K4 hn;simp only at Pm K5;have hsy:=E.sym a ha s (ou hn);obtain⟨Wt,Pn⟩:=O1 hsy.1 hsy.2;have hgo:=(p.K3.go k hk _ Pn).1
 have hG:bE d.T NL (k,s)=some (.int .i64 (toN NL d.T k s)):=by
  have:=Ej (T:=d.T) (NL:=NL) (k:=k) (x:=(gy d.T s).toNat) (by rw[hgo];exact Pn);rw[Wt,Pm,au (aF _)]at this;exact this
 obtain⟨z,hz⟩:=af (toN NL d.T k s);rw[hz]at hG K5;have ajc:z<v.OL.length:=K5.1;have hT:=E.hT;have hN:=E.hN.2
 have hs2:0<=s.2/\s.2<=12:=by
  cases hc:s.1 with
  |true=>have:=hsy.1 hc;omega
  |false=>have:=hsy.2 hc;omega
 have h1:=h.alloc (.cells #[.int .i64 k,.int .i64 a,.int .i64 b] 164);have nx:=KV (h1.auto E) ha hn;have Wu:Hid (dL (w.alloc (.cells #[.int .i64 k,.int .i64 a,.int .i64 b] 164)) d v w.heap.size #[.int .i64 k,.int .i64 a,.int .i64 b] 164):=h.box _ _;have H1:Hid (aB w0 (w.alloc (.cells #[.int .i64 k,.int .i64 a,.int .i64 b] 164)) d v (bE d.T NL) ng st):=h1;have Cr:Hid (bE d.T NL (k,s)=some (.int .i64 z)):=hG;obtain⟨q,hq⟩:=af (st.lk (k,(a,b)));have Ia:q<512:=by rw[<-hq];exact p.lk _
 have A9:Hid (rH d.T R NL Nu Fi (k,(a,b)) st=oO (if s.1 then [] else (rG R s.2).map λr=>((k,(r,0)),zo R Nu Fi (a,b) q)) (ig ((z,(a,b+1)),q) st)):=by
  show rH d.T R NL Nu Fi (k,(a,b)) st=_;unfold rH uR;simp only;rw[hn,hq];simp only;rw[hz];rfl
 have HQ:Hid (st.lk (k,(a,b))=q):=hq;have HP:Hid (KZ d.T d.N R v.OL NL Ls st k a b ng):=p;have HE:Hid (kM w0 d R Nu Fi):=E;have l7:Hid ((s.1=true->0<=s.2/\s.2<(d.T:Int))/\(s.1=false->0<=s.2/\s.2<(d.N:Int))):=hsy;clear h h1 p E ok hn Pm K5 Wt Pn hgo hG hz hq hsy;obtain⟨sb,sv⟩:=s;simp only at nx Cr hs2 l7 A9
 go_enter Tryz.func91,Tryz.ntmps91
 go_wp2_with
  (go_at_call 121;refine nx.mono ?_;rintro e w2 ⟨rfl,hB2⟩
   have kN:Hid (aB w0 w2 d v (bE d.T NL) ng st):=H1.out.below hB2;have mY:Hid (dL w2 d v w.heap.size #[.int .i64 k,.int .i64 a,.int .i64 b] 164):=Wu.out.below hB2;have HB2:Hid (Below w.heap.size w w2):=((ai _ _).alloc (ah _) _).trans (hB2.mono (by simp))
   clear hB2 nx)
 obtain⟨W3,hW3⟩:=af (w2.alloc (.cells #[.bool sb,.int .i64 sv] 121));have pO:Hid (aB w0 W3 d v (bE d.T NL) ng st):=by show aB _ _ _ _ _ _ _;rw[<-hW3];exact kN.out.alloc _
 have qG:Hid (dL W3 d v w.heap.size #[.int .i64 k,.int .i64 a,.int .i64 b] 164):=by show dL _ _ _ _ _ _;rw[<-hW3];exact mY.out.alloc _
 have Ep:Hid (dL W3 d v w2.heap.size #[.bool sb,.int .i64 sv] 121):=by show dL _ _ _ _ _ _;rw[<-hW3];exact kN.out.box _ _
 have iK:Hid (aO d v v w W3):=by show aO _ _ _ _ _;rw[<-hW3];exact aO.dI (HB2.out.alloc HB2.out.size _)
 rw[hW3];clear hW3 H1 Wu kN mY HB2;obtain⟨yb,hyb⟩:=af w2.heap.size;rw[hyb]at Ep⊢;clear hyb;have l3:=pO.out.drew.KT (s:=(k,(a,b))) (by simp only;omega) (by simp only;omega) (by simp only;omega) (by have:=HP.out.c;omega);unfold qE at l3;simp only[HQ.out]at l3;have c8:=(pO.out.cell (i:=8) rfl (by omega)).1;have x0:=qG.out.cell (i:=0) rfl;have x1:=qG.out.cell (i:=1) rfl;have x2:=qG.out.cell (i:=2) rfl
 go_cut [6] from 12 (λs6 wx=>s6= .int .u32 q/\wx=W3.drew)
 case first=>
  go_region
  all_goals
   go_wp2_with fail
   go_meet
   case rel=>exact⟨rfl,rfl⟩
 case rest=>
  obtain⟨rfl,hwc⟩:=hcut;have Er:Hid (aB w0 wc d v (bE d.T NL) ng st):=by show aB _ _ _ _ _ _ _;rw[hwc];exact pO.out.drew
  have Ba:Hid (dL wc d v w.heap.size #[.int .i64 k,.int .i64 a,.int .i64 b] 164):=by show dL _ _ _ _ _ _;rw[hwc];exact qG.out.drew
  have K6:Hid (dL wc d v yb #[.bool sb,.int .i64 sv] 121):=by show dL _ _ _ _ _ _;rw[hwc];exact Ep.out.drew
  have Wv:Hid (aO d v v w wc):=by show aO _ _ _ _ _;rw[hwc];exact iK.out.drew
  clear hwc l3 c8 x0 x1 x2 pO qG Ep iK
  have keep:∀{wx:World} {v':dK} {st':LS},aB w0 wx d v' (bE d.T NL) ng st'->dL wx d v' w.heap.size #[.int .i64 k,.int .i64 a,.int .i64 b] 164->dL wx d v' yb #[.bool sb,.int .i64 sv] 121->
   wx.cell? ⟨d.ma,7,none⟩=some (.map (some d.mg))/\wx.cell? ⟨w.heap.size,0,none⟩=some (.int .i64 k)/\wx.cell? ⟨w.heap.size,1,none⟩=some (.int .i64 a)/\wx.cell? ⟨w.heap.size,2,none⟩=some (.int .i64 b)/\wx.cell? ⟨yb,0,none⟩=some (.bool sb)/\wx.cell? ⟨yb,1,none⟩=some (.int .i64 sv)/\
    Sem.run Tryz.prog (Instr.lookup 107 (.map (some d.mg)) (.agg #[.int .i64 k,.bool sb,.int .i64 sv]) false) wx= .ok (.int .i64 z) wx:=λ{wx v' st'} hM hX hY=>by
   refine⟨(hM.cell (i:=7) rfl (by omega)).1,hX.cell rfl,hX.cell rfl,hX.cell rfl,hY.cell rfl,hY.cell rfl,?_⟩;have:=hM.V9 (p:=(k,(sb,sv))) (by simp only;omega) hs2.1 (by simp only;omega) HP.out.ng false;unfold tu at this;simp only[Cr.out]at this;exact this
  have rO:Hid (∀{wx:World} {v':dK} {st':LS},aB w0 wx d v' (bE d.T NL) ng st'->dL wx d v' w.heap.size #[.int .i64 k,.int .i64 a,.int .i64 b] 164->dL wx d v' yb #[.bool sb,.int .i64 sv] 121->
   wx.cell? ⟨d.ma,7,none⟩=some (.map (some d.mg))/\wx.cell? ⟨w.heap.size,0,none⟩=some (.int .i64 k)/\wx.cell? ⟨w.heap.size,1,none⟩=some (.int .i64 a)/\wx.cell? ⟨w.heap.size,2,none⟩=some (.int .i64 b)/\wx.cell? ⟨yb,0,none⟩=some (.bool sb)/\wx.cell? ⟨yb,1,none⟩=some (.int .i64 sv)/\
    Sem.run Tryz.prog (Instr.lookup 107 (.map (some d.mg)) (.agg #[.int .i64 k,.bool sb,.int .i64 sv]) false) wx= .ok (.int .i64 z) wx):=keep
  clear keep;obtain⟨k0,k1,k2,k3,k4,k5,k6⟩:=rO.out Er.out.drew Ba.out.drew K6.out.drew;have xw:b<=1000:=by omega
  have K7:=λW=>Wi (w:=W) (a:=a) (b:=b) xw
  go_wp2_with fail
  go_cut [] from 12 (λwx=> ∃aL,aB w0 wx d { v with ov:=aL } (bE d.T NL) ng (ig ((z,(a,b+1)),q) st)/\aO d v { v with ov:=aL } wc wx)
  case first=>
   go_region_held3 (λwx=>wx.cell? ⟨d.ma,7,none⟩=some (.map (some d.mg))/\wx.cell? ⟨w.heap.size,0,none⟩=some (.int .i64 k)/\wx.cell? ⟨w.heap.size,1,none⟩=some (.int .i64 a)/\wx.cell? ⟨w.heap.size,2,none⟩=some (.int .i64 b)/\wx.cell? ⟨yb,0,none⟩=some (.bool sb)/\wx.cell? ⟨yb,1,none⟩=some (.int .i64 sv)/\
    Sem.run Tryz.prog (Instr.lookup 107 (.map (some d.mg)) (.agg #[.int .i64 k,.bool sb,.int .i64 sv]) false) wx= .ok (.int .i64 z) wx) (first|assumption|exact⟨k0,k1,k2,k3,k4,k5,k6⟩|go_keep)
    (first
     |(go_at_call 122;refine(K7 _).mono ?_;rintro e w5 ⟨rfl,aD⟩
       have Es:Hid (aB w0 w5 d v (bE d.T NL) ng st):=Er.out.drew.below aD;have Ww:Hid (dL w5 d v w.heap.size #[.int .i64 k,.int .i64 a,.int .i64 b] 164):=Ba.out.drew.below aD;have Wx:Hid (dL w5 d v yb #[.bool sb,.int .i64 sv] 121):=K6.out.drew.below aD;have zh:Hid (aO d v v wc w5):=(aO.refl _ _ _).drew.trans (aO.dI aD);have hS5:=rO.out Es.out Ww.out Wx.out;have Bb:=Pj Es.out (a:=z) (b:=a) (c:=b+1) (m:=q) ⟨by simp only;omega,by simp only;omega,by simp only;omega⟩ Ia (HP.out.lk _) (by have:=HP.out.c;omega) (by have:=HP.out.O;omega);rw[show ((b+1:Nat):Int)=(b:Int)+1 from rfl]at Bb
       clear aD)
     |(go_at_call 89;refine Bb.mono ?_;rintro e w6 ⟨rfl,aL,lM,tF⟩
       have hS6:=rO.out lM (Ww.out.goes tF) (Wx.out.goes tF);have qg:Hid (aB w0 w6 d { v with ov:=aL } (bE d.T NL) ng (ig ((z,(a,b+1)),q) st)/\aO d v { v with ov:=aL } wc w6):=⟨lM,zh.out.trans tF⟩
       clear lM tF))
   all_goals
    go_wp2_with fail
    go_meet
    case rel=>exact⟨aL,qg.out.1,qg.out.2⟩
  case rest=>
   obtain⟨jS,hM,hG⟩:=hcut;have Et:=Ba.out.goes hG;have hYd:=K6.out.goes hG;obtain⟨v1,hv1⟩:∃v1,({ v with ov:=jS }:dK)=v1:=⟨_,rfl⟩;obtain⟨st1,l8⟩:=af (ig ((z,(a,b+1)),q) st);have ze:Hid (({ v with ov:=jS }:dK)=v1):=hv1;have Wz:∀s,st1.lk s<512:=by rw[<-l8];exact Wp Ia HP.out.lk
   have hc1:st1.c<=st.c+1/\st1.O.length<=st.O.length+1:=by rw[<-l8];exact Wq _ _
   rw[l8]at hM A9;rw[hv1]at hM hG Et hYd;have K8:Hid (aB w0 wc d v1 (bE d.T NL) ng st1):=hM;have HXd:Hid (dL wc d v1 w.heap.size #[.int .i64 k,.int .i64 a,.int .i64 b] 164):=Et;have HYd:Hid (dL wc d v1 yb #[.bool sb,.int .i64 sv] 121):=hYd;have WA:Hid (aO d v v1 w wc):=Wv.out.trans hG;have aee:Hid (∀s,st1.lk s<512):=Wz;have y0:=hYd.cell (i:=0) rfl;have y1:=hYd.cell (i:=1) rfl;have x0:=Et.cell (i:=0) rfl;have x1:=Et.cell (i:=1) rfl;have x2:=Et.cell (i:=2) rfl;have hcc:st1.c+90<=10000000/\st1.O.length+90<=10000000:=by have:=HP.out.c;have:=HP.out.O;omega
   clear hM hG Et hYd hv1 l8 Er Ba K6 Wv k0 k1 k2 k3 k4 k5 k6 K7 rO Wz hc1;cases sb with
   |true=>
    simp only[bQ]at A9
    go_wp2_with fail
    refine aH (v:= .tuple #[]) (Af Tryz.results91 _ _ _) rfl ?_;refine⟨rfl,jS,?_,?_⟩
    ·rw[A9.out,ze.out];exact K8.out
    ·rw[ze.out];exact WA.out
   |false=>
    simp only[dO,bN]at A9;have K9:=ad7 (K8.out.auto HE.out) (K8.out.knows HE.out) (a:=a) (b:=b) ha hbl Pk (HE.out.sym a ha);obtain⟨x,hx⟩:=af (zo R Nu Fi (a,b) q);rw[hx]at A9;unfold zo at hx;obtain⟨bm,GJ⟩:=af (qC R Nu Fi (a,b));rw[GJ]at K9 hx;obtain⟨f,nl⟩:=bm;simp only at K9 hx;obtain⟨L,hL⟩:=af (((rG R sv).map λr=>(((k,(r,0)):bB),x)));rw[hL]at A9;obtain⟨RI,xP⟩:=af (fw R sv R.length);have H8:L.length=RI.length:=by rw[<-hL,<-xP];simp[fw,rG]
    have Ec:Hid (∀j (hj:j<L.length),L[j]=((k,(RI.getD j (0,0))),x)/\(RI.getD j (0,0)).1<1000/\(RI.getD j (0,0)).2=0):=λj hj=>by
     subst hL;subst xP;have hj':j<(rG R sv).length:=by simpa using hj
     have e1:(fw R sv R.length).getD j (0,0)=((rG R sv)[j],0):=by
      unfold fw rG;unfold rG at hj';rw[List.getD,List.getElem?_map,pq hj'];rfl
     rw[e1];have hmem:(rG R sv)[j]∈rG R sv:=jO hj';have hlt:(rG R sv)[j]<R.length:=jC.1 (sD.1 (show (rG R sv)[j]∈(List.range R.length).filter _ from hmem)).1;exact⟨by simp,by simp only;omega,rfl⟩
    have aef:RI.length<=40:=by rw[<-xP];exact aZ (Pb _ _ _) hR
    have La:Hid (fw R sv R.length=RI):=xP;clear hL xP GJ;have HLen:Hid (L.length=RI.length):=H8;clear H8
    cases nl<;>
     (simp only[bQ,dO,bN]at hx
      go_wp2_with
       (first
        |(go_at_call 123;refine K9.mono ?_;rintro e w7 ⟨rfl,Eo,iM⟩
          have hor:=u32_or_nat f q (by omega) (by omega);have hx5:x<512:=by rw[<-hx];first|exact KY Eo Ia|exact Eo
          try rw[hx]at hor
          have Po:Hid (aB w0 w7 d v1 (bE d.T NL) ng st1):=K8.out.below iM;have HX7:Hid (dL w7 d v1 w.heap.size #[.int .i64 k,.int .i64 a,.int .i64 b] 164):=HXd.out.below iM;have HG7:Hid (aO d v v1 w w7):=WA.out.trans (aO.dI iM);have y7:=(HYd.out.below iM).cell (i:=1) rfl;have vR:=Pd (m:=sv) (Po.out.auto HE.out) hR;rw[La.out]at vR
          clear iM K9)
        |(go_at_call 124;refine vR.mono ?_;rintro e w8 ⟨rv8,rfl,hrow,pU,-⟩
          obtain⟨ra,rc,aI⟩:=cO hrow;subst aI;have Pp:Hid (aB w0 w8 d v1 (bE d.T NL) ng st1):=Po.out.below pU;have HX8:Hid (dL w8 d v1 w.heap.size #[.int .i64 k,.int .i64 a,.int .i64 b] 164):=HX7.out.below pU;have HG8:Hid (aO d v v1 w w8):=HG7.out.trans (aO.dI pU);have qW:Hid (w8.ownsRow w7.heap.size 157 2 (.slice ra RI.length rc) RI.length (RI.flatMap bF)):=hrow
          have HF8:Hid (∀g,(Value.slice ra RI.length rc).ownBlock=some g->¬qF d v1 g):=λg hg hk=>by
           have:=(hrow.lt g hg).1;have:=(Po.out.kc hk).2;omega
          clear hrow pU vR y7))
      have WB:=hx5;clear hx hx5
      go_loopw [60] (λs60 wr=> ∃(j:Nat) (xL:Value),s60= .int .i64 j/\j<=RI.length/\aB w0 wr d { v1 with ov:=xL } (bE d.T NL) ng (oO (L.take j) st1)/\aO d v1 { v1 with ov:=xL } w8 wr) (λs _=>RI.length-(intOf s).toNat)
      case atStart=>exact⟨0,v1.ov,rfl,aP _,Pp.out,aO.refl _ _ _⟩
      case round=>
       obtain⟨j,xL,rfl,hj,hM,hG⟩:=hrel;have tH:Hid (aO d v1 { v1 with ov:=xL } w8 wr):=hG;by_cases hlt:j<RI.length
       ·have hrow:=Wo qW.out hG HF8.out
        obtain⟨g,o,c,vS,_,q0,q1⟩:=(Em hrow rfl).2 j hlt;cases vS;rw[<-kF]at q1;have WC:j<L.length:=by rw[HLen.out];exact hlt
        obtain⟨e1,e2,e3⟩:=Ec.out j WC;have hst:=aeb (st:=st1) WC;rw[e1]at hst;obtain⟨⟨r,y⟩,WE⟩:=af (RI.getD j (0,0));rw[WE]at q0 q1 hst e2 e3;simp only at q0 q1 hst e2 e3;subst e3;have HST:Hid (oO (L.take (j+1)) st1=ig ((k,(r,0)),x) (oO (L.take j) st1)):=hst
        have hga:=aea (L.take j) st1 (λg' hg'=>by
         obtain⟨i,hi,rfl⟩:=kE hg';have hi':i<L.length:=by rw[fq]at hi;omega
         rw[List.getElem_take,(Ec.out i hi').1]
         exact WB) aee.out
        have hjl:(L.take j).length<=40:=by rw[fq];omega
        have hX:=HX8.out.goes hG;have x0:=(hX.alloc (.cells #[.int .i64 r,.int .i64 0] 157)).cell (i:=0) rfl;have Bb:=Pj (hM.alloc (.cells #[.int .i64 r,.int .i64 0] 157)) (a:=k) (b:=r) (c:=0) (m:=x) ⟨by simp only;omega,by simp only;omega,by simp only;omega⟩ WB (hga.1 _) (by have:=hga.2.1;omega) (by have:=hga.2.2;omega);have i0:(0:Int)<=(j:Int):=aF _;have i1:(j:Int)<(RI.length:Int):=by omega
        clear hM hG hrow e1 hst WE hga hX hjl
        go_wp2_with (go_at_call 89;refine Bb.mono ?_;rintro e w9 ⟨rfl,ov3,zA,hG9⟩)
        go_roundw
        case rel=>exact⟨j+1,ov3,by go_num,by omega,by rw[HST.out];exact zA,(tH.out.alloc _).trans hG9⟩
        case measure=>simp[intOf];omega
       ·obtain rfl:j=RI.length:=by omega
        rw[<-HLen.out,gH]at hM;have Pq:Hid (aB w0 wr d { v1 with ov:=xL } (bE d.T NL) ng (oO L st1)):=hM;clear hM hG
        go_wp2_with fail
        go_end0
        have hV:=ze.out;refine⟨rfl,xL,?_,?_⟩
        ·rw[A9.out]
         have:=Pq.out;rw[<-hV]at this;exact this
        ·have:=HG8.out.trans tH.out
         rw[<-hV]at this
         exact this)
theorem Lb{α:Type}{L:List α}{j:Nat}{d:α}(h:j<L.length):L.getD j d=L[j]:=by simp[List.getD,h]
def qH(OL:List (List It))(k:Nat):List bB:=(List.range k).flatMap λk=>(OL.getD k []).map λi=>(k,i)
theorem WG(OL:List (List It))(k:Nat):qH OL (k+1)=qH OL k++(OL.getD k []).map λi=>(k,i):=by
 unfold qH;rw[pF,qQ];simp
theorem aeg{OL:List (List It)}{n:Nat}(h:∀k,k<OL.length->(OL.getD k []).length<=n):∀k,k<=OL.length->(qH OL k).length<=k*n:=by
 intro k
 induction k with
 |zero=>intro _;simp[qH]
 |succ k ih=>
  intro hk;rw[WG,aS,cK,Nat.add_mul];have:=ih (by omega);have:=h k (by omega);omega
theorem aeh(OL:List (List It))(T:Nat):(Ck OL T).length=(zq OL).length*(T+1):=by
 unfold Ck
 have:∀L:List bB,(L.flatMap λs=>(List.range (T+1)).map λt=>(s,t)).length=L.length*(T+1):=by
  intro L
  induction L with
  |nil=>simp
  |cons a L ih=>rw[gV,aS,ih];simp[Nat.add_mul];omega
 exact this _
theorem aei{T:Nat}(hT:T<=8){n:Nat}(h:∀t,n.testBit t=true->t<=T):n<512:=
 Nat.lt_pow_two_of_testBit (n:=9) _ λi hi=>by
  cases hb:n.testBit i with
  |false=>rfl
  |true=>have:=h i hb;omega
section
variable{w0 w:World}{d:gL}{v:dK}{G:Wy->Option Value}{ng:Nat}{st:LS}
theorem aB.aej(h:aB w0 w d v G ng st){s:bB}{w':World}{oa:Option Addr}{oc g cap:Nat}(hv:v.ov= .slice oa st.O.length oc)(hown:w'.ownsRow w0.heap.size 164 3 (.slice (some ⟨g,0,none⟩) (st.O.length+1) cap) (st.O.length+1) (st.O.flatMap mW++mW s))(hg:w.grownBy w' (Value.slice oa st.O.length oc).ownBlock)
 (hat:(Value.slice oa st.O.length oc).ownBlock=some g\/g=w.heap.size):
 aB w0 (w'.setCell ⟨d.ma,9,none⟩ (.slice (some ⟨g,0,none⟩) (st.O.length+1) cap)) d { v with ov:= .slice (some ⟨g,0,none⟩) (st.O.length+1) cap } G ng { st with O:=st.O++[s] }/\aO d v { v with ov:= .slice (some ⟨g,0,none⟩) (st.O.length+1) cap } w (w'.setCell ⟨d.ma,9,none⟩ (.slice (some ⟨g,0,none⟩) (st.O.length+1) cap)):=
 h.D8 (O':=st.O++[s]) (by rw[hv];exact hg) (by simpa [List.flatMap_append] using hown) (λg' hg'=>by
  obtain rfl:g=g':=by simpa [Value.ownBlock] using hg'
  rw[hv]
  exact hat)
end
theorem aek{w0 w:World}{d:gL}{v:dK}{NL:List (List Int)}{Ls:List aV}{R:List Ru}{Nu:List Bool}{Fi:List (List Bool)}{ng:Nat}{st:LS}{k a b:Nat}(E:kM w0 d R Nu Fi)(h:aB w0 w d v (bE d.T NL) ng st)(p:KZ d.T d.N R v.OL NL Ls st k a b ng):
 Calls Tryz.prog 91 #[.pointer (some ⟨d.ma,0,none⟩),.agg #[.int .i64 k,.int .i64 a,.int .i64 b]] w λr w'=>r= .returned (.tuple #[])/\∃aL,aB w0 w' d { v with ov:=aL } (bE d.T NL) ng (rH d.T R NL Nu Fi (k,(a,b)) st)/\aO d v { v with ov:=aL } w w':=by
 cases hn:(aR R a)[b]? with
 |none=>
  have e:rH d.T R NL Nu Fi (k,(a,b)) st=st:=by unfold rH uR;simp only;rw[hn];rfl
  rw[e];exact(aec E h p hn).mono λr w' ⟨h1,h2,h3⟩=>⟨h1,v.ov,h2,h3⟩
 |some s=>exact aed E h p hn
structure Ib(T N:Nat)(R:List Ru)(OL:List (List It))(NL:List (List Int))(Ls:List aV)(Nu:List Bool)(Fi:List (List Bool))(st:LS):Prop where
 inv:qD T R OL NL Ls Nu Fi st
 none:st.O=[]
 zero:(st.lk (0,(R.length,0))).testBit T=true
 c:st.c<=10000000
 lk:∀s,st.lk s<512
theorem ael{w0 w:World}{d:gL}{v:dK}{NL:List (List Int)}{Ls:List aV}{R:List Ru}{Nu:List Bool}{Fi:List (List Bool)}{ng:Nat}(E:kM w0 d R Nu Fi)(h:aB w0 w d v (bE d.T NL) ng ⟨λ_=>0,[],0⟩)(A:lJ d.T d.N R v.OL NL Ls)(few:v.OL.length<=150)(rP:ng<=10000000):
 Calls Tryz.prog 51 #[.pointer (some ⟨d.ma,0,none⟩)] w λr w'=>r= .returned (.tuple #[])/\∃aL st',aB w0 w' d { v with ov:=aL } (bE d.T NL) ng st'/\Ib d.T d.N R v.OL NL Ls Nu Fi st'/\aO d v { v with ov:=aL } w w':=by
 have hlen:∀k,k<v.OL.length->(v.OL.getD k []).length<=369:=λk hk=>by
  have:=KH E.Co (A.rF.lI k hk).uO (A.rF.ok k hk);have:=E.hR;omega
 have HLen:Hid (∀k,k<v.OL.length->(v.OL.getD k []).length<=369):=hlen;have hsp:=aeg hlen;have Pt:Hid (∀k,k<=v.OL.length->(qH v.OL k).length<=k*369):=hsp;have HE:Hid (kM w0 d R Nu Fi):=E;have HA:Hid (lJ d.T d.N R v.OL NL Ls):=A;have HM:Hid (aB w0 w d v (bE d.T NL) ng ⟨λ_=>0,[],0⟩):=h;have c6:=(h.cell (i:=6) rfl (by omega)).1;obtain⟨sa,sc,hsv⟩:=h.states;rw[hsv]at c6;have Cs:Hid (v.sv= .slice sa v.OL.length sc):=hsv;clear E A h hlen hsp hsv
 go_enter Tryz.func51,Tryz.ntmps51
 go_wp2_with fail
 clear c6
 go_loopw [13] (λs13 wr=> ∃(k:Nat) (ov:Value),s13= .int .i64 k/\k<=v.OL.length/\aB w0 wr d { v with ov:=ov } (bE d.T NL) ng ⟨λ_=>0,qH v.OL k,0⟩/\aO d v { v with ov:=ov } w wr) (λs _=>v.OL.length-(intOf s).toNat)
 case atStart=>exact⟨0,v.ov,rfl,aP _,HM.out,aO.refl _ _ _⟩
 case round=>
  obtain⟨k,ov,rfl,hk,hM,hG⟩:=hrel;have Ic:Hid (aB w0 wr d { v with ov:=ov } (bE d.T NL) ng ⟨λ_=>0,qH v.OL k,0⟩):=hM;have tH:Hid (aO d v { v with ov:=ov } w wr):=hG;by_cases hlt:k<v.OL.length
  ·obtain⟨g,c,hv,_,q0⟩:=hM.state (k:=k) hlt
   rw[show ({ v with ov:=ov }:dK).sv=v.sv from rfl,Cs.out]at hv;simp only at hv q0;cases hv;obtain⟨⟨ia,ic,hiv⟩,_⟩:=hM.items (k:=k) hlt;simp only at hiv;rw[hiv]at q0;have Ie:Hid (v.IV k= .slice ia (v.OL.getD k []).length ic):=hiv;have hl3:=HLen.out k hlt;have hsk:=Pt.out k hk;obtain⟨n,hn⟩:=af ((v.OL.getD k []).length);rw[hn]at q0 Ie hl3;have HN:Hid ((v.OL.getD k []).length=n):=hn;have i0:(0:Int)<=(k:Int):=aF _;have i1:(k:Int)<(v.OL.length:Int):=by omega
   clear hM hG hiv hn
   go_wp2_with fail
   clear q0
   go_loopw [20] (λs20 wq=> ∃(j:Nat) (ov:Value),s20= .int .i64 j/\j<=n/\aB w0 wq d { v with ov:=ov } (bE d.T NL) ng ⟨λ_=>0,qH v.OL k++((v.OL.getD k []).take j).map (λi=>(k,i)),0⟩/\aO d v { v with ov:=ov } w wq) (λs _=>n-(intOf s).toNat)
   case atStart=>exact⟨0,ov,rfl,aP _,by simpa using Ic.out,tH.out⟩
   case round=>
    clear Ic tH;obtain⟨j,ov,rfl,hj,hM,hG⟩:=hrel;have tH:Hid (aO d v { v with ov:=ov } w wr):=hG;have Ic:Hid (aB w0 wr d { v with ov:=ov } (bE d.T NL) ng ⟨λ_=>0,qH v.OL k++((v.OL.getD k []).take j).map (λi=>(k,i)),0⟩):=hM;by_cases hjl:j<n
    ·obtain⟨g',o',c',vS,_,q0,q1⟩:=(hM.items (k:=k) hlt).2 j (by rw[show ({ v with ov:=ov }:dK).OL=v.OL from rfl,HN.out];exact hjl)
     simp only at vS q0 q1;rw[Ie.out,HN.out]at vS;cases vS;rw[<-kF]at q1
     have Ct:(qH v.OL k++((v.OL.getD k []).take j).map (λi=>(k,i))).length<=100000:=by
      rw[aS,cK,fq];have:=few;have:k*369<=150*369:=BM _ (by omega);omega
     obtain⟨it,hit⟩:=af ((v.OL.getD k []).getD j (0,0));rw[hit]at q0 q1
     have HT:Hid (((v.OL.getD k []).take (j+1)).map (λi=>(k,i))=((v.OL.getD k []).take j).map (λi=>(k,i))++[(k,it)]):=by
      show ((v.OL.getD k []).take (j+1)).map _=_;have hj2:j<(v.OL.getD k []).length:=by rw[HN.out];exact hjl
      have e:(v.OL.getD k [])[j]=it:=by rw[<-hit];exact(Lb hj2).symm
      rw[fT hj2,fD,e];rfl
     obtain⟨P,hP⟩:=af (qH v.OL k++((v.OL.getD k []).take j).map (λi=>(k,i)));have HP:Hid (qH v.OL k++((v.OL.getD k []).take j).map (λi=>(k,i))=P):=hP;rw[hP]at hM Ct;obtain⟨a,b⟩:=it;simp only at q0 q1;have hM1:=hM.alloc (.cells #[.int .i64 a,.int .i64 b] 157);have hX1:=hM.box #[.int .i64 a,.int .i64 b] 157;obtain⟨W1,hW1⟩:=af (wr.alloc (.cells #[.int .i64 a,.int .i64 b] 157));rw[hW1]at hM1 hX1;have x0:=hX1.cell (i:=0) rfl;have x1:=hX1.cell (i:=1) rfl;have i2:(0:Int)<=(j:Int):=aF _;have i3:(j:Int)<(n:Int):=by omega
     obtain⟨oa,oc,hov⟩:=hM1.own.slice (i:= .op) rfl;have oJ:ov= .slice oa P.length oc:=hov;subst oJ;have h4:=hM1.alloc (.cells #[.int .i64 k,.int .i64 a,.int .i64 b] 164);have e9:=(hM1.cell (i:=9) rfl (by omega)).1;have f9:=(h4.cell (i:=9) rfl (by omega)).1;have eU:((W1.alloc (.cells #[.int .i64 k,.int .i64 a,.int .i64 b] 164)).drew).ownsRow w0.heap.size 164 3 (.slice oa P.length oc) P.length (P.flatMap mW):=h4.own.own .op _ rfl;have hma:d.ma<W1.heap.size:=hM1.El;have hne:some d.ma≠(Value.slice oa P.length oc).ownBlock:=λe1=>h4.own.apart .ma .op _ _ (by simp) rfl rfl d.ma rfl e1.symm;have Ph:=(h4.cell (i:=9) rfl (by omega)).2;have hn1:P.length+1<=maxLen:=by unfold maxLen;omega
     have hn2:(P.length+1)*24<=140737488355328:=by omega
     have hB3:w0.heap.size<=W1.heap.size:=hM1.le;have H4:Hid (aB w0 (W1.alloc (.cells #[.int .i64 k,.int .i64 a,.int .i64 b] 164)).drew d { v with ov:= .slice oa P.length oc } (bE d.T NL) ng ⟨λ_=>0,P,0⟩):=h4.drew
     have HG4:Hid (aO d v { v with ov:= .slice oa P.length oc } w (W1.alloc (.cells #[.int .i64 k,.int .i64 a,.int .i64 b] 164)).drew):=by
      show aO _ _ _ _ _;rw[<-hW1];exact((tH.out.alloc _).alloc _).drew
     have uJ:Hid (W1.heap.size=wr.heap.size+1):=by show W1.heap.size=_;rw[<-hW1];simp
     obtain⟨i5,hi0,hz0,hz1,hz2⟩:=fK Tryz.infoSpo;clear hM hG hM1 hX1 h4 hov hP hit
     go_wp2_with fail
     clear hW1
     go_region_law
      ((refine wZ _ (by rfl) _ _ _ (by rfl) w0.heap.size 164 i5 _ 3 24 Tryz.underlying110 hi0 hz0 hz1 hz2 rfl (by omega) (.slice oa P.length oc) P.length (P.flatMap mW) (by rfl) eU
         ⟨W1.heap.size,0,none⟩ 1 1 [.int .i64 k,.int .i64 a,.int .i64 b] (by rfl) (by rfl) (jh (cs:= #[.int .i64 k,.int .i64 a,.int .i64 b]) (t:=164) (fr:=(0,0)) (heap_alloc_new W1 _)) (by simp[Value.oneCell'])
         (by omega) hn1 hn2 (by simp;omega) (W1.heap.size+1) (by simp) ?_;intro g5 cap5 w5 hown5 hgrow hat zf;have c9':=(hgrow.cell_far ⟨d.ma,9,none⟩ (by simp;omega) hne).trans f9;have f9':=(hgrow.frozen_far ⟨d.ma,9,none⟩ (by simp;omega) hne).trans Ph))
     all_goals
      go_wp2_with fail
      go_roundw
      case rel=>
       have r:=H4.out.aej (s:=(k,(a,b))) rfl hown5 hgrow (by simpa using hat);exact⟨j+1,_,by go_num,by omega,by rw[HT.out,<-mG,HP.out];exact r.1,HG4.out.trans r.2⟩
      case measure=>simp[intOf];omega
    ·obtain rfl:j=n:=by omega
     rw[<-HN.out,gH,<-WG]at hM;have Pq:Hid (aB w0 wr d { v with ov:=ov } (bE d.T NL) ng ⟨λ_=>0,qH v.OL (k+1),0⟩):=hM;clear hM hG
     go_wp2_with fail
     go_roundw
     case rel=>exact⟨k+1,ov,by go_num,by omega,Pq.out,tH.out⟩
     case measure=>simp[intOf];omega
  ·obtain rfl:k=v.OL.length:=by omega
   obtain⟨st0,Eu⟩:=af ((⟨λ_=>0,qH v.OL v.OL.length,0⟩:LS));rw[Eu]at hM;have hT:=HE.out.hT;have WH:2^d.T<512:=Nat.lt_of_le_of_lt (wV (by omega) hT) (by decide)
   have Ct:st0.O.length<=100000/\st0.c=0/\∀s,st0.lk s=0:=by
    rw[<-Eu];have:=Pt.out v.OL.length (ah _);have:v.OL.length*369<=150*369:=BM _ few;exact⟨by simp only;omega,rfl,λ_=>rfl⟩
   have hI0:qD d.T R v.OL NL Ls Nu Fi st0:=by rw[<-Eu];exact adD v.OL
   have WI:kL v.OL d.T st0<=2000000:=by
    unfold kL Hr;have h1:=vv (λq:bB×Nat=> !(st0.lk q.1).testBit q.2) (Ck v.OL d.T);rw[aeh]at h1;have h2:(zq v.OL).length=st0.O.length:=by rw[<-Eu];rfl
    have h3:=Ct.1;have h4:(zq v.OL).length*(d.T+1)<=100000*9:=Nat.mul_le_mul (by omega) (by omega);have h5:=Ct.2.1;have h6:=Pt.out v.OL.length (ah _);have h7:v.OL.length*369<=150*369:=BM _ few;have h8:(zq v.OL).length<=55350:=by rw[h2,<-Eu];simp only;omega
    have h9:(zq v.OL).length*(d.T+1)<=55350*9:=Nat.mul_le_mul h8 (by omega);omega
   have Ev:jT wr.drew w0.heap.size d.ma d.T d.N d.rv R:=hM.drew.auto HE.out;have Bc:=KU Ev;have one:=KX (w:=wr.drew) (n:=d.T) hT;obtain⟨pw,hpw⟩:=af (2^d.T);rw[hpw]at one WH;have Bb:=Pj hM.drew (a:=0) (b:=R.length) (c:=0) (m:=pw) ⟨aP _,by have:=HE.out.hR;simp only;omega,aP _⟩ WH (by rw[Ct.2.2];omega) (by rw[Ct.2.1];omega) (by omega);have a0:=Ev.t
   have ok1:OkG d.T R Nu Fi NL Ls v.OL ((0,(R.length,0)),pw):=⟨HA.out.zero,λt ht=>by
    rw[<-hpw,Dy]at ht;have:t=d.T:=by simpa using (wX ht).symm
    subst this
    exact⟨ah _,uP.start⟩⟩
   have HI1:Hid (qD d.T R v.OL NL Ls Nu Fi (ig ((0,(R.length,0)),pw) st0)):=hI0.give ok1
   have HZ1:Hid (((ig ((0,(R.length,0)),pw) st0).lk (0,(R.length,0))).testBit d.T=true):=by
    show ((ig ((0,(R.length,0)),pw) st0).lk (0,(R.length,0))).testBit d.T=true;have hb:pw.testBit d.T=true:=by rw[<-hpw,Dy];simp
    unfold ig;split
    ·rename_i he
     exact or_bit he hb
    ·simp[Nat.testBit_or,hb]
   have Pv:Hid (kL v.OL d.T (ig ((0,(R.length,0)),pw) st0)<=2000000):=aZ (VR ⟨ok1.1,λt ht=>(ok1.2 t ht).1⟩) WI;have hz:((0:Nat):Int)=0:=rfl;rw[hz]at Bb;clear hM hG Eu Ev hI0 WI ok1 hpw Ct hz
   go_wp2_with fail
   go_cut [] from 38 (λwx=> ∃aL,aB w0 wx d { v with ov:=aL } (bE d.T NL) ng (ig ((0,(R.length,0)),pw) st0)/\aO d v { v with ov:=aL } w wx)
   case first=>
    go_region_held3 (λwx=>wx.cell? ⟨d.ma,0,none⟩=some (.int .i64 d.T)) (first|assumption|go_keep)
     (first
      |(go_at_call 86;refine Bc.mono ?_;rintro e w5 ⟨rfl,rfl⟩)
      |(go_at_call 90;refine one.mono ?_;rintro e w5 ⟨rfl,rfl⟩)
      |(go_at_call 89;refine Bb.mono ?_;rintro e w6 ⟨rfl,aL,lM,tF⟩
        have a06:=(lM.cell (i:=0) rfl (by omega)).1;have qg:Hid (aB w0 w6 d { v with ov:=aL } (bE d.T NL) ng (ig ((0,(R.length,0)),pw) st0)/\aO d v { v with ov:=aL } w w6):=⟨lM,tH.out.drew.trans tF⟩
        clear lM tF))
    all_goals
     go_wp2_with fail
     go_meet
     case rel=>exact⟨aL,qg.out.1,qg.out.2⟩
   case rest=>
    obtain⟨jS,hM,hG⟩:=hcut;obtain⟨st1,l8⟩:=af (ig ((0,(R.length,0)),pw) st0);rw[l8]at hM HI1 HZ1 Pv;have tJ:Hid (aB w0 wc d { v with ov:=jS } (bE d.T NL) ng st1):=hM;have FT:Hid (aO d v { v with ov:=jS } w wc):=hG;clear hM hG l8 Bc one Bb a0 Ic tH
    go_wp2_with fail
    go_loopg [] (kL v.OL d.T st1) (λgk wq=> ∃ov st,gk=kL v.OL d.T st/\aB w0 wq d { v with ov:=ov } (bE d.T NL) ng st/\qD d.T R v.OL NL Ls Nu Fi st/\(st.lk (0,(R.length,0))).testBit d.T=true/\kL v.OL d.T st<=2000000/\aO d v { v with ov:=ov } w wq)
    case atStart=>exact⟨jS,st1,rfl,tJ.out,HI1.out,HZ1.out,Pv.out,FT.out⟩
    case round=>
     clear tJ FT HI1 HZ1 Pv;obtain⟨ov,⟨lk,OO,cc⟩,oM,hM,hI,hZ,hP,hG⟩:=hrel;have hfr:=hM.cell (i:=9) rfl (by omega);have hlk:∀s,lk s<512:=λs=>aei hT λt ht=>(hI.snd s t ht).2.1;have WJ:cc<=2000000/\OO.length<=2000000:=by unfold kL at hP;simp only at hP;omega
     have tH:Hid (aO d v { v with ov:=ov } w wr):=hG;have OE:Hid (gk=kL v.OL d.T ⟨lk,OO,cc⟩):=oM;rcases List.eq_nil_or_concat OO with hO|⟨O,p,hO⟩
     ·subst hO
      obtain⟨oa,oc,hov⟩:=hM.own.slice (i:= .op) rfl;simp only[List.length_nil]at hov;subst hov;have c9:=hfr.1;have HF:Hid (aB w0 wr d { v with ov:= .slice oa 0 oc } (bE d.T NL) ng ⟨lk,[],cc⟩/\Ib d.T d.N R v.OL NL Ls Nu Fi ⟨lk,[],cc⟩):=⟨hM,hI,rfl,hZ,by simp only;omega,hlk⟩;clear hM hI hZ hP hG oM hfr hlk
      go_wp2_with fail
      go_end0
      exact⟨rfl,_,_,HF.out.1,HF.out.2,tH.out⟩
     ·rw[List.concat_eq_append]at hO
      subst hO;obtain⟨g,cap,hgv,_,GH⟩:=hM.own.form (i:= .op) rfl (by simp);simp only[aS,List.length_cons,List.length_nil,eO]at hgv;subst hgv;have ho:=hM.own.own .op _ rfl;simp only at ho;have hl1:(O++[p]).length=O.length+1:=by simp
      rw[hl1]at ho
      have q:∀i,i<3->wr.cell? ⟨g,O.length*3+i,none⟩=(mW p)[i]?:=λi hi=>by
       rw[ho.cellAt (O.length*3+i) (by omega),adS (by simp) hi];simp[List.getD]
      have hcap:O.length+1<=cap:=by
       rcases ho.2 with⟨e,_⟩|⟨g',cap',cur,e,_,_,h4,_⟩
       ·cases e
       ·injection e with _ _ e3
        omega
      obtain⟨pm,pg⟩:=hM.pop (O:=O) (p:=p) rfl rfl;obtain⟨k,a,b⟩:=p;have q0:=q 0 (by omega);have q1:=q 1 (by omega);have q2:=q 2 (by omega);simp only[mW,Nat.add_zero]at q0 q1 q2;have Cu:wr.cell? ⟨g,O.length*3,none⟩=some (.int .i64 k):=q0;have q1':wr.cell? ⟨g,O.length*3+1,none⟩=some (.int .i64 a):=q1;have q2':wr.cell? ⟨g,O.length*3+2,none⟩=some (.int .i64 b):=q2;have WK:=pm.alloc (.cells #[.int .i64 k,.int .i64 a,.int .i64 b] 164);have D6:O.length<=2000000:=by have:=WJ.2;simp only[aS,List.length_cons,List.length_nil]at this;omega
      have lkc:=aek HE.out WK (k:=k) (a:=a) (b:=b) ⟨HA.out,hI.opn _ (by simp),hlk,few,rP,by simp only;omega,by simp only;omega⟩
      have HN:Hid (qD d.T R v.OL NL Ls Nu Fi (rH d.T R NL Nu Fi (k,(a,b)) ⟨lk,O,cc⟩)):=hI.look HA.out (λn=>by
       by_cases hn:n<d.N
       ·rw[HE.out.Cn n hn];exact ah _
       ·rw[List.getD,nJ (by rw[HE.out.A7];omega)];simp)
      have Lc:Hid (kL v.OL d.T (rH d.T R NL Nu Fi (k,(a,b)) ⟨lk,O,cc⟩)<kL v.OL d.T ⟨lk,O++[(k,(a,b))],cc⟩):=adH HA.out (λn=>by
       by_cases hn:n<d.N
       ·rw[HE.out.Cn n hn];exact ah _
       ·rw[List.getD,nJ (by rw[HE.out.A7];omega)];simp) hI
      have Ld:Hid (((rH d.T R NL Nu Fi (k,(a,b)) ⟨lk,O,cc⟩).lk (0,(R.length,0))).testBit d.T=true):=adF _ _ hZ;have HPg:Hid (aO d { v with ov:= .slice (some ⟨g,0,none⟩) (O.length+1) cap } { v with ov:= .slice (some ⟨g,0,none⟩) O.length cap } wr ((wr.setCell ⟨d.ma,9,none⟩ (.slice (some ⟨g,0,none⟩) O.length cap)).alloc (.cells #[.int .i64 k,.int .i64 a,.int .i64 b] 164))):=pg.alloc _;have vz:Hid (kL v.OL d.T ⟨lk,O++[(k,(a,b))],cc⟩<=2000000):=hP;have c9:=hfr.1;have f9:=hfr.2;have hma:d.ma<wr.heap.size:=hM.El;have i0:(0:Int)<=(O.length:Int):=aF _;have i1:(O.length:Int)<(O.length:Int)+1:=by omega
      have i2:(O.length:Int)<=(cap:Int):=by omega
      clear hM hI hZ hP hG oM hfr hlk hl1 ho q q0 q1 q2 pm pg WK WJ GH
      go_wp2_with (go_at_call 91;refine lkc.mono ?_;rintro r w1 ⟨rfl,aL,h3,h4⟩)
      go_roundg (kL v.OL d.T (rH d.T R NL Nu Fi (k,(a,b)) ⟨lk,O,cc⟩))
      case measure=>rw[OE.out];exact Lc.out
      case rel=>exact⟨aL,_,rfl,h3,HN.out,Ld.out,aZ (iQ Lc.out) vz.out,(tH.out.trans HPg.out).trans h4⟩
end Go.Proofs.YthbifaoaiggooaaGreatDoor
namespace Go.Proofs.YthbifaoaiggooaaGreatDoor
open Go.Shelf
def Tryz.sortIt_ren:Go.Shelf.Ren:=⟨λ|6=>147|15=>170|14=>169|28=>196|29=>173|20=>188|21=>189|22=>190|23=>191|24=>192|25=>193|26=>194|27=>195|46=>202|47=>203|48=>204|49=>205|50=>206|57=>209|n=>n,λ|22=>158|24=>157|25=>230|3=>3|39=>197|0=>0|53=>166|55=>234|4=>4|46=>274|45=>273|50=>40|5=>5|9=>9|66=>285|70=>289|76=>297|77=>298|n=>n,λ|n=>n⟩
theorem Tryz.sortIt:Go.Proofs.SlLaysF0.n6 Tryz.prog Tryz.sortIt_ren:=by
 refine' { f6:=⟨Tryz.f147.name,by decide,by kernel_rfl⟩,f14:=⟨Tryz.f169.name,by decide,by kernel_rfl⟩,f20:=⟨Tryz.f188.name,by decide,by kernel_rfl⟩,f21:=⟨Tryz.f189.name,by decide,by kernel_rfl⟩,f22:=⟨Tryz.f190.name,by decide,by kernel_rfl⟩,f23:=⟨Tryz.f191.name,by decide,by kernel_rfl⟩,f24:=⟨Tryz.f192.name,by decide,by kernel_rfl⟩,f25:=⟨Tryz.f193.name,by decide,by kernel_rfl⟩,f26:=⟨Tryz.f194.name,by decide,by kernel_rfl⟩,f27:=⟨Tryz.f195.name,by decide,by kernel_rfl⟩,f46:=⟨Tryz.f202.name,by decide,by kernel_rfl⟩,f49:=⟨Tryz.f205.name,by decide,by kernel_rfl⟩,f50:=⟨Tryz.f206.name,by decide,by kernel_rfl⟩,f57:=⟨Tryz.f209.name,by decide,by kernel_rfl⟩,.. }<;>first|kernel_rfl|(intro _;kernel_rfl)|decide
open Go.RowKit
def vT(a b:Nat):Int:=if a<b then -1 else if b<a then 1 else 0
def zB(x y:It):Int:=if vT x.1 y.1=0 then vT x.2 y.2 else vT x.1 y.1
theorem Bd(x y:It):ltOf zB x y=true↔jL x y:=by
 unfold ltOf zB vT jL;rw[bX];by_cases h1:x.1<y.1
 ·simp[h1]
 ·by_cases h2:y.1<x.1
  ·have h3:x.1≠y.1:=by omega
   simp[h1,h2,h3]
  ·have h3:x.1=y.1:=by omega
   by_cases h4:x.2<y.2
   ·simp[h3,h4]
   ·by_cases h5:y.2<x.2<;>simp[h3,h4,h5]
theorem WL{w:World}(a b:Nat):Calls Tryz.prog 150 #[.int .i64 a,.int .i64 b] w λe w'=>e= .returned (.int .i64 (vT a b))/\w'=w:=by
 have nan:∀(x:Nat) (W:World),Calls Tryz.prog 171 #[.int .i64 x] W λe w'=>e= .returned (.bool false)/\w'=W:=λx W=>by
  go_enter Tryz.func171,Tryz.ntmps171
  go_wp2_with fail
  go_ret;simp
 unfold vT;by_cases h1:a<b
 ·rw[au h1]
  have d1:decide (a<b)=true:=aT h1
  go_enter Tryz.func150,Tryz.ntmps150
  go_wp2_with (go_at_call 171;refine(nan _ _).mono ?_;rintro e w' ⟨rfl,rfl⟩)
  go_ret;exact⟨rfl,rfl⟩
 ·rw[aj h1]
  have d1:decide (a<b)=false:=aU h1;by_cases h2:b<a
  ·rw[au h2]
   have d2:decide (b<a)=true:=aT h2
   go_enter Tryz.func150,Tryz.ntmps150
   go_wp2_with (go_at_call 171;refine(nan _ _).mono ?_;rintro e w' ⟨rfl,rfl⟩)
   go_ret;exact⟨rfl,rfl⟩
  ·rw[aj h2]
   have d2:decide (b<a)=false:=aU h2
   go_enter Tryz.func150,Tryz.ntmps150
   go_wp2_with (go_at_call 171;refine(nan _ _).mono ?_;rintro e w' ⟨rfl,rfl⟩)
   go_ret;exact⟨rfl,rfl⟩
theorem aem{w:World}{b:Nat}{x y:Int}(c0:w.cell? ⟨b,0,none⟩=some (.int .i64 x))(c1:w.cell? ⟨b,1,none⟩=some (.int .i64 y)):
 Calls Tryz.prog 149 #[.slice (some ⟨b,0,none⟩) 2 2] w λe w'=>e= .returned (.int .i64 (if x=0 then y else x))/\w'=w:=by
 obtain⟨r,hr⟩:=af ((if x=0 then y else x));have HR:Hid ((x≠0->r=x)/\(x=0->r=y)):=⟨λh=>by rw[<-hr,aj h],λh=>by rw[<-hr,au h]⟩;rw[hr];clear hr
 go_enter Tryz.func149,Tryz.ntmps149
 go_wp2_with fail
 go_loopw [8] (λs wr=> ∃k:Nat,s= .int .i64 k/\k<=2/\wr=w/\(1<=k->x=0)/\(2<=k->y=0)) (λs _=>2-(intOf s).toNat)
 case atStart=>exact⟨0,rfl,by omega,rfl,by omega,by omega⟩
 case round=>
  obtain⟨k,rfl,hk,rfl,h1,h2⟩:=hrel;have hcs:k=0\/k=1\/k=2:=by omega
  rcases hcs with rfl|rfl|rfl
  ·clear h1 h2
   by_cases hx:x=0
   ·have e1:(x !=0)=false:=by simpa using hx
    have HX:Hid (x=0):=hx;clear hx
    go_wp2_with fail
    go_roundw
    case rel=>exact⟨1,rfl,by omega,trivial,λ_=>HX.out,by omega⟩
    case measure=>simp[intOf]
   ·have e1:(x !=0)=true:=by simpa using hx
    have hx':=HR.out.1 hx;clear hx HR;subst hx'
    go_wp2_with fail
    go_ret;exact⟨rfl,rfl⟩
  ·have hx:=h1 (by omega)
   have hr:=HR.out.2 hx;have HX:Hid (x=0):=hx;clear h1 h2 hx HR;subst hr;by_cases hy:r=0
   ·have e1:(r !=0)=false:=by simpa using hy
    have HY:Hid (r=0):=hy;clear hy
    go_wp2_with fail
    go_roundw
    case rel=>exact⟨2,rfl,by omega,trivial,λ_=>HX.out,λ_=>HY.out⟩
    case measure=>simp[intOf]
   ·have e1:(r !=0)=true:=by simpa using hy
    clear hy
    go_wp2_with fail
    go_ret;exact⟨rfl,rfl⟩
  ·have hx:=h1 (by omega)
   have hy:=h2 (by omega);have hr:=HR.out.2 hx;rw[hy]at hr;clear h1 h2 HR;subst hr
   go_wp2_with fail
   go_ret;exact⟨rfl,rfl⟩
theorem aen(x y:It)(W:World):Calls Tryz.prog 148 #[.agg #[.int .i64 x.1,.int .i64 x.2],.agg #[.int .i64 y.1,.int .i64 y.2]] W λe w'=>e= .returned (.int .i64 (zB x y))/\∃q os',w'=Go.Sort.grow (W.drewN q) os':=by
 obtain⟨a,b⟩:=x;obtain⟨c,d⟩:=y;simp only;have HC:Hid (zB (a,b) (c,d)=if vT a c=0 then vT b d else vT a c):=rfl;obtain⟨p,hp⟩:=af (vT a c);obtain⟨q,hq⟩:=af (vT b d);have c1:=λw=>WL (w:=w) a c;have c2:=λw=>WL (w:=w) b d;rw[hp,hq]at HC;simp only[hp]at c1;simp only[hq]at c2;have co:=λ(w:World) (b:Nat) c0 c1=>aem (w:=w) (b:=b) (x:=p) (y:=q) c0 c1;obtain⟨r,hr⟩:=af ((if p=0 then q else p));simp only[hr]at co;rw[hr]at HC;clear hp hq hr;obtain⟨W1,hW1⟩:=af ((W.alloc (.cells #[.int .i64 a,.int .i64 b] 157)).alloc (.cells #[.int .i64 c,.int .i64 d] 157));have b0:W1.cell? ⟨W.heap.size,0,none⟩=some (.int .i64 a):=by rw[<-hW1];simp[go_sem]
 have b1:W1.cell? ⟨W.heap.size,1,none⟩=some (.int .i64 b):=by rw[<-hW1];simp[go_sem]
 have b2:W1.cell? ⟨W.heap.size+1,0,none⟩=some (.int .i64 c):=by rw[<-hW1];simp[go_sem]
 have b3:W1.cell? ⟨W.heap.size+1,1,none⟩=some (.int .i64 d):=by rw[<-hW1];simp[go_sem]
 have HW1:Hid (W1=Go.Sort.grow W #[.cells #[.int .i64 a,.int .i64 b] 157,.cells #[.int .i64 c,.int .i64 d] 157]):=by
  show W1=_;rw[<-hW1,Go.Sort.alloc_eq_grow,Go.Sort.alloc_eq_grow,Go.Sort.grow_grow];rfl
 have n0:=World.new_ne W1 _ b0;have n1:=World.new_ne W1 _ b2
 go_enter Tryz.func148,Tryz.ntmps148
 go_wp2_with fail
 clear hW1
 go_region_held3 (λw'=>w'.cell? ⟨W.heap.size,0,none⟩=some (.int .i64 a)/\w'.cell? ⟨W.heap.size,1,none⟩=some (.int .i64 b)/\w'.cell? ⟨W.heap.size+1,0,none⟩=some (.int .i64 c)/\w'.cell? ⟨W.heap.size+1,1,none⟩=some (.int .i64 d)) (go_keep)
  (first
   |(go_at_call_of 150 (Value.int .i64 a);refine(c1 _).mono ?_;rintro e w' ⟨rfl,rfl⟩)
   |(go_at_call_of 150 (Value.int .i64 b);refine(c2 _).mono ?_;rintro e w' ⟨rfl,rfl⟩)
   |(go_at_call 149;refine(co _ _ (by simp[go_sem]) (by simp[go_sem])).mono ?_;rintro e w' ⟨rfl,rfl⟩))
 all_goals
  go_wp2_with fail
  go_ret;refine⟨by rw[HC.out];rfl,1,#[.cells #[.int .i64 a,.int .i64 b] 157,.cells #[.int .i64 c,.int .i64 d] 157]++ #[.cells #[.int .i64 p,.int .i64 q] 3],?_⟩;rw[HW1.out,Go.Sort.alloc_eq_grow,Go.Sort.grow_grow];rfl
theorem WM(d:Array It):(Go.Sort.flatK bF 2 d).toList=d.toList.flatMap bF:=by
 apply FJ;intro t;have hl:=Hy d.toList;by_cases ht:t<d.size*2
 ·have h1:t/2<d.toList.length:=by simp;omega
  have h2:=Hw (L:=d.toList) (i:=t/2) (k:=t%2) h1 (by omega);rw[show t/2*2+t%2=t by omega]at h2;rw[h2,JJ];have h3:t<(Go.Sort.flatK bF 2 d).size:=by simpa using ht
  rw[JI h3];have h4:=Go.Sort.get_flatK bF 2 d t ht;rw[getElem!_pos _ t h3]at h4;rw[h4]
  have e:d[t/2]! =d.toList.getD (t/2) (0,0):=by
   have h5:t/2<d.size:=by omega
   rw[getElem!_pos d (t/2) h5];simp[List.getD,h5]
  rw[e];have h6:t%2<(bF (d.toList.getD (t/2) (0,0))).length:=by simp[bF];omega
  rw[getElem!_pos (bF (d.toList.getD (t/2) (0,0))) (t%2) h6,pq h6]
 ·rw[nJ (by simp;omega),nJ (by rw[hl];simp;omega)]
theorem aeo{w:World}{base g cap:Nat}{L:List It}(h:w.ownsRow base 157 2 (.slice (some ⟨g,0,none⟩) L.length cap) L.length (L.flatMap bF)):Go.Sort.HoldsK bF 2 w g 0 L.toArray:=by
 intro j hj;have hj':j<L.length*2:=by simpa using hj
 refine⟨?_,by rw[eO];exact h.frozenAt j⟩;rw[eO,h.cellAt j hj'];have e:L.flatMap bF=(Go.Sort.flatK bF 2 L.toArray).toList:=(WM L.toArray).symm;rw[e,JJ,JI hj];rw[getElem!_pos _ j hj];rfl
theorem aep{w:World}{g n:Nat}{os:Array Obj}(d:Array It):w.grownBy (sortWorldK bF 2 w g 0 n d os) (some g):=by
 unfold sortWorldK Go.Sort.putRowK;refine⟨rfl,rfl,rfl,by simp,λk hk hne=> ?_⟩;rw[Go.Sort.heap_grow_old _ _ (by simpa using hk)];have:g≠k:=λe=>hne (by rw[e]);simp[Go.Sort.putRow,Go.Sort.mapBlock,Go.Sort.ahead,Array.getElem?_modify,this]
theorem aer{w:World}{base g cap n:Nat}{L:List It}{os:Array Obj}(h:w.ownsRow base 157 2 (.slice (some ⟨g,0,none⟩) L.length cap) L.length (L.flatMap bF)){d:Array It}(hs:d.size=L.length):
 (sortWorldK bF 2 w g 0 n d os).ownsRow base 157 2 (.slice (some ⟨g,0,none⟩) L.length cap) L.length (d.toList.flatMap bF):=by
 refine⟨by rw[Hy];simp[hs],?_⟩;rcases h.2 with⟨e,_⟩|⟨g',cap',cur,e,h2,h3,h4,h5,h6,h7⟩
 ·cases e
 ·injection e with e1 e2 e3
  injection e1 with e1;injection e1 with e1;subst e1;subst e3;have hg:g<w.heap.size:=(dx.1 h3).1;refine .inr ⟨g,cap,Go.Sort.putCells id 0 (Go.Sort.flatK bF 2 d) cur,rfl,h2,?_,h4,h5,by simp[Go.Sort.putCells,h6],?_⟩
  ·unfold sortWorldK Go.Sort.putRowK
   rw[Go.Sort.heap_grow_old _ _ (by simpa using hg)];simp[Go.Sort.putRow,Go.Sort.mapBlock,Go.Sort.ahead,Array.getElem?_modify,h3,Go.Sort.onCells]
  ·rw[<-WM]
   have hsz:(Go.Sort.flatK bF 2 d).size=L.length*2:=by simp[hs]
   apply FJ;intro j;by_cases hj:j<L.length*2
   ·have hjc:j<cur.size:=by omega
    rw[List.getElem?_take_of_lt hj,JJ,JJ];unfold Go.Sort.putCells;rw[Array.getElem?_mapIdx,JI hjc,JI (by omega:j<(Go.Sort.flatK bF 2 d).size)];simp only[Option.map_some,aP,eO,true_and,Nat.sub_zero,id];rw[au (by omega),getElem!_pos _ j (by omega)]
   ·rw[List.getElem?_take_eq_none (by omega),nJ (by simp[hs];omega)]
theorem aes:Go.Sort.SWO (ltOf zB) where
 irrefl x:=by
  cases h:ltOf zB x x with
  |false=>rfl
  |true=>exact absurd ((Bd x x).1 h) (O0 x)
 trans x y z h1 h2:=(Bd x z).2 (VF x y z ((Bd x y).1 h1) ((Bd y z).1 h2))
 ntrans x y z h1 h2:=by
  cases h:ltOf zB x z with
  |false=>rfl
  |true=>
   have h3:=(Bd x z).1 h;have n1:¬jL x y:=λe=>by rw[(Bd x y).2 e]at h1;cases h1
   have n2:¬jL y z:=λe=>by rw[(Bd y z).2 e]at h2;cases h2
   unfold jL at h3 n1 n2;omega
theorem Tryz.itAgg:∀w,(isAgg 157).run Tryz.prog w= .ok true w:=Tryz.isAgg157
theorem Tryz.itSize:∀w,(Go.sizeOf 157).run Tryz.prog w= .ok 2 w:=Tryz.sizeOf157
theorem aeu{w:World}{base g cap:Nat}{L:List It}(h:w.ownsRow base 157 2 (.slice (some ⟨g,0,none⟩) L.length cap) L.length (L.flatMap bF))(hl:L.length<=1000000)(hnd:L.Nodup):
 Calls Tryz.prog 147 #[.slice (some ⟨g,0,none⟩) L.length cap,.func (.func 148) #[] #[]] w λe w'=>e= .returned (.tuple #[])/\
  ∃C:List It,C.length=L.length/\C.Pairwise jL/\(∀i,i∈C↔i∈L)/\w'.ownsRow base 157 2 (.slice (some ⟨g,0,none⟩) L.length cap) L.length (C.flatMap bF)/\w.grownBy w' (some g):=by
 have eg:∀args w,(callFunc 148 args).run Tryz.prog w= .ok (.enter 148 args) w:=enters_of Tryz.func148 (by kernel_rfl) rfl;have hcmp:CmpLays Tryz.prog 148 #[] bF 2 zB g 0 L.toArray.size w:=λ_ _ _ _ x y=>aen x y _;have hblk:g<w.heap.size:=(h.lt g rfl).2;have hcon:=AnyQ.slices_SortFunc Tryz.sortIt 2 Tryz.itAgg Tryz.itSize bF (λ_=>rfl) (λx v hv=>by simp[bF]at hv;rcases hv with rfl|rfl<;>rfl) zB aes 148 #[] g 0 cap L.toArray w eg hcmp (aeo h) hblk (by simp;omega);have hsz:L.toArray.size=L.length:=by simp
 rw[hsz]at hcon;refine Calls.mono hcon ?_;rintro e w' ⟨rfl,d',n,os,⟨hp1,_,hp3⟩,hs,rfl⟩;have hds:d'.size=L.length:=by rw[hp1];simp
 have hperm:d'.toList.Perm L:=by
  have e1:d'.extract 0 L.length=d':=by rw[<-hds];simp
  have e2:L.toArray.extract 0 L.length=L.toArray:=by simp
  rw[e1,e2]at hp3;simpa using hp3
 have hnd':d'.toList.Nodup:=hperm.symm.nodup hnd;refine⟨rfl,d'.toList,by simp[hds],?_,λi=>hperm.mem_iff,aer h hds,aep d'⟩;rw[JN];intro i j hi hj hij;have h1:=hs i j (aP _) hij (by simpa [hds] using hj);have hi':i<d'.size:=by simpa using hi
 have hj':j<d'.size:=by simpa using hj
 rw[getElem!_pos d' i hi',getElem!_pos d' j hj']at h1;have n1:¬jL d'[j] d'[i]:=λe=>by rw[(Bd _ _).2 e]at h1;cases h1
 have n2:d'[i]≠d'[j]:=λe=>by
  have:=(JN.1 hnd') i j hi hj hij;simp only[Array.getElem_toList]at this;exact this e
 simp only[Array.getElem_toList];unfold jL at n1⊢;have n3:¬(d'[i].1=d'[j].1/\d'[i].2=d'[j].2):=λe=>n2 (Prod.ext e.1 e.2);omega
end Go.Proofs.YthbifaoaiggooaaGreatDoor
