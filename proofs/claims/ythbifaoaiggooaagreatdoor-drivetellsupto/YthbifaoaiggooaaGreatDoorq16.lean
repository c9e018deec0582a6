import Derived.Test.YthbifaoaiggooaaGreatDoorq15
import Derived.Deep.DeepCutAuto
set_option maxHeartbeats 6400000
set_option maxRecDepth 100000
namespace Go.Proofs.YthbifaoaiggooaaGreatDoor
def zM:Qy->List Int×Int×Int
 | .done d=>(d,-1,0)
 | .none n=>([],n,0)
 | .size=>([],0,1)
def Bv(T N:Nat)(R:List Ru)(tok:List Int)(a:List Int×Int×Int):Prop:=
 (More T N R 150/\a=([],0,1))\/∃K,Whole T N R K/\K<=150/\
  ((eZ T N R tok≠0/\a=([],0,eZ T N R tok))\/(eZ T N R tok=0/\0<gZ (dF T N R K)/\a=([],0,4))\/
   (eZ T N R tok=0/\gZ (dF T N R K)=0/\a=zM (tX T N R (ax T N R K).1 (ax T N R K).2 tok)))
theorem Bv.one{T N:Nat}{R:List Ru}{tok:List Int}{a b:List Int×Int×Int}(h:Bv T N R tok a)(k:Bv T N R tok b):a=b:=by
 rcases h with⟨h1,rfl⟩|⟨K,h1,h2,h3⟩
 ·rcases k with⟨_,rfl⟩|⟨K',k1,k2,_⟩
  ·rfl
  ·exact absurd h1 (AP k1 k2)
 ·rcases k with⟨k1,_⟩|⟨K',k1,k2,k3⟩
  ·exact absurd k1 (AP h1 h2)
  ·have:=ES h1 k1
   subst this;rcases h3 with⟨h3,rfl⟩|⟨h3,h4,rfl⟩|⟨h3,h4,rfl⟩<;>rcases k3 with⟨k3,rfl⟩|⟨k3,k4,rfl⟩|⟨k3,k4,rfl⟩
   ·rfl
   ·exact absurd k3 h3
   ·exact absurd k3 h3
   ·exact absurd h3 k3
   ·rfl
   ·omega
   ·exact absurd h3 k3
   ·omega
   ·rfl
theorem af2{T N:Nat}{R:List Ru}{K qs:Nat}(h:Whole T N R K)(hq:qs<K)(hN:0<N):((jo T N R K).getD qs []).length=N:=by
 rw[Ym hq,pE,(OW (GV h) qs hq 0 (by omega)).1];omega
theorem IW{T N:Nat}{R:List Ru}{m:Nat}(hm:0<m)(h:¬More T N R m):∃K,Whole T N R K/\K<=m:=by
 have f0:(ax T N R 0).2.length=1:=rfl
 have whole:∀k,0<k->k<=m->k-1<(ax T N R (k-1)).2.length->¬k<(ax T N R k).2.length->∃K,Whole T N R K/\K<=m:=λk hk hkm h1 h2=>by
  have h3:=OU (T:=T) (N:=N) (R:=R) (show k-1<=k by omega);exact⟨k,by unfold Whole;omega,hkm⟩
 have step:∀k,k<=m->(∀j,j<k->j<(ax T N R j).2.length)\/∃K,Whole T N R K/\K<=m:=by
  intro k
  induction k with
  |zero=>exact λ_=> .inl λj hj=>absurd hj (iI _)
  |succ k ih=>
   intro hk;rcases ih (by omega) with h1|h1
   ·by_cases hlt:k<(ax T N R k).2.length
    ·refine .inl λj hj=> ?_
     rcases fJ.1 hj with hj|rfl
     ·exact h1 j hj
     ·exact hlt
    ·have hk0:0<k:=by
      rcases FO k with h0|h0
      ·rw[h0]at hlt;omega
      ·exact h0
     exact .inr (whole k hk0 (by omega) (h1 (k-1) (by omega)) hlt)
   ·exact .inr h1
 rcases step m (ah _) with h1|h1
 ·by_cases hlt:m<(ax T N R m).2.length
  ·exfalso
   refine h ⟨m-1,T+N,h1 (m-1) (by omega),ah _,?_⟩;have e:ax T N R (m-1+1)=mh T N R (m-1) (ax T N R (m-1)):=rfl;rw[show m-1+1=m by omega]at e;rw[e,mh]at hlt;exact hlt
  ·exact whole m hm (ah _) (h1 (m-1) (by omega)) hlt
 ·exact h1
theorem Yo{T:Nat}{tok:List Int}(hin:eT T tok=true):∀t∈tok,0<=t/\t<(T:Int):=λt ht=>by
 unfold eT at hin;simpa using qO.1 hin t ht
theorem L8{T N:Nat}{R:List Ru}{tok:List Int}(hm:aJ T N R=true)(h:eZ T N R tok=0):tok.length<=30/\eT T tok=true:=by
 unfold eZ at h;rw[hm]at h;simp only[Bool.true_eq_false,bN]at h;split at h
 ·cases h
 ·split at h
  ·cases h
  ·rename_i h1 h2
   exact⟨by omega,by simpa using h2⟩
end Go.Proofs.YthbifaoaiggooaaGreatDoor
namespace Go.Proofs.YthbifaoaiggooaaGreatDoor
open Go.RowKit
theorem af3{w:World}{gb:Nat}{T x:Int}(hg:w.cell? ⟨gb,0,none⟩=some (.int .i64 T)):
 Calls Tryz.prog 98 #[.int .i64 x,.pointer (some ⟨gb,0,none⟩)] w λe w'=>e= .returned (.bool (!(decide (0<=x)&&decide (x<T))))/\Below w.heap.size w w':=by
 by_cases h0:x<0
 ·have e:(!(decide (0<=x)&&decide (x<T)))=true:=by simp;omega
  rw[e];clear e
  go_enter Tryz.func98,Tryz.ntmps98
  go_wp2_with fail
  go_ret;exact⟨rfl,ai _ _⟩
 ·have hd:decide (x<0)=false:=aU h0
  by_cases h1:T<=x
  ·have e:(!(decide (0<=x)&&decide (x<T)))=true:=by simp;omega
   rw[e];clear e
   go_enter Tryz.func98,Tryz.ntmps98
   go_wp2_with fail
   go_ret;exact⟨rfl,ai _ _⟩
  ·have e:(!(decide (0<=x)&&decide (x<T)))=false:=by simp;omega
   have hd1:decide (T<=x)=false:=aU h1;rw[e];clear e
   go_enter Tryz.func98,Tryz.ntmps98
   go_wp2_with fail
   go_ret;exact⟨rfl,ai _ _⟩
theorem af4{w:World}{gb lim:Nat}{T:Int}{tv:Value}{tok:List Int}(hg:w.cell? ⟨gb,0,none⟩=some (.int .i64 T))(ht:aY w lim tv tok)(hlim:lim<=w.heap.size)(gJ:tok.length<=1000):
 Calls Tryz.prog 134 #[tv,.func (.func 98) #[] #[.pointer (some ⟨gb,0,none⟩)]] w λe w'=> ∃z:Int,e= .returned (.int .i64 z)/\decide (0<=z)=(!eT T tok)/\Below w.heap.size w w':=by
 obtain⟨ta,tc,gu⟩:=ht.1;subst gu;have HT:Hid (aY w w.heap.size (.slice ta tok.length tc) tok):=ht.mono hlim;have HG:Hid (w.cell? ⟨gb,0,none⟩=some (.int .i64 T)):=hg;clear ht hg hlim
 go_enter Tryz.func134,Tryz.ntmps134
 go_wp2_with fail
 go_loopw [8] (λs wr=> ∃k:Nat,s= .int .i64 k/\k<=tok.length/\Below w.heap.size w wr/\eT T (tok.take k)=true) (λs _=>tok.length-(intOf s).toNat)
 case atStart=>exact⟨0,rfl,aP _,ai _ _,rfl⟩
 case round=>
  obtain⟨k,rfl,hk,hB,hIn⟩:=hrel;have HB:Hid (Below w.heap.size w wr):=hB;have AB:Hid (eT T (tok.take k)=true):=hIn;by_cases hlt:k<tok.length
  ·obtain⟨b,o,c,hv,hbl,q0⟩:=HT.out.2 k hlt
   cases hv;have q1:=(hB.cell (p:=⟨b,o+k,none⟩) hbl).trans q0;obtain⟨x,hx⟩:=af (tok.getD k 0);rw[hx]at q1;have ET:=af3 (x:=x) ((hB.cell (aQ _ _ HG.out)).trans HG.out);have hxe:tok[k]=x:=by rw[<-hx];simp[List.getD,hlt]
   have i0:(0:Int)<=(k:Int):=aF _;have i1:(k:Int)<(tok.length:Int):=by omega
   clear hB hIn q0 hx;cases hw:(decide (0<=x)&&decide (x<T)) with
   |false=>
    rw[hw]at ET
    have HE:Hid (eT T tok=false):=by
     show eT T tok=false;unfold eT;rw[FH];exact⟨tok[k],jO hlt,by rw[hxe,hw];simp⟩
    clear hxe hw;simp only[Bool.not_false]at ET
    go_wp2_with (go_at_call 98;refine ET.mono ?_;rintro e w1 ⟨rfl,hB1⟩)
    go_ret;exact⟨k,rfl,by rw[HE.out];simp,HB.out.trans (hB1.mono HB.out.size)⟩
   |true=>
    rw[hw]at ET
    have HE:Hid (eT T (tok.take (k+1))=true):=by
     show eT T (tok.take (k+1))=true;have:=AB.out;unfold eT at this⊢;rw[fT hlt,zZ,this,hxe];simpa using hw
    clear hxe hw;simp only[Bool.not_true]at ET
    go_wp2_with (go_at_call 98;refine ET.mono ?_;rintro e w1 ⟨rfl,hB1⟩)
    go_roundw
    case rel=>exact⟨k+1,by go_num,by omega,HB.out.trans (hB1.mono HB.out.size),HE.out⟩
    case measure=>simp[intOf];omega
  ·have HE:Hid (eT T tok=true):=by
    show eT T tok=true;have:=AB.out
    rwa [pG (by omega)]at this
   clear hB hIn
   go_wp2_with fail
   go_ret;exact⟨-1,rfl,by rw[HE.out];rfl,HB.out⟩
theorem af5{w:World}{gb lim:Nat}{T:Int}{tv:Value}{tok:List Int}(hg:w.cell? ⟨gb,0,none⟩=some (.int .i64 T))(ht:aY w lim tv tok)(hlim:lim<=w.heap.size)(gJ:tok.length<=1000):
 Calls Tryz.prog 99 #[tv,.func (.func 98) #[] #[.pointer (some ⟨gb,0,none⟩)]] w λe w'=>e= .returned (.bool (!eT T tok))/\Below w.heap.size w w':=by
 have ix:=af4 hg ht hlim gJ;obtain⟨ta,tc,gu⟩:=ht.1;subst gu;clear hg ht hlim
 go_enter Tryz.func99,Tryz.ntmps99
 go_wp2_with (go_at_call 134;refine ix.mono ?_;rintro e w1 ⟨z,rfl,hz,hB1⟩)
 go_ret;exact⟨rfl,hB1⟩
structure wh(w:World)(T N:Int)(ra:Option Addr)(rc:Nat)(ta:Option Addr)(tc:Nat)(R:List Ru)(tok:List Int)(wq:World):Prop where
 b0:wq.cell? ⟨w.heap.size,0,none⟩=some (.int .i64 T)
 b1:wq.cell? ⟨w.heap.size,1,none⟩=some (.int .i64 N)
 b2:wq.cell? ⟨w.heap.size,2,none⟩=some (.slice ra R.length rc)
 x0:wq.cell? ⟨w.heap.size+1,0,none⟩=some (.slice none 0 0)
 x1:wq.cell? ⟨w.heap.size+1,1,none⟩=some (.slice none 0 0)
 xf0:wq.frozen? ⟨w.heap.size+1,0,none⟩=false
 xf1:wq.frozen? ⟨w.heap.size+1,1,none⟩=false
 rules:aG wq wq.heap.size (.slice ra R.length rc) R
 toks:aY wq w.heap.size (.slice ta tok.length tc) tok
 below:Below w.heap.size w wq
 size:w.heap.size+2<=wq.heap.size
theorem wh.later{w:World}{T N:Int}{ra:Option Addr}{rc:Nat}{ta:Option Addr}{tc:Nat}{R:List Ru}{tok:List Int}{wq w':World}(h:wh w T N ra rc ta tc R tok wq)(hb:Below wq.heap.size wq w'):wh w T N ra rc ta tc R tok w':=by
 have hs:=h.size;have hB:=h.below.trans (hb.mono (by omega));exact⟨(hb.cell (by simp only;omega)).trans h.b0,(hb.cell (by simp only;omega)).trans h.b1,(hb.cell (by simp only;omega)).trans h.b2,(hb.cell (by simp only;omega)).trans h.x0,(hb.cell (by simp only;omega)).trans h.x1,(hb.frozen (by simp only;omega)).trans h.xf0,(hb.frozen (by simp only;omega)).trans h.xf1,(h.rules.below hb).mono hb.size,h.toks.below (hb.mono (by omega)),hB,aZ hs hb.size⟩
theorem QC{w:World}{T N:Int}{ra:Option Addr}{rc:Nat}{ta:Option Addr}{tc:Nat}{R:List Ru}{tok:List Int}(hr:aG w w.heap.size (.slice ra R.length rc) R)(ht:aY w w.heap.size (.slice ta tok.length tc) tok):
 wh w T N ra rc ta tc R tok ((w.alloc (.cells #[.int .i64 T,.int .i64 N,.slice ra R.length rc] 27)).alloc (.cells #[.slice none 0 0,.slice none 0 0] 73)):=by
 have hB:Below w.heap.size w ((w.alloc (.cells #[.int .i64 T,.int .i64 N,.slice ra R.length rc] 27)).alloc (.cells #[.slice none 0 0,.slice none 0 0] 73)):=((ai _ _).alloc (ah _) _).alloc (by simp) _;exact⟨by simp[go_sem],by simp[go_sem],by simp[go_sem],by simp[go_sem],by simp[go_sem],by simp[go_sem],by simp[go_sem],(hr.below hB).mono hB.size,ht.below hB,hB,by simp⟩
abbrev zN(e:Int):Value:= .tuple #[.agg #[.slice none 0 0,.slice none 0 0],.int .i64 e]
theorem af6{w:World}{T N:Int}{rv tv:Value}{R:List Ru}{tok:List Int}(hr:aG w w.heap.size rv R)(ht:aY w w.heap.size tv tok)(hm:aJ T N R=true)(gJ:30<tok.length):
 Calls Tryz.prog 60 #[.agg #[.int .i64 T,.int .i64 N,rv],tv] w λe w'=>e= .returned (zN 1)/\Below w.heap.size w w':=by
 obtain⟨ra,rc,aI⟩:=hr.1;obtain⟨ta,tc,gu⟩:=ht.1;subst aI;subst gu;have HX:Hid (wh w T N ra rc ta tc R tok ((w.alloc (.cells #[.int .i64 T,.int .i64 N,.slice ra R.length rc] 27)).alloc (.cells #[.slice none 0 0,.slice none 0 0] 73))):=QC hr ht;have may:=oD (T:=T) (N:=N) HX.out.rules;rw[hm]at may;have j0:(30:Int)<(tok.length:Int):=by omega
 clear hr ht hm
 go_enter Tryz.func60,Tryz.ntmps60
 go_wp2_with
  (go_at_call 18;refine may.mono ?_;rintro e w1 ⟨rfl,hB1⟩
   have hX:=HX.out.later hB1;have x0:=hX.x0;have x1:=hX.x1;have xf0:=hX.xf0;have xf1:=hX.xf1;have HB:Hid (Below w.heap.size w w1):=hX.below
   clear hX hB1 may)
 refine aH (v:=zN 1) (by simp[results,Tryz.results60,go_sem,x0,x1]) rfl ⟨rfl,(HB.out.setCell (by simp) _).setCell (by simp) _⟩
theorem af7{w:World}{T N:Nat}{rv tv:Value}{R:List Ru}{tok:List Int}(hr:aG w w.heap.size rv R)(ht:aY w w.heap.size tv tok)(hm:aJ T N R=true)(gJ:tok.length<=30)(hmo:More T N R 150):
 Calls Tryz.prog 60 #[.agg #[.int .i64 T,.int .i64 N,rv],tv] w λe w'=>e= .returned (zN 1)/\Below w.heap.size w w':=by
 obtain⟨ra,rc,aI⟩:=hr.1;obtain⟨ta,tc,gu⟩:=ht.1;subst aI;subst gu;have HX:Hid (wh w T N ra rc ta tc R tok ((w.alloc (.cells #[.int .i64 T,.int .i64 N,.slice ra R.length rc] 27)).alloc (.cells #[.slice none 0 0,.slice none 0 0] 73))):=QC hr ht;have may:=oD (T:=T) (N:=N) HX.out.rules;rw[hm]at may;have HM:Hid (aJ T N R=true):=hm;have QD:Hid (More T N R 150):=hmo;have j0:decide ((30:Int)<(tok.length:Int))=false:=aU (by omega);clear hr ht hm hmo
 go_enter Tryz.func60,Tryz.ntmps60
 go_wp2_with
  (first
   |(go_at_call 18;refine may.mono ?_;rintro e w1 ⟨rfl,hB1⟩
     have hX:=HX.out.later hB1;have b0:=hX.b0;have b1:=hX.b1;have b2:=hX.b2;have tN:Hid (wh w T N ra rc ta tc R tok w1):=hX
     have IY:=(Qo (T:=T) (N:=N) hX.rules HM.out).mono (R':=λe w'=>e= .returned (.tuple #[.agg #[.slice none 0 0,.slice none 0 0],.int .i64 1])/\Below w1.heap.size w1 w') λe w' h=>by
      rcases h with⟨h1,h2,_⟩|⟨K,cv,gv,_,_,h3,h4,_⟩
      ·exact⟨h1,h2⟩
      ·exact absurd QD.out (AP h3 h4)
     clear hX hB1 may)
   |(go_at_call 22;refine IY.mono ?_;rintro e w2 ⟨rfl,hB2⟩
     have hX:=(tN.out.later hB2).later ((ai _ _).alloc (ah _) (.cells #[.slice none 0 0,.slice none 0 0] 73));have x0:=hX.x0;have x1:=hX.x1;have xf0:=hX.xf0;have xf1:=hX.xf1;have HB:Hid (Below w.heap.size w (w2.alloc (.cells #[.slice none 0 0,.slice none 0 0] 73))):=hX.below
     clear hX hB2 IY))
 refine aH (v:=zN 1) (by simp[results,Tryz.results60,go_sem,x0,x1]) rfl ⟨rfl,(HB.out.setCell (by simp) _).setCell (by simp) _⟩
theorem af8{w:World}{T N:Nat}{rv tv:Value}{R:List Ru}{tok:List Int}(hr:aG w w.heap.size rv R)(ht:aY w w.heap.size tv tok)(hm:aJ T N R=true)(gJ:tok.length<=30)(hmo:¬More T N R 150):
 Calls Tryz.prog 60 #[.agg #[.int .i64 T,.int .i64 N,rv],tv] w λe w'=> ∃K,Whole T N R K/\K<=150/\Below w.heap.size w w'/\((eT T tok=false/\e= .returned (zN 3))\/(eT T tok=true/\0<gZ (dF T N R K)/\e= .returned (zN 4))\/
  (eT T tok=true/\gZ (dF T N R K)=0/\∃ca cc ga gc,e= .returned (.tuple #[.agg #[.slice ca K cc,.slice ga K gc],.int .i64 0])/\TabAt w' (.slice ca K cc) (.slice ga K gc) (dF T N R K) (jo T N R K))):=by
 obtain⟨hT,hN1,hN,hRl,rz⟩:=iD hm;obtain⟨ra,rc,aI⟩:=hr.1;obtain⟨ta,tc,gu⟩:=ht.1;subst aI;subst gu;have HX:Hid (wh w T N ra rc ta tc R tok ((w.alloc (.cells #[.int .i64 T,.int .i64 N,.slice ra R.length rc] 27)).alloc (.cells #[.slice none 0 0,.slice none 0 0] 73))):=QC hr ht;have may:=oD (T:=T) (N:=N) HX.out.rules;rw[hm]at may;have HM:Hid (aJ T N R=true):=hm;have QD:Hid (¬More T N R 150):=hmo;have U1:Hid (R.length<=1000):=by show R.length<=1000;omega
 have vW:Hid (T<=900):=by show T<=900;omega
 have j0:decide ((30:Int)<(tok.length:Int))=false:=aU (by omega);clear hr ht hm hmo rz
 go_enter Tryz.func60,Tryz.ntmps60
 go_upto_region 9 with
  (first
   |(go_at_call 18;refine may.mono ?_;rintro e w1 ⟨rfl,hB1⟩
     have hX:=HX.out.later hB1;have b0:=hX.b0;have b1:=hX.b1;have b2:=hX.b2;have tN:Hid (wh w T N ra rc ta tc R tok w1):=hX
     have IY:=(X7 (T:=T) (N:=N) hX.rules HM.out).mono (R':=λe w'=> ∃K ca cc ga gc,e= .returned (.tuple #[.agg #[.slice ca K cc,.slice ga K gc],.int .i64 0])/\Below w1.heap.size w1 w'/\Whole T N R K/\K<=150/\∀w'':World,(∀b,w1.heap.size<=b->b<w'.heap.size->w''.heap[b]?=w'.heap[b]?)->TabAt w'' (.slice ca K cc) (.slice ga K gc) (dF T N R K) (jo T N R K)) λe w' h=>by
      rcases h with⟨_,_,h2⟩|⟨K,cv,gv,h1,h2,h3,h4,h5⟩
      ·exact absurd h2 QD.out
      ·have h6:=h5 w' λ_ _ _=>rfl
       obtain⟨ca,cc,hcv⟩:=h6.cells.1;obtain⟨ga,gc,hgv⟩:=h6.goto.1;rw[uU]at hcv;rw[Yn]at hgv;subst hcv;subst hgv;exact⟨K,ca,cc,ga,gc,h1,h2,h3,h4,h5⟩
     clear hX hB1 may)
   |(go_at_call 22;refine IY.mono ?_;rintro e w2 ⟨K,ca,cc,ga,gc,rfl,hB2,hW,hK,IZ⟩
     have mY:Hid (wh w T N ra rc ta tc R tok (w2.alloc (.cells #[.slice ca K cc,.slice ga K gc] 73))):=(tN.out.later hB2).later ((ai _ _).alloc (ah _) (.cells #[.slice ca K cc,.slice ga K gc] 73));have CJ:Hid (Whole T N R K):=hW;have hs2:w1.heap.size<=w2.heap.size:=hB2.size;have L9:Hid (∀w'':World,(∀b,w1.heap.size<=b->b<w2.heap.size->w''.heap[b]?=w2.heap[b]?)->TabAt w'' (.slice ca K cc) (.slice ga K gc) (dF T N R K) (jo T N R K)):=IZ
     clear hB2 IY hW IZ))
 obtain⟨W4,dS⟩:=af (w2.alloc (.cells #[.slice ca K cc,.slice ga K gc] 73));have t0:W4.cell? ⟨w2.heap.size,0,none⟩=some (.slice ca K cc):=by rw[<-dS];simp[go_sem]
 have t1:W4.cell? ⟨w2.heap.size,1,none⟩=some (.slice ga K gc):=by rw[<-dS];simp[go_sem]
 have hs4:w2.heap.size<W4.heap.size:=by rw[<-dS];simp
 have Cv:Hid (∀b,b<w2.heap.size->W4.heap[b]?=w2.heap[b]?):=λb hb=>by rw[<-dS];exact heap_alloc_old w2 _ hb
 rw[dS]at mY⊢;have xY:=af5 mY.out.b0 mY.out.toks (by have:=mY.out.size;omega) (by omega);have HSz:Hid (w.heap.size+2<=w1.heap.size):=tN.out.size;clear dS b0 b1 b2 HX tN
 have EU:Hid (∀wq,Below W4.heap.size W4 wq->wh w T N ra rc ta tc R tok wq/\wq.cell? ⟨w2.heap.size,0,none⟩=some (.slice ca K cc)/\wq.cell? ⟨w2.heap.size,1,none⟩=some (.slice ga K gc)/\(∀b,b<w2.heap.size->wq.heap[b]?=w2.heap[b]?)):=λwq hq=>
  ⟨mY.out.later hq,(hq.cell (by simp only;omega)).trans t0,(hq.cell (by simp only;omega)).trans t1,λb hb=>(hq.block b (by omega)).trans (Cv.out b hb)⟩
 clear t0 t1;cases hin:eT T tok with
 |false=>
  rw[hin]at xY;simp only[Bool.not_false]at xY;have AJ:Hid (eT T tok=false):=hin;clear hin
  go_wp2_with
   (go_at_call 99;refine xY.mono ?_;rintro e w5 ⟨rfl,aD⟩
    obtain⟨hX,-,-,-⟩:=EU.out w5 aD;have x0:=hX.x0;have x1:=hX.x1;have xf0:=hX.xf0;have xf1:=hX.xf1;have HB:Hid (Below w.heap.size w w5):=hX.below
    clear hX aD xY)
  refine aH (v:=zN 3) (by simp[results,Tryz.results60,go_sem,x0,x1]) rfl ⟨K,CJ.out,hK,(HB.out.setCell (by simp) _).setCell (by simp) _,.inl ⟨AJ.out,rfl⟩⟩
 |true=>
  rw[hin]at xY;simp only[Bool.not_true]at xY;have AJ:Hid (eT T tok=true):=hin;clear hin;obtain⟨cn,hcn⟩:=af (gZ (dF T N R K));have QE:Hid (gZ (dF T N R K)=cn):=hcn
  have Yp:Hid (∀wq,Below W4.heap.size W4 wq->Calls Tryz.prog 23 #[.agg #[.slice ca K cc,.slice ga K gc]] wq λe w'=>e= .returned (.int .i64 cn)/\Below wq.heap.size wq w'):=λwq hq=>by
   have h1:=L9.out wq λb _ hb2=>(EU.out wq hq).2.2.2 b hb2
   have h2:=Qq h1 (by rw[uU];omega) (λi hi=>by rw[uU]at hi;rw[zL hi,IU];have:=vW.out;omega) (λi k hi hk=>by
    rw[uU]at hi;rw[zL hi,IU]at hk;rw[zL hi,QA (by omega)];unfold cellP;simp only[cK];have:=vv (λn=> @decide (AY T N R (ax T N R K).1 (ax T N R K).2 i k n) (Classical.propDecidable _)) (List.range R.length);simp only[qR]at this;have:=U1.out
    omega)
   rw[QE.out]at h2;exact h2
  clear hcn;by_cases hc0:cn=0
  ·subst hc0
   have hz0:decide ((0:Int)<((0:Nat):Int))=false:=by decide
   go_wp2_with
    (first
     |(go_at_call 99;refine xY.mono ?_;rintro e w5 ⟨rfl,aD⟩
       obtain⟨-,t0,t1,-⟩:=EU.out w5 aD;have cl:=Yp.out w5 aD;have gP:Hid (Below W4.heap.size W4 w5):=aD
       clear aD xY)
     |(go_at_call 23;refine cl.mono ?_;rintro e w6 ⟨rfl,bC⟩
       have hb6:Below W4.heap.size W4 w6:=gP.out.trans (bC.mono gP.out.size);obtain⟨hX,u0,u1,Lm⟩:=EU.out w6 hb6;have x0:=hX.x0;have x1:=hX.x1;have xf0:=hX.xf0;have xf1:=hX.xf1;have HB:Hid (Below w.heap.size w w6):=hX.below;have xZ:Hid (∀b,b<w2.heap.size->w6.heap[b]?=w2.heap[b]?):=Lm
       clear hX bC cl hb6 Lm))
   refine aH (v:= .tuple #[.agg #[.slice ca K cc,.slice ga K gc],.int .i64 0]) (by simp[results,Tryz.results60,go_sem,x0,x1]) rfl ⟨K,CJ.out,hK,(HB.out.setCell (by simp) _).setCell (by simp) _,.inr (.inr ⟨AJ.out,QE.out,ca,cc,ga,gc,rfl,L9.out _ λb hb1 hb2=> ?_⟩)⟩;have h6:=HSz.out;rw[gm _ _ _ _ (by simp only;omega),gm _ _ _ _ (by simp only;omega)];exact xZ.out b hb2
  ·have hz0:decide ((0:Int)<(cn:Int))=true:=aT (by omega)
   go_wp2_with
    (first
     |(go_at_call 99;refine xY.mono ?_;rintro e w5 ⟨rfl,aD⟩
       obtain⟨-,t0,t1,-⟩:=EU.out w5 aD;have cl:=Yp.out w5 aD;have gP:Hid (Below W4.heap.size W4 w5):=aD
       clear aD xY)
     |(go_at_call 23;refine cl.mono ?_;rintro e w6 ⟨rfl,bC⟩
       have hb6:Below W4.heap.size W4 w6:=gP.out.trans (bC.mono gP.out.size);obtain⟨hX,u0,u1,-⟩:=EU.out w6 hb6;have x0:=hX.x0;have x1:=hX.x1;have xf0:=hX.xf0;have xf1:=hX.xf1;have HB:Hid (Below w.heap.size w w6):=hX.below
       clear hX bC cl hb6))
   refine aH (v:=zN 4) (by simp[results,Tryz.results60,go_sem,x0,x1]) rfl ⟨K,CJ.out,hK,(HB.out.setCell (by simp) _).setCell (by simp) _,.inr (.inl ⟨AJ.out,by have:=QE.out;omega,rfl⟩)⟩
abbrev Pl:=Nat×Value×List Int
def Bw(x:Pl):List Value:=[.int .i64 x.1,x.2.1]
def kR(PL:List Pl):List Value:=PL.flatMap Bw
abbrev iq:Pl:=(0,.slice none 0 0,[])
section
variable{PL:List Pl}
theorem Yq(PL:List Pl):(kR PL).length=PL.length*2:=by
 unfold kR
 induction PL with
 |nil=>rfl
 |cons a L ih=>rw[gV,aS,ih];simp[Bw];omega
theorem Yr{i j:Nat}(hi:i<PL.length)(hj:j<2):(kR PL)[i*2+j]?=(Bw (PL.getD i iq))[j]?:=by
 unfold kR
 induction PL generalizing i with
 |nil=>simp at hi
 |cons a L ih=>
  rw[gV];cases i with
  |zero=>rw[vo (by simp[Bw];omega)];simp
  |succ i=>
   rw[o9 (by simp[Bw];omega)];simp only[Bw,List.length_cons,List.length_nil];rw[show (i+1)*2+j-(0+1+1)=i*2+j by omega];have:=ih (i:=i) (by simpa using hi);simpa [List.getD,Bw] using this
theorem Yt(A C:List Pl):kR (A++C)=kR A++kR C:=by simp[kR]
theorem af9{n:Nat}(h:n<=PL.length):kR (PL.take n)=(kR PL).take (n*2):=by
 have e:kR PL=kR (PL.take n)++kR (PL.drop n):=by rw[<-Yt,wT]
 have hl:(kR (PL.take n)).length=n*2:=by rw[Yq,fq,wU h]
 rw[e,<-hl,BL]
end
def tY(w:World)(A:Nat->Prop)(v:Value)(D:List Int):Prop:=
 (D=[]/\v= .slice none 0 0)\/(0<D.length/\∃b c,v= .slice (some ⟨b,0,none⟩) D.length c/\A b/\b<w.heap.size/\D.length<=c/\∀p,p<D.length->w.cell? ⟨b,p,none⟩=some (.int .i64 (D.getD p 0)))
theorem tY.kept{w w':World}{A A':Nat->Prop}{v:Value}{D:List Int}(h:tY w A v D)(hs:w.heap.size<=w'.heap.size)(hb:∀b,A b->b<w.heap.size->w'.heap[b]?=w.heap[b]?/\A' b):tY w' A' v D:=by
 rcases h with h|⟨h0,b,c,h1,h2,h3,h5,h4⟩
 ·exact .inl h
 ·exact .inr ⟨h0,b,c,h1,(hb b h2 h3).2,by omega,h5,λp hp=>(pI (w:=w) (hb b h2 h3).1).trans (h4 p hp)⟩
theorem tY.list{w:World}{A:Nat->Prop}{v:Value}{D:List Int}(h:tY w A v D):aY w w.heap.size v D:=by
 rcases h with⟨rfl,rfl⟩|⟨h0,b,c,rfl,h2,h3,_,h4⟩
 ·exact⟨⟨_,_,rfl⟩,λp hp=>absurd hp (iI _)⟩
 ·exact⟨⟨_,_,rfl⟩,λp hp=>⟨b,0,c,rfl,h3,by rw[eO];exact h4 p hp⟩⟩
def I4(w:World)(v:Value)(D:List Int):Prop:=aY w w.heap.size v D/\∃a n c,v= .slice a n c/\n<=c
theorem tY.aga{w:World}{A:Nat->Prop}{v:Value}{D:List Int}(h:tY w A v D):I4 w v D:=by
 refine⟨h.list,?_⟩;rcases h with⟨rfl,rfl⟩|⟨h0,b,c,rfl,h2,h3,h5,h4⟩
 ·exact⟨_,_,_,rfl,ah _⟩
 ·exact⟨_,_,_,rfl,h5⟩
structure tZ where
 ra:Nat
 T:Nat
 N:Nat
 rv:Value
 cv:Value
 gv:Value
 tv:Value
inductive RnI where
 |ru
 |st
 deriving DecidableEq
def rW(d:tZ)(sv:Value)(PL:List Pl)(p q:Nat):RnI->Option Row
 | .ru=>some ⟨.slice (some ⟨d.ra,0,none⟩) 1 1,132,9,1,[.int .i64 d.T,.int .i64 d.N,d.rv,d.cv,d.gv,d.tv,.int .i64 p,.int .i64 q,sv]⟩
 | .st=>some ⟨sv,129,2,PL.length,kR PL⟩
def Ma(d:tZ)(sv:Value)(b:Nat):Prop:=b≠d.ra/\sv.ownBlock≠some b
structure bJ(w0:World)(d:tZ)(sv:Value)(PL:List Pl)(p q:Nat)(w:World):Prop where
 own:aA w w0.heap.size (rW d sv PL p q)
 CK:∀x∈PL,tY w (Ma d sv) x.2.1 x.2.2
 since:Below w0.heap.size w0 w
structure CO(w0:World)(d:tZ)(R:List Ru)(tok:List Int)(C:List (List Ce))(G:List (List Int)):Prop where
 rules:aG w0 w0.heap.size d.rv R
 toks:aY w0 w0.heap.size d.tv tok
 tab:TabAt w0 d.cv d.gv C G
section
variable{w0 w w':World}{d:tZ}{sv dW:Value}{PL mF:List Pl}{p q:Nat}
theorem bJ.le(h:bJ w0 d sv PL p q w):w0.heap.size<=w.heap.size:=h.since.size
theorem bJ.below(h:bJ w0 d sv PL p q w)(hb:Below w.heap.size w w'):bJ w0 d sv PL p q w':=
 ⟨h.own.below hb (ah _),λx hx=>(h.CK x hx).kept hb.size λb hA hlt=>⟨hb.block b hlt,hA⟩,h.since.trans (hb.mono h.le)⟩
theorem bJ.alloc(h:bJ w0 d sv PL p q w)(o:Obj):bJ w0 d sv PL p q (w.alloc o):=h.below ((ai _ _).alloc (ah _) o)
theorem bJ.drew(h:bJ w0 d sv PL p q w):bJ w0 d sv PL p q w.drew:=h.below ((ai _ _).drew)
theorem bJ.lt(h:bJ w0 d sv PL p q w):d.ra<w.heap.size/\w0.heap.size<=d.ra:=by
 have:=h.own.lt (i:= .ru) rfl (g:=d.ra) rfl;omega
theorem bJ.cell(h:bJ w0 d sv PL p q w){i:Nat}{u:Value}(hu:[Value.int .i64 d.T,.int .i64 d.N,d.rv,d.cv,d.gv,d.tv,.int .i64 p,.int .i64 q,sv][i]?=some u):w.cell? ⟨d.ra,i,none⟩=some u/\w.frozen? ⟨d.ra,i,none⟩=false:=by
 have hi:i<9:=by have:=(qw.1 hu).1;simpa using this
 have:=h.own.cell (i:= .ru) rfl i (by omega);exact⟨this.1.trans hu,this.2⟩
theorem bJ.stack(h:bJ w0 d sv PL p q w):w.ownsRow w0.heap.size 129 2 sv PL.length (kR PL):=h.own.own .st _ rfl
theorem bJ.apart(h:bJ w0 d sv PL p q w):sv.ownBlock≠some d.ra:=λe=>h.own.apart .ru .st _ _ (by simp) rfl rfl d.ra rfl e
theorem bJ.form(h:bJ w0 d sv PL p q w)(hn:0<PL.length):∃g cap,sv= .slice (some ⟨g,0,none⟩) PL.length cap/\g<w.heap.size/\PL.length<=cap:=by
 obtain⟨_,⟨_,h0⟩|⟨g,cap,cur,e,_,hc,hle,_⟩⟩:=h.stack
 ·omega
 ·exact⟨g,cap,e,(h.stack.lt g (by rw[e];rfl)).2,hle⟩
theorem bJ.place(h:bJ w0 d sv PL p q w){g cap i:Nat}(hv:sv= .slice (some ⟨g,0,none⟩) PL.length cap)(hi:i<PL.length):w.cell? ⟨g,i*2,none⟩=some (.int .i64 (PL.getD i iq).1)/\w.cell? ⟨g,i*2+1,none⟩=some (PL.getD i iq).2.1:=by
 have ho:=h.stack;rw[hv]at ho;exact⟨(ho.cellAt (i*2) (by omega)).trans (Yr (j:=0) hi (by omega)),(ho.cellAt (i*2+1) (by omega)).trans (Yr (j:=1) hi (by omega))⟩
theorem bJ.EW(h:bJ w0 d sv PL p q w){i:Nat}(hi:i<PL.length):tY w (Ma d sv) (PL.getD i iq).2.1 (PL.getD i iq).2.2:=h.CK _ (by simp[List.getD,hi])
theorem bJ.agb(h:bJ w0 d sv PL p q w)(p':Nat):bJ w0 d sv PL p' q (w.setCell ⟨d.ra,6,none⟩ (.int .i64 p')):=by
 have h1:=h.own.store (i:= .ru) rfl 6 (.int .i64 p')
 have e:upd (rW d sv PL p q) .ru ⟨.slice (some ⟨d.ra,0,none⟩) 1 1,132,9,1,[Value.int .i64 d.T,.int .i64 d.N,d.rv,d.cv,d.gv,d.tv,.int .i64 p,.int .i64 q,sv].set 6 (.int .i64 p')⟩=rW d sv PL p' q:=by
  funext i
  cases i<;>simp[upd,rW]
 rw[e]at h1;refine⟨h1,λx hx=>(h.CK x hx).kept (by simp) λb hA hlt=>⟨gm _ _ _ _ (λe=>hA.1 e),hA⟩,h.since.setCell h.lt.2 _⟩
theorem bJ.agc(h:bJ w0 d sv PL p q w)(q':Nat):bJ w0 d sv PL p q' (w.setCell ⟨d.ra,7,none⟩ (.int .i64 q')):=by
 have h1:=h.own.store (i:= .ru) rfl 7 (.int .i64 q')
 have e:upd (rW d sv PL p q) .ru ⟨.slice (some ⟨d.ra,0,none⟩) 1 1,132,9,1,[Value.int .i64 d.T,.int .i64 d.N,d.rv,d.cv,d.gv,d.tv,.int .i64 p,.int .i64 q,sv].set 7 (.int .i64 q')⟩=rW d sv PL p q':=by
  funext i
  cases i<;>simp[upd,rW]
 rw[e]at h1;refine⟨h1,λx hx=>(h.CK x hx).kept (by simp) λb hA hlt=>⟨gm _ _ _ _ (λe=>hA.1 e),hA⟩,h.since.setCell h.lt.2 _⟩
theorem bJ.turn(h:bJ w0 d sv PL p q w)(hg:w.grownBy w' sv.ownBlock)(ho:w'.ownsRow w0.heap.size 129 2 dW mF.length (kR mF))(hat:∀g,dW.ownBlock=some g->sv.ownBlock=some g\/g=w.heap.size)(hd:∀x∈mF,tY w (Ma d sv) x.2.1 x.2.2):bJ w0 d dW mF p q (w'.setCell ⟨d.ra,8,none⟩ dW):=by
 have h1:=h.own.turn (i:= .st) (r':=⟨dW,129,2,mF.length,kR mF⟩) rfl hg ho hat;have yO:upd (rW d sv PL p q) .st ⟨dW,129,2,mF.length,kR mF⟩ .ru=some ⟨.slice (some ⟨d.ra,0,none⟩) 1 1,132,9,1,[.int .i64 d.T,.int .i64 d.N,d.rv,d.cv,d.gv,d.tv,.int .i64 p,.int .i64 q,sv]⟩:=rfl;have h2:=h1.store (i:= .ru) yO 8 dW
 have e:upd (upd (rW d sv PL p q) .st ⟨dW,129,2,mF.length,kR mF⟩) .ru ⟨.slice (some ⟨d.ra,0,none⟩) 1 1,132,9,1,[Value.int .i64 d.T,.int .i64 d.N,d.rv,d.cv,d.gv,d.tv,.int .i64 p,.int .i64 q,sv].set 8 dW⟩=rW d dW mF p q:=by
  funext i
  cases i<;>simp[upd,rW]
 rw[e]at h2;have hl:=h.lt;refine⟨h2,λx hx=>(hd x hx).kept (by simpa using hg.size) λb hA hlt=>⟨?_,hA.1,λe=> ?_⟩,(h.since.grown hg h.le λk hk=>(h.stack.lt k hk).1).setCell h.lt.2 _⟩
 ·rw[gm _ _ _ _ (λe=>hA.1 e)]
  exact hg.block b hlt λe=>hA.2 e.symm
 ·rcases hat b e with e'|e'
  ·exact hA.2 e'
  ·omega
theorem bJ.cut(h:bJ w0 d sv PL p q w){g cap n:Nat}(hv:sv= .slice (some ⟨g,0,none⟩) PL.length cap)(hn:n<=PL.length):bJ w0 d (.slice (some ⟨g,0,none⟩) n cap) (PL.take n) p q (w.setCell ⟨d.ra,8,none⟩ (.slice (some ⟨g,0,none⟩) n cap)):=by
 refine h.turn ⟨rfl,rfl,rfl,ah _,λ_ _ _=>rfl⟩ ?_ (λg' hg'=> .inl (by rw[hv];exact hg')) λx hx=>h.CK x (wR hx);have ho:=h.stack;rw[hv]at ho;obtain⟨h1,⟨hx,_⟩|⟨g',cap',cur,e,h2,h3,h4,h5,h6,h7⟩⟩:=ho
 ·cases hx
 ·injection e with e1 _ e3
  injection e1 with e1;injection e1 with e1;subst e1;subst e3;have hl:(PL.take n).length=n:=by rw[fq,wU hn]
  refine⟨Yq _,.inr ⟨g,cap,cur,by rw[hl],h2,h3,by rw[hl];omega,h5,h6,?_⟩⟩;rw[hl,af9 hn,<-h7,List.take_take,wU (by omega)]
end
theorem Tryz.infoPl:(Tryz.prog.info? 129).map (λi=>(i.zero,i.size,i.bytes))=some (some (.agg #[.int .i64 0,.slice none 0 0]),2,32):=by kernel_rfl
theorem aW.uV{P:Program}{ops:Array Oper}{S:World->Prop}{K:Act->Prop}{i:Nat}{o:Oper}{l:List Nat}{a:Act}{v:Value}(ho:ops.toList[i]?=some o)(hw:Region.wanted o (yielded ops a.tmps)=true)(hy:∀w,S w->(execOp a.eval o).run P w= .ok (.value v) w)(h:aW P ops S K l (a.put o.dst v)):aW P ops S K (i::l) a:=
 aW.cons (by simpa using ho) hw hy h
theorem fG.uV{P:Program}{ops:Array Oper}{Q:Exit->Act->World->Prop}{S:World->Prop}{n k:Nat}{o:Oper}{l:List Nat}{a:Act}{w:World}(ho:ops.toList[k]?=some o)(h:∀K:Act->World->Prop,Shut (∀a w,(k<n->S w)->fG P ops Q S n l a w->K a w)->if Region.wanted o (yielded ops a.tmps)=true then Oper.wp P o a w K Q else K (a.put o.dst undef) w):fG P ops Q S n (k::l) a w:=
 fG.cons (by simpa using ho) h
theorem tY.slice{w:World}{A:Nat->Prop}{v:Value}{D:List Int}(h:tY w A v D):∃a c,v= .slice a D.length c:=h.list.1
theorem QF{w0 w:World}{d:tZ}{sv:Value}{PL:List Pl}{p q k:Nat}(h:bJ w0 d sv PL p q w)(hk:PL.length=k+1)(hl:k<=10000){s:Nat}{dv:Value}(hs:(PL.getD k iq).1=s)(hd:(PL.getD k iq).2.1=dv):
 Calls Tryz.prog 101 #[.pointer (some ⟨d.ra,0,none⟩)] w λe w'=>e= .returned (.agg #[.int .i64 s,dv])/\Below w.heap.size w w':=by
 obtain⟨g,cap,hsv,hg,_⟩:=h.form (by omega);obtain⟨c0,c1⟩:=h.place hsv (i:=k) (by omega);have hdv:=(h.EW (i:=k) (by omega)).slice;rw[hd]at hdv c1;obtain⟨dn,hdn⟩:=af ((PL.getD k iq).2.2.length);rw[hdn]at hdv;obtain⟨da,dc,rfl⟩:=hdv;rw[hs]at c0;have c8:=(h.cell (i:=8) rfl).1;rw[hsv,hk]at c8;have hra:=h.lt.1;have a8:(w.alloc (.cells #[.int .i64 0,.slice none 0 0] 129)).cell? ⟨d.ra,8,none⟩=_:=(dB _ _ _ hra).trans c8;have a0:(w.alloc (.cells #[.int .i64 0,.slice none 0 0] 129)).cell? ⟨g,k*2,none⟩=_:=(dB _ _ _ hg).trans c0;have a1:(w.alloc (.cells #[.int .i64 0,.slice none 0 0] 129)).cell? ⟨g,k*2+1,none⟩=_:=(dB _ _ _ hg).trans c1;have i0:(0:Int)<=(k:Int):=aF _;have i1:(k:Int)<(k:Int)+1:=by omega
 have hwk:IntKind.i64.wrap (k:Int)=(k:Int):=uE _ (by omega);obtain⟨rb,hrb⟩:=af d.ra;rw[hrb]at a8⊢;clear h hk hs hd hsv c0 c1 c8 hra hdn hg hrb
 go_enter Tryz.func101,Tryz.ntmps101
 go_wp2_with fail
 refine xq 12 (by kernel_rfl) (by kernel_rfl) ?_;simp only[List.take_succ_cons,List.take_zero,qP,om]
 repeat still_step
 refine xg ?_
 go_wp2_with fail
 refine aH (v:= .agg #[.int .i64 s,.slice da dn dc]) (by simp[results,Tryz.results101,go_sem]) rfl ⟨rfl,?_⟩;exact((ai _ _).alloc (ah _) _).drew
theorem agd{w0 w:World}{d:tZ}{sv:Value}{PL:List Pl}{p q:Nat}(h:bJ w0 d sv PL p q w)(hn:0<PL.length)(hl:PL.length<=10000)(hp:p<=10000)(s:Nat):
 Calls Tryz.prog 102 #[.pointer (some ⟨d.ra,0,none⟩),.int .i64 s] w λe w'=>e= .returned (.tuple #[])/\∃dW,bJ w0 d dW (PL++[(s,.slice none 0 0,[])]) (p+1) q w':=by
 obtain⟨g,cap,hsv,hg,_⟩:=h.form hn;subst hsv;obtain⟨n,hn'⟩:=af PL.length;rw[hn']at h hl hn;have h4:=h.alloc (.cells #[.int .i64 s,.slice none 0 0] 129);have eU:=h4.stack;rw[hn']at eU;have c8:=(h.cell (i:=8) rfl).1;have Mc:=(h4.cell (i:=8) rfl).2;have Md:=(h4.cell (i:=8) rfl).1;have Cw:=(h4.cell (i:=6) rfl).1;have c6f:=(h4.cell (i:=6) rfl).2;have hra:=h4.lt.1;have hne:some d.ra≠(Value.slice (some ⟨g,0,none⟩) n cap).ownBlock:=λe=>h4.apart e.symm;have hn1:n+1<=maxLen:=by unfold maxLen;omega
 have hn2:(n+1)*32<=140737488355328:=by omega
 have hB4:w0.heap.size<=(w.alloc (.cells #[.int .i64 s,.slice none 0 0] 129)).heap.size:=h4.le;obtain⟨i0,hi0,hz0,hz1,hz2⟩:=fK Tryz.infoPl;have H4:Hid (bJ w0 d (.slice (some ⟨g,0,none⟩) n cap) PL p q (w.alloc (.cells #[.int .i64 s,.slice none 0 0] 129))):=h4;have HN:Hid (PL.length=n):=hn';clear h h4 hn'
 go_enter Tryz.func102,Tryz.ntmps102
 go_wp2_with
  (at_builtin
   refine ow _ rfl _ _ _ rfl w0.heap.size 129 i0 _ 2 32 Tryz.underlying130 hi0 hz0 hz1 hz2 rfl (by omega) (.slice (some ⟨g,0,none⟩) n cap) n (kR PL) rfl eU ⟨w.heap.size,0,none⟩ 1 1 [.int .i64 s,.slice none 0 0] rfl rfl (jh (cs:= #[.int .i64 s,.slice none 0 0]) (t:=129) (fr:=(0,0)) (heap_alloc_new w _)) (by simp[Value.oneCell']) (by omega) hn1 hn2 hB4 (w.heap.size+1) (by simp) ?_;intro g6 cap6 w6 hown6 fP oL vN;have d8:=(fP.cell_far ⟨d.ra,8,none⟩ hra hne).trans Md;have QG:=(fP.frozen_far ⟨d.ra,8,none⟩ hra hne).trans Mc;have d6:=(fP.cell_far ⟨d.ra,6,none⟩ hra hne).trans Cw
   have d6f:=(fP.frozen_far ⟨d.ra,6,none⟩ hra hne).trans c6f)
 go_end0
 refine⟨rfl,.slice (some ⟨g6,0,none⟩) (n+1) cap6,?_⟩
 have r:=H4.out.turn (dW:= .slice (some ⟨g6,0,none⟩) (n+1) cap6) (mF:=PL++[(s,.slice none 0 0,[])]) fP (by simpa [HN.out,kR,Bw] using hown6) (λg' hg'=>by
  obtain rfl:g6=g':=by simpa [Value.ownBlock] using hg'
  rcases oL with h5|h5
  ·exact .inl h5
  ·exact .inr (by simpa using h5)) (λx hx=>by
  rcases iV.1 hx with hx|hx
  ·exact H4.out.CK x hx
  ·simp only[gG]at hx
   subst hx
   exact .inl ⟨rfl,rfl⟩)
 exact r.agb (p+1)
theorem agf{w0 w:World}{d:tZ}{sv:Value}{PL:List Pl}{p q k tp nt:Nat}{R:List Ru}{tok:List Int}{C:List (List Ce)}{G:List (List Int)}(h:bJ w0 d sv PL p q w)(E:CO w0 d R tok C G)(hk:PL.length=k+1)(hl:k<=10000)(hs:(PL.getD k iq).1=tp)(htp:tp<C.length)(hnt:nt<(C.getD tp []).length)
 (hlt:p<tok.length->tok.getD p 0=(nt:Int)) (hge:¬p<tok.length->d.T=nt) {sh:Int} {ql:List Int} {en:Bool} (hce:(C.getD tp []).getD nt (0,[],false)=(sh,ql,en)):
 Calls Tryz.prog 100 #[.pointer (some ⟨d.ra,0,none⟩)] w λe w'=> ∃rl,e= .returned (.agg #[.int .i64 sh,rl,.bool en])/\aY w' w'.heap.size rl ql/\Below w.heap.size w w':=by
 have hR:=h.alloc (.cells #[.int .i64 0,.slice none 0 0,.bool false] 117);obtain⟨W1,hW1⟩:=af (w.alloc (.cells #[.int .i64 0,.slice none 0 0,.bool false] 117));have hB1:Below w.heap.size w W1:=by rw[<-hW1];exact(ai _ _).alloc (ah _) _
 have r0:W1.cell? ⟨w.heap.size,0,none⟩=some (.int .i64 0):=by rw[<-hW1];simp[go_sem]
 have r1:W1.cell? ⟨w.heap.size,1,none⟩=some (.slice none 0 0):=by rw[<-hW1];simp[go_sem]
 have r2:W1.cell? ⟨w.heap.size,2,none⟩=some (.bool false):=by rw[<-hW1];simp[go_sem]
 have rf:∀o,W1.frozen? ⟨w.heap.size,o,none⟩=false:=λo=>by rw[<-hW1];simp[go_sem]
 have hs1:W1.heap.size=w.heap.size+1:=by rw[<-hW1];simp
 rw[hW1]at hR;have HB1:Hid (Below w.heap.size w W1):=hB1;have HZ:Hid (Below w0.heap.size w0 w):=h.since;have HM:Hid (bJ w0 d sv PL p q W1):=hR;have HE:Hid (CO w0 d R tok C G):=E;obtain⟨ta,tc,gu⟩:=E.toks.1;obtain⟨ca,cc,hcv⟩:=E.tab.cells.1;have c0:=(hR.cell (i:=0) rfl).1;have c3:=(hR.cell (i:=3) rfl).1;have c5:=(hR.cell (i:=5) rfl).1;have c6:=(hR.cell (i:=6) rfl).1;rw[gu]at c5;rw[hcv]at c3;have HTv:Hid (d.tv= .slice ta tok.length tc):=gu;have I5:Hid (d.cv= .slice ca C.length cc):=hcv;have Yu:Hid (nt<(C.getD tp []).length):=hnt;have Me:Hid ((C.getD tp []).getD nt (0,[],false)=(sh,ql,en)):=hce;have HLt:Hid (p<tok.length->tok.getD p 0=(nt:Int)):=hlt;obtain⟨x3,hx3⟩:=af ((PL.getD k iq).2.1);have Yv:Hid (∀wq,Below W1.heap.size W1 wq->Calls Tryz.prog 101 #[.pointer (some ⟨d.ra,0,none⟩)] wq λe w'=>e= .returned (.agg #[.int .i64 tp,x3])/\Below wq.heap.size wq w'):=λwq hq=>QF (hR.below hq) hk hl hs hx3
 have qG:Hid (∃a n c,x3= .slice a n c):=by
  obtain⟨a,c,e⟩:=(hR.EW (i:=k) (by omega)).slice;exact⟨a,_,c,by rw[<-hx3,e]⟩
 clear h E hk hs hR gu hcv hnt hce hlt hx3 hB1;obtain⟨rb,hrb⟩:=af d.ra;rw[hrb]at c0 c3 c5 c6 Yv⊢;obtain⟨dT,oz⟩:=af d.T;rw[oz]at c0 hge;clear hrb oz
 go_enter Tryz.func100,Tryz.ntmps100
 go_upto_region 2 with fail
 clear hW1;have p0:(0:Int)<=(p:Int):=aF _;by_cases hpt:p<tok.length
 case' pos=>
  obtain⟨tb',to',U2,hte,_,x1⟩:=(HE.out.toks.below HM.out.since).2 p hpt;rw[HTv.out]at hte;injection hte with h5 _ h6;subst h5;subst h6;rw[HLt.out hpt]at x1;have p1:(p:Int)<(tok.length:Int):=by omega
  go_big_quiet (fail)
  generalize nq=q1
  go_wp2_with fail
  go_big_quiet (fail)
  go_wp2_with fail
  obtain⟨W2,hW2⟩:=af ((W1.drewN q1).drewN nq);have hB2:Below W1.heap.size W1 W2.drew:=by rw[<-hW2];exact(iR (iR (ai _ _) _) _).drew
  rw[hW2];clear x1 p1
 case' neg=>
  have p1:decide ((p:Int)<(tok.length:Int))=false:=aU (by omega);have Bp:=(hge hpt).symm;subst Bp
  go_big_quiet (fail)
  go_wp2_with fail
  obtain⟨W2,hW2⟩:=af (W1.drewN nq);have hB2:Below W1.heap.size W1 W2.drew:=by rw[<-hW2];exact(iR (ai _ _) _).drew
  rw[hW2];clear p1
 all_goals
  clear hW2;obtain⟨cb,co,cc',rk,hcv,k1,hrow⟩:=HE.out.tab.cells.2 tp htp;rw[I5.out]at hcv;injection hcv with hca _ hcc;subst hca;subst hcc;obtain⟨Mf,Mg,Yw,rl,Mh,k2,k3,k4,k5⟩:=hrow.2 nt Yu.out;rw[Me.out]at k2 k4 k5;simp only at k2 k4 k5;obtain⟨ua,uc,hrl⟩:=k4.1;have hn1:=Yu.out;obtain⟨m2,hm2⟩:=af ql.length;obtain⟨rn,hrn⟩:=af ((C.getD tp []).length);rw[hm2]at hrl;rw[hrn]at Mh hn1;subst hrl;subst Mh;obtain⟨xa,xn,xc,rfl⟩:=qG.out;have I6:Hid (aY w0 w0.heap.size (.slice ua m2 uc) ql):=k4;have HB2:Hid (Below W1.heap.size W1 W2.drew):=hB2;have la:=Yv.out W2.drew hB2;have c3':W2.drew.cell? ⟨rb,3,none⟩=some (.slice (some ⟨cb,co,none⟩) C.length cc):=(hB2.cell (aQ _ _ c3)).trans c3
  have QH:Hid (∀wq,Below W2.drew.heap.size W2.drew wq->wq.cell? ⟨rb,3,none⟩=some (.slice (some ⟨cb,co,none⟩) C.length cc)/\wq.cell? ⟨cb,co+tp,none⟩=some (.slice (some ⟨Mf,Mg,none⟩) rn Yw)/\wq.cell? ⟨Mf,Mg+nt*3,none⟩=some (.int .i64 sh)/\wq.cell? ⟨Mf,Mg+nt*3+1,none⟩=some (.slice ua m2 uc)/\wq.cell? ⟨Mf,Mg+nt*3+2,none⟩=some (.bool en)/\
   wq.cell? ⟨w.heap.size,0,none⟩=some (.int .i64 0)/\wq.cell? ⟨w.heap.size,1,none⟩=some (.slice none 0 0)/\wq.cell? ⟨w.heap.size,2,none⟩=some (.bool false)/\(∀o,wq.frozen? ⟨w.heap.size,o,none⟩=false)/\w.heap.size<wq.heap.size):=λwq hq=>by
   have hb:Below W1.heap.size W1 wq:=HB2.out.trans (hq.mono HB2.out.size);have hz:Below w0.heap.size w0 wq:=HM.out.since.trans (hb.mono HM.out.le)
   exact⟨(hq.cell (aQ _ _ c3')).trans c3',(hz.cell (aQ _ _ k1)).trans k1,(hz.cell (aQ _ _ k2)).trans k2,(hz.cell (aQ _ _ k3)).trans k3,(hz.cell (aQ _ _ k5)).trans k5,
    (hb.cell (by simp only;omega)).trans r0,(hb.cell (by simp only;omega)).trans r1,(hb.cell (by simp only;omega)).trans r2,λo=>(hb.frozen (by simp only;omega)).trans (rf o),by have:=hb.size;omega⟩
  have j0:(0:Int)<=(tp:Int):=aF _;have j1:(tp:Int)<(C.length:Int):=by omega
  have l0:(0:Int)<=(nt:Int):=aF _;have l1:(nt:Int)<(rn:Int):=by omega
  clear hB2 k1 k2 k3 k4 k5 hrow hm2 hrn hn1 c0 c3 c5 c6 r0 r1 r2 rf;refine JW [0,1,2,3,4,5,10] [6,7,8,9,11,12,13] 13 (λw'=>w'.cell? ⟨rb,3,none⟩=some (.slice (some ⟨cb,co,none⟩) C.length cc)) (by kernel_rfl) (by kernel_rfl) c3' ?_
  iterate 7
   refine aW.uV (v:= ?_) rfl (by rfl) ?_ ?_;rotate_left
   ·intro w' hSw
    go_simp
    try with_reducible rfl
   simp only[Act.put,eB,List.set_cons_zero,List.set_cons_succ]
  rw[aW];refine fG.uV rfl (λK hK=> ?_)
  go_simp
  refine la.mono ?_;rintro e w5 ⟨rfl,aD⟩;dsimp only;have gP:Hid (Below W2.drew.heap.size W2.drew w5):=aD;obtain⟨m3,m4,m5,m6,m7,m8,m9,m10,m11,m12⟩:=QH.out w5 aD;have f0:=m11 0;have f1:=m11 1;have f2:=m11 2;refine hK.out _ _ (λ_=>m3) ?_;clear hK la aD c3' m11;refine fG.uV rfl (λK hK=> ?_)
  go_simp
  refine hK.out _ _ (λ_=>m3) ?_;clear hK;refine fG.uV rfl (λK hK=> ?_)
  go_simp
  refine hK.out _ _ (λ_=>m3) ?_;clear hK;refine fG.uV rfl (λK hK=> ?_)
  go_simp
  refine hK.out _ _ (λ_=>m3) ?_;clear hK;refine fG.uV rfl (λK hK=> ?_)
  go_simp
  refine hK.out _ _ (λ_=>m3) ?_;clear hK;refine fG.uV rfl (λK hK=> ?_)
  go_simp
  refine hK.out _ _ (λ_=>m3) ?_;clear hK;refine fG.uV rfl (λK hK=> ?_)
  go_simp
  refine hK.out _ _ (λh=>absurd h (by omega)) ?_;clear hK;rw[fG];refine NoPanic.normal ?_
  have Yx:Hid (Below w.heap.size w (((w5.setCell ⟨w.heap.size,0,none⟩ (.int .i64 sh)).setCell ⟨w.heap.size,1,none⟩ (.slice ua m2 uc)).setCell ⟨w.heap.size,2,none⟩ (.bool en))):=
   ((((HB1.out.trans (HB2.out.mono (by omega))).trans (gP.out.mono (by have:=HB2.out.size;omega))).setCell (by simp) _).setCell (by simp) _).setCell (by simp) _
  go_wp2_with fail
  refine aH (v:= .agg #[.int .i64 sh,.slice ua m2 uc,.bool en]) (by simp[results,Tryz.results100,go_sem,m8,m9,m10]) rfl ⟨_,rfl,?_,Yx.out⟩;have hz:=HZ.out.trans (Yx.out.mono HZ.out.size);exact(I6.out.below hz).mono hz.size
theorem agh{la:Option Addr}{f n sl lc:Nat}(hs:sl=f+n):∃A,(∀w:World,Sem.run Tryz.prog (Instr.sliceAt 130 (.slice la sl lc) (some (.int .i64 f)) none none) w= .ok (.slice A n (lc-f)) w)/\(lc≠f->A=la.map (·.add (f*2))):=by
 have h0:(0:Int)<=(f:Int):=aF _;have h1:(f:Int)<=(sl:Int):=by omega
 have h2:sl-f=n:=by omega
 refine⟨if lc=f then la else la.map (·.add (f*2)),λw=> ?_,λh=>by rw[aj h]⟩
 go_simp
 intro h;omega
theorem agi{g f sl lc:Nat}(hu:f<=lc)(w:World):Sem.run Tryz.prog (Instr.sliceAt 130 (.slice (some ⟨g,0,none⟩) sl lc) none (some (.int .i64 f)) none) w= .ok (.slice (some ⟨g,0,none⟩) f lc) w:=by
 have h0:(0:Int)<=(f:Int):=aF _;have h1:(f:Int)<=(lc:Int):=by omega
 go_simp
def lS(m:Int)(PL:List Pl)(f i:Nat):List Int:=m::(((PL.drop f).take i).map λx=>x.2.2).flatten
theorem agj{m:Int}{PL:List Pl}{f i:Nat}(h:f+i<PL.length):lS m PL f (i+1)=lS m PL f i++(PL.getD (f+i) iq).2.2:=by
 unfold lS;have hi:i<(PL.drop f).length:=by rw[pE];omega
 rw[fT hi,fD,List.flatten_append];have e:(PL.drop f)[i]=PL.getD (f+i) iq:=by simp[List.getD,h]
 rw[e];simp
theorem Yy{m:Int}{PL:List Pl}{f i:Nat}{c:Nat}(h:((PL.map λx=>x.2.2).map List.length).sum<=c):(lS m PL f i).length<=c+1:=by
 unfold lS;rw[List.length_cons,List.length_flatten]
 have e:((((PL.drop f).take i).map λx=>x.2.2).map List.length).sum<=((PL.map λx=>x.2.2).map List.length).sum:=by
  have h1:((PL.map λx=>x.2.2).map List.length).sum=(((PL.take f).map λx=>x.2.2).map List.length).sum+(((PL.drop f).map λx=>x.2.2).map List.length).sum:=by
   rw[<-Ab,<-fD,<-fD,wT]
  have h2:(((PL.drop f).map λx=>x.2.2).map List.length).sum=((((PL.drop f).take i).map λx=>x.2.2).map List.length).sum+((((PL.drop f).drop i).map λx=>x.2.2).map List.length).sum:=by
   rw[<-Ab,<-fD,<-fD,wT]
  omega
 omega
theorem agk{w0 w:World}{d:tZ}{sv:Value}{PL:List Pl}{p q:Nat}{R:List Ru}{tok:List Int}{C:List (List Ce)}{G:List (List Int)}(h:bJ w0 d sv PL p q w)(E:CO w0 d R tok C G){m kp rl Lf qs gg:Nat}(hm:m<R.length)(hL:(R.getD m (0,[])).1=(Lf:Int))(hrl:(R.getD m (0,[])).2.length=rl)(hPL:PL.length=kp+1+rl)(hl:PL.length<=10000)(hq:q<=10000)(hsum:((PL.map λx=>x.2.2).map List.length).sum<=10000)
 (CP:(PL.getD kp iq).1=qs) (Yz:qs<G.length) (YA:Lf<(G.getD qs []).length) (hgg:(G.getD qs []).getD Lf 0=(gg:Int)):
 Calls Tryz.prog 103 #[.pointer (some ⟨d.ra,0,none⟩),.int .i64 m] w λe w'=>e= .returned (.tuple #[])/\∃dW dv,bJ w0 d dW (PL.take (kp+1)++[(gg,dv,(m:Int)::((PL.drop (kp+1)).map λx=>x.2.2).flatten)]) p (q+1) w':=by
 obtain⟨g,cap,hsv,hg,hcap⟩:=h.form (by omega);obtain⟨sl,hsl⟩:=af PL.length;rw[hsl]at hsv hcap hl;subst hsv;obtain⟨f,hf⟩:=af (kp+1);have YB:sl=f+rl:=by omega
 obtain⟨rb,ro,rc,qa,qc,aI,hrb,z1,z2,hqc,_⟩:=(E.rules.below h.since).2 m hm;obtain⟨ru,agl⟩:=af (R.getD m (0,[]));rw[hL]at z1;rw[hrl]at z2;rw[<-kF]at z2;have c2:=(h.cell (i:=2) rfl).1;rw[aI]at c2;have v0:(0:Int)<=(m:Int):=aF _;have v1:(m:Int)<(R.length:Int):=by omega
 have hfr:IntKind.i64.wrap ((sl:Int)-(rl:Int))=(f:Int):=by rw[uE _ (by omega)];omega
 have HM:Hid (bJ w0 d (.slice (some ⟨g,0,none⟩) sl cap) PL p q w):=h;have HE:Hid (CO w0 d R tok C G):=E;have HRv:Hid (d.rv= .slice (some ⟨rb,ro,none⟩) R.length rc):=aI;have EX:Hid (PL.length=sl):=hsl;have HF:Hid (kp+1=f):=hf;have YC:Hid (((PL.map λx=>x.2.2).map List.length).sum<=10000):=hsum;have HQs:Hid ((PL.getD kp iq).1=qs):=CP;have I7:Hid (qs<G.length/\Lf<(G.getD qs []).length/\(G.getD qs []).getD Lf 0=(gg:Int)):=⟨Yz,YA,hgg⟩;have zO:Hid (sl=f+rl):=YB;have ajh:rl<=10000:=by omega
 have c8:=(h.cell (i:=8) rfl).1;have hra:=h.lt.1;have hB0:w.heap.size<=w.heap.size:=ah _;obtain⟨ug,QI⟩:=af d.ra;have nW:Hid (d.ra=ug):=QI;rw[QI]at c2 c8 hra⊢;clear h E aI hsl hf hsum CP Yz YA hgg YB agl hL hrl hPL QI hm hrb hqc
 go_enter Tryz.func103,Tryz.ntmps103
 go_upto_region 1 with fail
 obtain⟨W1,hW1⟩:=af (w.alloc (.cells #[.int .i64 Lf,.slice qa rl qc] 96));have hM1:=HM.out.alloc (.cells #[.int .i64 Lf,.slice qa rl qc] 96);have b0:W1.cell? ⟨w.heap.size,0,none⟩=some (.int .i64 Lf):=by rw[<-hW1];simp[go_sem]
 have b1:W1.cell? ⟨w.heap.size,1,none⟩=some (.slice qa rl qc):=by rw[<-hW1];simp[go_sem]
 rw[hW1]at hM1⊢;have Md:=(hM1.cell (i:=8) rfl).1;rw[nW.out]at Md;have tJ:Hid (bJ w0 d (.slice (some ⟨g,0,none⟩) sl cap) PL p q W1):=hM1;clear hW1 hM1 c2 c8 z1 z2 v0 v1
 go_big_quiet (fail)
 obtain⟨W2,hW2⟩:=af (W1.drewN nq);have hB2:Below W1.heap.size W1 W2:=by rw[<-hW2];exact iR (ai _ _) _
 rw[hW2];have kN:Hid (bJ w0 d (.slice (some ⟨g,0,none⟩) sl cap) PL p q W2):=tJ.out.below hB2;have e0:=(hB2.cell (aQ _ _ b0)).trans b0;have YD:Hid (W2.cell? ⟨w.heap.size,0,none⟩=some (.int .i64 Lf)):=e0
 have c8:(W2.alloc (.cells #[.int .i64 m] 3)).cell? ⟨ug,8,none⟩=some (.slice (some ⟨g,0,none⟩) sl cap):=by
  have:=((kN.out.alloc (.cells #[.int .i64 m] 3)).cell (i:=8) rfl).1;rw[nW.out]at this;exact this
 obtain⟨A,hA,hA'⟩:=agh (la:=some ⟨g,0,none⟩) (lc:=cap) zO.out;have CQ:Hid (cap≠f->A=(some (⟨g,0,none⟩:Addr)).map (·.add (f*2))):=hA'
 have Bj:Hid ((W2.alloc (.cells #[.int .i64 m] 3)).ownsRow W2.heap.size 3 1 (.slice (some ⟨W2.heap.size,0,none⟩) 1 1) 1 [.int .i64 m]):=by
  have:=sM (base:=W2.heap.size) (e:=3) (size:=1) W2 #[.int .i64 m] 1 (ah _) (by unfold maxLen;omega) rfl;exact this
 clear hW2 hB2 b0 b1 Md hA' e0 tJ
 go_wp2_with fail
 clear c8 hA hfr
 go_loopw [6,36] (λs6 s36 wr=> ∃(i gd cd:Nat),s6= .slice (some ⟨gd,0,none⟩) (lS m PL f i).length cd/\s36= .int .i64 i/\i<=rl/\wr.ownsRow W2.heap.size 3 1 (.slice (some ⟨gd,0,none⟩) (lS m PL f i).length cd) (lS m PL f i).length ((lS m PL f i).map (Value.int .i64))/\Below W2.heap.size W2 wr) (λ_ s _=>rl-(intOf s).toNat)
 case atStart=>exact⟨0,W2.heap.size,1,rfl,rfl,aP _,Bj.out,(ai _ _).alloc (ah _) _⟩
 case round=>
  clear Bj;obtain⟨i,gd,cd,rfl,rfl,hi,hown,hB⟩:=hrel;have HB:Hid (Below W2.heap.size W2 wr):=hB;obtain⟨dl,hdl⟩:=af ((lS m PL f i).length);rw[hdl]at hown⊢;have aji:dl<=10001:=by rw[<-hdl];exact Yy YC.out
  have Bz:Hid ((lS m PL f i).length=dl):=hdl;have uW:Hid (wr.ownsRow W2.heap.size 3 1 (.slice (some ⟨gd,0,none⟩) dl cd) dl ((lS m PL f i).map (Value.int .i64))):=hown;have BA:=kN.out.below hB;have Ic:Hid (bJ w0 d (.slice (some ⟨g,0,none⟩) sl cap) PL p q wr):=BA;clear hB hown hdl;by_cases hlt:i<rl
  ·have hcf:cap≠f:=by have:=zO.out;omega
   have Cq:=CQ.out hcf;simp only[Option.map_some,Addr.add_lit,eO]at Cq;subst Cq;have hfi:f+i<PL.length:=by rw[EX.out,zO.out];omega
   obtain⟨c0,c1⟩:=BA.place (by rw[EX.out]) (i:=f+i) hfi;have hdv:=BA.EW (i:=f+i) hfi;have hsu:=agj (m:=(m:Int)) hfi;have hle:=Yy (m:=(m:Int)) (f:=f) (i:=i+1) YC.out;obtain⟨⟨s,dv,D⟩,hpl⟩:=af (PL.getD (f+i) iq);rw[hpl]at c0 c1 hdv hsu;simp only at c0 c1 hdv hsu;rw[Nat.add_mul]at c0 c1;have EY:Hid (lS m PL f (i+1)=lS m PL f i++D):=hsu;have hDl:dl+D.length<=10001:=by rw[hsu,aS,Bz.out]at hle;exact hle
   have i0:(0:Int)<=(i:Int):=aF _;have i1:(i:Int)<(rl:Int):=by omega
   obtain⟨vQ,hi0,hz0,hz1,hz2⟩:=fK Tryz.infoInt;clear BA hpl hsu hle;rcases hdv with⟨rfl,rfl⟩|⟨hD0,b,c,rfl,_,hbl,_,hcl⟩
   ·have bV:=uW.out.alloc (.cells #[.int .i64 s,.slice none 0 0] 129)
    have gP:Hid (Below W2.heap.size W2 (wr.alloc (.cells #[.int .i64 s,.slice none 0 0] 129))):=HB.out.alloc HB.out.size _
    go_wp2_with
     (at_builtin
      refine wpList_append_own_none rfl _ _ _ rfl W2.heap.size 3 vQ 1 Tryz.underlying39 hi0 (.slice (some ⟨gd,0,none⟩) dl cd) dl ((lS m PL f i).map (Value.int .i64)) rfl bV rfl ?_)
    go_roundw
    case rel=>
     have e:=EY.out;rw[qp]at e;exact⟨i+1,gd,cd,by rw[e,Bz.out],by go_num,by omega,by rw[e,Bz.out];exact bV,gP.out⟩
    case measure=>simp[intOf];omega
   ·have bV:=uW.out.alloc (.cells #[.int .i64 s,.slice (some ⟨b,0,none⟩) D.length c] 129)
    have aD:Below W2.heap.size W2 (wr.alloc (.cells #[.int .i64 s,.slice (some ⟨b,0,none⟩) D.length c] 129)):=HB.out.alloc HB.out.size _;have gP:Hid (Below W2.heap.size W2 (wr.alloc (.cells #[.int .i64 s,.slice (some ⟨b,0,none⟩) D.length c] 129))):=aD;have hsz5:=aD.size
    have hnw:∀j u,(D.map (Value.int .i64))[j]?=some u->(wr.alloc (.cells #[.int .i64 s,.slice (some ⟨b,0,none⟩) D.length c] 129)).cell? ((⟨b,0,none⟩:Addr).add j)=some u:=λj u hj=>by
     have hjl:=(qw.1 hj).1;simp only[cK]at hjl;rw[Addr.add_lit,eO,dB _ _ _ hbl,hcl j hjl,<-hj];simp[List.getD,hjl]
    have hone:∀u∈D.map (Value.int .i64),u.oneCell'=true:=λu hu=>by
     obtain⟨n,_,rfl⟩:=jP.1 hu;rfl
    have n1:dl+D.length<=maxLen:=by unfold maxLen;omega
    have n2:(dl+D.length)*8<=140737488355328:=by omega
    have nl:(D.map (Value.int .i64)).length=D.length*1:=by simp
    clear aD hcl
    go_wp2_with
     (at_builtin
      refine ow _ rfl _ _ _ rfl W2.heap.size 3 vQ _ 1 8 Tryz.underlying39 hi0 hz0 hz1 hz2 rfl (by omega) (.slice (some ⟨gd,0,none⟩) dl cd) dl ((lS m PL f i).map (Value.int .i64)) rfl bV ⟨b,0,none⟩ D.length c (D.map (Value.int .i64)) rfl nl hnw hone hD0 n1 n2 hsz5 (wr.heap.size+1) (by simp) ?_
      intro g6 cap6 w6 hown6 fP oL vN)
    go_roundw
    case rel=>
     refine⟨i+1,g6,cap6,by rw[EY.out,aS,Bz.out],by go_num,by omega,by rw[EY.out,aS,Bz.out,fD];exact hown6,gP.out.grown fP gP.out.size λk hk=>(bV.lt k hk).1⟩
    case measure=>simp[intOf];omega
  ·obtain rfl:i=rl:=by omega
   have YE:Hid (lS m PL f i=(m:Int)::((PL.drop f).map λx=>x.2.2).flatten):=by
    show lS m PL f i=_;unfold lS;rw[pG (by rw[pE,EX.out,zO.out];omega)]
   have EQ:f<=cap:=by have:=zO.out;omega
   have c8:=(BA.cell (i:=8) rfl).1;have Mc:=(BA.cell (i:=8) rfl).2;rw[nW.out]at c8 Mc;have hup:=λw=>agi (g:=g) (sl:=sl) EQ w;have QJ:=BA.cut (g:=g) (cap:=cap) (n:=f) (by rw[EX.out]) (by rw[EX.out,zO.out];omega);rw[nW.out]at QJ;have Er:Hid (bJ w0 d (.slice (some ⟨g,0,none⟩) f cap) (PL.take f) p q (wr.setCell ⟨ug,8,none⟩ (.slice (some ⟨g,0,none⟩) f cap))):=QJ;clear BA QJ
   go_upto_region 9 with fail
   obtain⟨W4,dS⟩:=af (wr.setCell ⟨ug,8,none⟩ (.slice (some ⟨g,0,none⟩) f cap));have agm:wr.heap.size=W4.heap.size:=by rw[<-dS];simp
   have YF:∀b,b≠ug->W4.heap[b]?=wr.heap[b]?:=λb hb=>by rw[<-dS];exact gm _ _ _ _ hb
   have HDv:Hid (tY W4 (λb=>W2.heap.size<=b) (.slice (some ⟨gd,0,none⟩) dl cd) (lS m PL f i)):=by
    refine .inr ⟨by rw[YE.out];simp,gd,cd,by rw[Bz.out],(uW.out.lt gd rfl).1,by rw[<-agm];exact(uW.out.lt gd rfl).2,?_,λj hj=> ?_⟩
    ·rcases uW.out.2 with⟨h0,_⟩|⟨g',cap',cur',hg',_,_,hle,_⟩
     ·cases h0
     ·injection hg' with _ _ e3;rw[Bz.out];omega
    have hgr:gd≠ug:=λe=>by
     have h1:=(uW.out.lt gd rfl).1;have h2:=kN.out.lt.1;rw[nW.out]at h2;omega
    rw[pI (w:=wr) (a:=⟨gd,j,none⟩) (YF gd hgr),uW.out.cellAt j (by rw[<-Bz.out];omega)];simp[List.getD,hj]
   rw[dS]at Er⊢;have Bf:Hid (bJ w0 d (.slice (some ⟨g,0,none⟩) f cap) (PL.take f) p q W4.drew):=Er.out.drew
   have hbx:W4.drew.cell? ⟨w.heap.size,0,none⟩=some (.int .i64 Lf):=by
    have h1:=(HB.out.cell (aQ _ _ YD.out)).trans YD.out;have hgr:w.heap.size≠ug:=by omega
    exact(pI (w:=wr) (a:=⟨w.heap.size,0,none⟩) (YF _ hgr)).trans h1
   have hl4:(PL.take f).length=kp+1:=by rw[fq,EX.out,zO.out,<-HF.out];omega
   have hq4:((PL.take f).getD kp iq).1=qs:=by rw[<-HQs.out];simp[List.getD,<-HF.out]
   obtain⟨xv,hxv⟩:=af (((PL.take f).getD kp iq).2.1);have la:=QF Bf.out hl4 (by have:=zO.out;have:=HF.out;omega) hq4 hxv
   obtain⟨xa,xn,xc,agn⟩:∃a n c,xv= .slice a n c:=by
    obtain⟨a,c,e⟩:=(Bf.out.EW (i:=kp) (by rw[hl4];omega)).slice;exact⟨a,_,c,by rw[<-hxv,e]⟩
   subst agn;rw[nW.out]at la;have c4:=(Bf.out.cell (i:=4) rfl).1;rw[nW.out]at c4;obtain⟨yb,yo,yc,rk,hyv,k1,hrow⟩:=HE.out.tab.goto.2 qs I7.out.1;obtain⟨ub,uo,uc,Mh,_,k2⟩:=hrow.2 Lf I7.out.2.1;rw[I7.out.2.2]at k2;rw[hyv]at c4;subst Mh;obtain⟨rn,hrn⟩:=af ((G.getD qs []).length);rw[hrn]at k1
   have QH:Hid (∀wq,Below W4.drew.heap.size W4.drew wq->(wq.cell? ⟨ug,4,none⟩=some (.slice (some ⟨yb,yo,none⟩) G.length yc)/\wq.cell? ⟨w.heap.size,0,none⟩=some (.int .i64 Lf))/\wq.cell? ⟨yb,yo+qs,none⟩=some (.slice (some ⟨ub,uo,none⟩) rn uc)/\wq.cell? ⟨ub,uo+Lf,none⟩=some (.int .i64 gg)):=λwq hq=>by
    have hz:Below w0.heap.size w0 wq:=Bf.out.since.trans (hq.mono Bf.out.le);exact⟨⟨(hq.cell (aQ _ _ c4)).trans c4,(hq.cell (aQ _ _ hbx)).trans hbx⟩,(hz.cell (aQ _ _ k1)).trans k1,(hz.cell (aQ _ _ k2)).trans k2⟩
   have j0:(0:Int)<=(qs:Int):=aF _;have j1:(qs:Int)<(G.length:Int):=by have:=I7.out.1;omega
   have l0:(0:Int)<=(Lf:Int):=aF _;have l1:(Lf:Int)<(rn:Int):=by have:=I7.out.2.1;rw[hrn]at this;omega
   clear dS c8 Mc hup k1 k2 hrow hyv hrn hxv hq4;refine JW [0,1,2,3,4,5,10,11] [6,7,8,9,12,13,14] 14 (λw'=>w'.cell? ⟨ug,4,none⟩=some (.slice (some ⟨yb,yo,none⟩) G.length yc)/\w'.cell? ⟨w.heap.size,0,none⟩=some (.int .i64 Lf)) (by kernel_rfl) (by kernel_rfl) ⟨c4,hbx⟩ ?_
   iterate 8
    refine aW.uV (v:= ?_) rfl (by rfl) ?_ ?_;rotate_left
    ·intro w' hSw
     obtain⟨ajj,ajk⟩:=hSw
     go_simp
     try with_reducible rfl
    simp only[Act.put,eB,List.set_cons_zero,List.set_cons_succ]
   rw[aW];refine fG.uV rfl (λK hK=> ?_)
   go_simp
   refine la.mono ?_;rintro e w5 ⟨rfl,aD⟩;dsimp only;have gP:Hid (Below W4.drew.heap.size W4.drew w5):=aD;obtain⟨⟨m3,m4⟩,m5,m6⟩:=QH.out w5 aD;refine hK.out _ _ (λ_=>⟨m3,m4⟩) ?_;clear hK la aD c4 hbx
   iterate 6
    refine fG.uV rfl (λK hK=> ?_)
    go_simp
    refine hK.out _ _ (λ_=>⟨m3,m4⟩) ?_;clear hK
   rw[fG];refine NoPanic.normal ?_;clear m3 m4 m5 m6;have hlf:(PL.take f).length=f:=hl4.trans HF.out;have h5:=Bf.out.below gP.out;have h6:=h5.alloc (.cells #[.int .i64 gg,.slice (some ⟨gd,0,none⟩) dl cd] 129);have YG:=h6.stack;rw[hlf]at YG;have c8:=(h5.cell (i:=8) rfl).1;have d8:=(h6.cell (i:=8) rfl).1;have QG:=(h6.cell (i:=8) rfl).2;have d7:=(h6.cell (i:=7) rfl).1;have YH:=(h6.cell (i:=7) rfl).2;have I8:=h6.lt.1;have hne:some d.ra≠(Value.slice (some ⟨g,0,none⟩) f cap).ownBlock:=λe=>h6.apart e.symm;rw[nW.out]at c8 d8 QG d7 YH I8 hne;have ajl:f<=10000:=by have:=zO.out;omega
   have hn1:f+1<=maxLen:=by unfold maxLen;omega
   have hn2:(f+1)*32<=140737488355328:=by omega
   have bC:w0.heap.size<=(w5.alloc (.cells #[.int .i64 gg,.slice (some ⟨gd,0,none⟩) dl cd] 129)).heap.size:=h6.le;obtain⟨i0,hi0,hz0,hz1,hz2⟩:=fK Tryz.infoPl;have H6:Hid (bJ w0 d (.slice (some ⟨g,0,none⟩) f cap) (PL.take f) p q (w5.alloc (.cells #[.int .i64 gg,.slice (some ⟨gd,0,none⟩) dl cd] 129))):=h6;have Lc:Hid ((PL.take f).length=f):=hlf;clear h5 h6 hl4 hlf
   go_wp2_with
    (at_builtin
     refine ow _ rfl _ _ _ rfl w0.heap.size 129 i0 _ 2 32 Tryz.underlying130 hi0 hz0 hz1 hz2 rfl (by omega) (.slice (some ⟨g,0,none⟩) f cap) f (kR (PL.take f)) rfl YG ⟨w5.heap.size,0,none⟩ 1 1 [.int .i64 gg,.slice (some ⟨gd,0,none⟩) dl cd] rfl rfl (jh (cs:= #[.int .i64 gg,.slice (some ⟨gd,0,none⟩) dl cd]) (t:=129) (fr:=(0,0)) (heap_alloc_new w5 _)) (by simp[Value.oneCell']) (by omega) hn1 hn2 bC (w5.heap.size+1) (by simp) ?_;intro g7 nk w7 Cy iF Cz Lp;have x8:=(iF.cell_far ⟨ug,8,none⟩ I8 hne).trans d8;have x8f:=(iF.frozen_far ⟨ug,8,none⟩ I8 hne).trans QG;have x7:=(iF.cell_far ⟨ug,7,none⟩ I8 hne).trans d7
     have x7f:=(iF.frozen_far ⟨ug,7,none⟩ I8 hne).trans YH)
   go_end0
   refine⟨rfl,.slice (some ⟨g7,0,none⟩) (f+1) nk,.slice (some ⟨gd,0,none⟩) dl cd,?_⟩;rw[HF.out,<-YE.out]
   have hkeep:∀b,W2.heap.size<=b->b<W4.heap.size->(w5.alloc (.cells #[.int .i64 gg,.slice (some ⟨gd,0,none⟩) dl cd] 129)).heap[b]?=W4.heap[b]?/\Ma d (.slice (some ⟨g,0,none⟩) f cap) b:=λb hb1 hb2=>by
    have hs5:W4.heap.size<=w5.heap.size:=gP.out.size;refine⟨((heap_alloc_old w5 _ (show b<w5.heap.size by omega))).trans (gP.out.block b hb2),λe=> ?_,λe=> ?_⟩
    ·have:=kN.out.lt.1;omega
    ·have:=(kN.out.stack.lt g rfl).2
     simp only[Value.ownBlock,bM]at e;omega
   have hsz:W4.heap.size<=(w5.alloc (.cells #[.int .i64 gg,.slice (some ⟨gd,0,none⟩) dl cd] 129)).heap.size:=by
    have:W4.heap.size<=w5.heap.size:=gP.out.size;simp;omega
   have r:=H6.out.turn (dW:= .slice (some ⟨g7,0,none⟩) (f+1) nk) (mF:=PL.take f++[(gg,.slice (some ⟨gd,0,none⟩) dl cd,lS m PL f i)]) iF (by
    have:=Cy;rw[aS,Lc.out,Yt]
    exact this) (λg' hg'=>by
    obtain rfl:g7=g':=by simpa [Value.ownBlock] using hg'
    rcases Cz with h5|h5
    ·exact .inl h5
    ·exact .inr (by simpa using h5)) (λx hx=>by
    rcases iV.1 hx with hx|hx
    ·exact H6.out.CK x hx
    ·simp only[gG]at hx
     subst hx
     exact HDv.out.kept hsz hkeep)
   rw[nW.out]at r;have r2:=r.agc (q+1);rw[nW.out]at r2;exact r2
end Go.Proofs.YthbifaoaiggooaaGreatDoor
