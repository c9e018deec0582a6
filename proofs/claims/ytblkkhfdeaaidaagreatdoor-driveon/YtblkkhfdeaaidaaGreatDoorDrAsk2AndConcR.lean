import Derived.Test.YtblkkhfdeaaidaaGreatDoorTxMathAndDerMath
import Derived.Test.YtblkkhfdeaaidaaGreatDoorChartOfAndSpreadMath
import Derived.Test.YtblkkhfdeaaidaaGreatDoorPrRedAndPrParse
import Derived.Test.YtblkkhfdeaaidaaGreatDoorMathAndTxSc
import Derived.Test.YtblkkhfdeaaidaaGreatDoorLooksMathAndTabMath
import Derived.Test.YtblkkhfdeaaidaaGreatDoorTxNuAndHeldSeq
import Derived.Laws.AppendOwnNone
import Derived.Lib.AppendZeros
set_option maxHeartbeats 6400000
set_option maxRecDepth 100000
namespace Go.Proofs.YtblkkhfdeaaidaaGreatDoor
open Go.RowKit
def nE(p:bQ)(tok:List Int)(o:List UInt8):Prop:=
 (eG p.T p.N p.R tok≠0/\o=dI [98,97,100] [eG p.T p.N p.R tok])\/(eG p.T p.N p.R tok=0/\((lF p.R 0 tok/\o=[121,101,115])\/(¬lF p.R 0 tok/\o=[110,111])))
def vT(a:List Int×Int×Int):List UInt8:=if a.2.2≠0 then dI [98,97,100] [a.2.2] else if 0<=a.2.1 then dI [97,116] [a.2.1] else dI [105,115] a.1
def pV(p:bQ)(tok:List Int)(o:List UInt8):Prop:=∃a,zi p.T p.N p.R tok a/\o=vT a
theorem nE.one{p:bQ}{tok:List Int}{o o':List UInt8}(h:nE p tok o)(k:nE p tok o'):o=o':=by
 rcases h with⟨h1,h2⟩|⟨h1,⟨h2,h3⟩|⟨h2,h3⟩⟩<;>rcases k with⟨k1,k2⟩|⟨k1,⟨k2,k3⟩|⟨k2,k3⟩⟩
 ·rw[h2,k2]
 ·exact absurd k1 h1
 ·exact absurd k1 h1
 ·exact absurd h1 k1
 ·rw[h3,k3]
 ·exact absurd h2 k2
 ·exact absurd h1 k1
 ·exact absurd k2 h2
 ·rw[h3,k3]
theorem pV.one{p:bQ}{tok:List Int}{o o':List UInt8}(h:pV p tok o)(k:pV p tok o'):o=o':=by
 obtain⟨a,h1,rfl⟩:=h;obtain⟨b,k1,rfl⟩:=k;rw[h1.one k1]
theorem MH(T N:Int)(R:List Ru)(tok:List Int):fQ (eG T N R tok):=by
 unfold eG fQ
 repeat' split
 all_goals omega
theorem ady(T N:Nat)(R:List Ru)(tok:List Int):∃z,zi T N R tok z:=by
 by_cases hM:More T N R 150
 ·exact⟨_,.inl ⟨hM,rfl⟩⟩
 ·obtain⟨K,hW,hK⟩:=Ic (by omega) hM
  by_cases hw:eG T N R tok=0
  ·by_cases hc:fw (bZ T N R K)=0
   ·exact⟨_,.inr ⟨K,hW,hK,.inr (.inr ⟨hw,hc,rfl⟩)⟩⟩
   ·exact⟨_,.inr ⟨K,hW,hK,.inr (.inl ⟨hw,by omega,rfl⟩)⟩⟩
  ·exact⟨_,.inr ⟨K,hW,hK,.inl ⟨hw,rfl⟩⟩⟩
theorem adz{R:List Ru}:∀(k:Nat) (n:Int) (d Z:List Int),vO R k n d Z->∀x∈d,0<=x/\x<(R.length:Int):=by
 intro k
 induction k with
 |zero=>intro n d Z h;exact h.elim
 |succ k ih=>
  intro n d Z h;obtain⟨q,hq,_,d',rfl,hs⟩:=h
  have key:∀(l:List Sy) (d Z:List Int),mM (vO R k) l d Z->∀x∈d,0<=x/\x<(R.length:Int):=by
   intro l
   induction l with
   |nil=>
    intro d Z h x hx;rw[h.1]at hx;cases hx
   |cons s l ih2=>
    intro d Z h x hx;obtain⟨b,v⟩:=s;cases b with
    |true=>
     obtain⟨Z',_,h2⟩:=h;exact ih2 _ _ h2 x hx
    |false=>
     obtain⟨d1,d2,Z1,Z2,rfl,_,h1,h2⟩:=h;rcases List.mem_append.1 hx with hx|hx
     ·exact ih _ _ _ h1 x hx
     ·exact ih2 _ _ h2 x hx
  intro x hx;rcases List.mem_cons.1 hx with hx|hx
  ·rw[hx];omega
  ·exact key _ _ _ hs x hx
theorem U3{T N:Nat}{R:List Ru}{tok:List Int}{a:List Int×Int×Int}(hm:aD T N R=true)(h:zi T N R tok a):fQ a.2.2/\fQ a.2.1/\a.1.length<=400/\∀x∈a.1,fQ x:=by
 have z0:fQ 0:=⟨by omega,by omega⟩;have zn:∀x∈([]:List Int),fQ x:=fun x hx=>by cases hx
 rcases h with⟨_,rfl⟩|⟨K,h1,_,⟨_,rfl⟩|⟨_,_,rfl⟩|⟨h3,h4,rfl⟩⟩
 ·exact⟨show fQ 1 from ⟨by omega,by omega⟩,z0,by simp,zn⟩
 ·exact⟨MH _ _ _ _,z0,by simp,zn⟩
 ·exact⟨show fQ 4 from ⟨by omega,by omega⟩,z0,by simp,zn⟩
 ·obtain⟨gI,hin⟩:=UB hm h3
  have hR:=(fV hm).2.2.2.1;obtain⟨k1,k2⟩:=acV (Uq (QK hm) h1 (UA h1)) (ac0 hin) (tok.length+402) Uv Ut rfl;cases he:qG T N R (af T N R K).1 (af T N R K).2 tok with
  |done d=>
   obtain⟨⟨k,hk⟩,hl⟩:=k1 d he;refine⟨z0,show fQ (-1) from ⟨by omega,by omega⟩,hl,fun x hx=> ?_⟩;have:=adz k _ _ _ hk x hx;exact⟨by omega,by omega⟩
  |none n=>
   have:=k2 n he;exact⟨z0,show fQ (n:Int) from ⟨by omega,by omega⟩,by simp[Br],zn⟩
  |size=>exact⟨show fQ 1 from ⟨by omega,by omega⟩,z0,by simp[Br],zn⟩
section
variable{w w':World}{pb B G:Nat}{rv:Value}{p:bQ}
theorem adA{ta:Option Addr}{tc:Nat}{tok:List Int}(h:aZ w pb B rv p)(hE:cB G w)(hG:G<=pb)(hm:aD p.T p.N p.R=true)(ht:aP w w.heap.size (.slice ta tok.length tc) tok):Calls Tryz.prog 36 #[.pointer (some ⟨pb,0,none⟩),.slice ta tok.length tc] w fun e w'=> ∃o,nE p tok o/\e= .returned (.string ⟨o.toArray⟩)/\Below w.heap.size w w':=by
 obtain⟨c0,c1,c2,-⟩:=h.cells;obtain⟨ra,rc,aG⟩:=h.rules.at.1;subst aG;have hpb:=h.below;by_cases hw:eG p.T p.N p.R tok=0
 ·obtain⟨gI,hin⟩:=UB hm hw
  have hr:=ZA (T:=p.T) (N:=p.N) h.rules.at ht hm gI hin;by_cases hD:lF p.R 0 tok
  ·have hr':Calls Tryz.prog 66 #[.agg #[.int .i64 p.T,.int .i64 p.N,.slice ra p.R.length rc],.slice ta tok.length tc] w fun e w'=>e= .returned (.tuple #[.bool true,.int .i64 0])/\Below w.heap.size w w':=
    hr.mono fun e w' ⟨z,h1,h2,h3⟩=>⟨by rw[h1,h2.2 hD],h3⟩
   have HO:Hid (nE p tok [121,101,115]):= .inr ⟨hw,.inl ⟨hD,rfl⟩⟩;clear h hE hm ht hw gI hin hr hD
   go_enter Tryz.func36,Tryz.ntmps36
   go_wp2_with
    (go_at_call 66;refine hr'.mono ?_;rintro e w2 ⟨rfl,h2⟩
     have H2:Hid (Below w.heap.size w w2):=h2
     clear hr' h2)
   go_ret;exact⟨_,HO.out,rfl,H2.out⟩
  ·have hr':Calls Tryz.prog 66 #[.agg #[.int .i64 p.T,.int .i64 p.N,.slice ra p.R.length rc],.slice ta tok.length tc] w fun e w'=>e= .returned (.tuple #[.bool false,.int .i64 0])/\Below w.heap.size w w':=
    hr.mono fun e w' ⟨z,h1,h2,h3⟩=>⟨by
     cases z with
     |true=>exact absurd (h2.1 rfl) hD
     |false=>exact h1,h3⟩
   have HO:Hid (nE p tok [110,111]):= .inr ⟨hw,.inr ⟨hD,rfl⟩⟩;clear h hE hm ht hw gI hin hr hD
   go_enter Tryz.func36,Tryz.ntmps36
   go_wp2_with
    (go_at_call 66;refine hr'.mono ?_;rintro e w2 ⟨rfl,h2⟩
     have H2:Hid (Below w.heap.size w w2):=h2
     clear hr' h2)
   go_ret;exact⟨_,HO.out,rfl,H2.out⟩
 ·have hr:=Zz (T:=p.T) (N:=p.N) h.rules.at ht hw
  have hx:=MH p.T p.N p.R tok;have HO:Hid (nE p tok (dI [98,97,100] [eG p.T p.N p.R tok])):= .inl ⟨hw,rfl⟩;obtain⟨x,U4⟩:∃x,eG p.T p.N p.R tok=x:=⟨_,rfl⟩;rw[U4]at hr hx HO hw
  have HT:Hid (∀wq,Below w.heap.size w wq->Calls Tryz.prog 24 #[.string ⟨#[98,97,100]⟩,.slice (some ⟨wq.heap.size,0,none⟩) 1 1] (wq.alloc (.cells #[.int .i64 x] 3)) fun e w'=>e= .returned (.string ⟨(dI [98,97,100] [x]).toArray⟩)/\Below wq.heap.size wq w'):=fun wq hq=>
   wH (u:=[98,97,100]) (by simp) (hE.below hq (by omega)) (by have:=hq.size;omega) hx
  have b1:(x==0)=false:=by simpa using hw
  clear h hE hm ht U4 hx hw
  go_enter Tryz.func36,Tryz.ntmps36
  go_wp2_with
   (first
    |(go_at_call 66;refine hr.mono ?_;rintro e w2 ⟨rfl,h2⟩
      have td:=HT.out w2 h2;have H2:Hid (Below w.heap.size w w2):=h2
      clear hr h2)
    |(go_at_call 24;refine td.mono ?_;rintro e w4 ⟨rfl,h4⟩
      have H4:Hid (Below w.heap.size w w4):=H2.out.trans (h4.mono H2.out.size)
      clear td h4))
  go_ret;exact⟨_,HO.out,rfl,H4.out⟩
theorem adB{ta:Option Addr}{tc:Nat}{tok:List Int}(h:aZ w pb B rv p)(hE:cB G w)(hG:G<=pb)(hm:aD p.T p.N p.R=true)(ht:aP w w.heap.size (.slice ta tok.length tc) tok):Calls Tryz.prog 38 #[.pointer (some ⟨pb,0,none⟩),.slice ta tok.length tc] w fun e w'=> ∃o,pV p tok o/\e= .returned (.string ⟨o.toArray⟩)/\Below w.heap.size w w':=by
 obtain⟨c0,c1,c2,-⟩:=h.cells;obtain⟨ra,rc,aG⟩:=h.rules.at.1;subst aG;have hpb:=h.below;obtain⟨⟨D,a,x⟩,hP⟩:=ady p.T p.N p.R tok;obtain⟨hx,ha,hDl,MI⟩:=U3 hm hP
 have pa:Calls Tryz.prog 67 #[.agg #[.int .i64 p.T,.int .i64 p.N,.slice ra p.R.length rc],.slice ta tok.length tc] w fun e w'=> ∃da dc,e= .returned (.tuple #[.slice da D.length dc,.int .i64 a,.int .i64 x])/\aP w' w'.heap.size (.slice da D.length dc) D/\Below w.heap.size w w':=by
  refine(adx (T:=p.T) (N:=p.N) h.rules.at ht hm).mono fun e w' ⟨dv,D',a',x',h1,h2,h3,h4⟩=> ?_;have:=h3.one hP;simp only[Prod.mk.injEq]at this;obtain⟨rfl,rfl,rfl⟩:=this;obtain⟨da,dc,rfl⟩:=h2.1.1;exact⟨da,dc,h1,h2.1,h4⟩
 have HO:Hid (pV p tok (vT (D,a,x))):=⟨_,hP,rfl⟩;simp only at hx ha hDl MI;have HE:Hid (cB G w/\G<=pb/\pb<w.heap.size/\D.length<=400/\∀x∈D,fQ x):=⟨hE,hG,hpb,hDl,MI⟩
 have HT:Hid (∀(u:List UInt8) (y:Int) wq,u.length<=1000->fQ y->Below w.heap.size w wq->Calls Tryz.prog 24 #[.string ⟨u.toArray⟩,.slice (some ⟨wq.heap.size,0,none⟩) 1 1] (wq.alloc (.cells #[.int .i64 y] 3)) fun e w'=>e= .returned (.string ⟨(dI u [y]).toArray⟩)/\Below wq.heap.size wq w'):=fun u y wq hu hy hq=>
  wH hu (HE.out.1.below hq (by have:=HE.out;omega)) (by have:=hq.size;have:=HE.out;omega) hy
 clear h hE hm ht hP hDl MI;by_cases hx0:x=0
 ·subst hx0
  by_cases ha0:0<=a
  ·have hO:vT (D,a,(0:Int))=dI [97,116] [a]:=by simp[vT,ha0]
   rw[hO]at HO;have d1:decide (0<=a)=true:=decide_eq_true ha0;clear hO
   go_enter Tryz.func38,Tryz.ntmps38
   go_wp2_with
    (first
     |(go_at_call 67;refine pa.mono ?_;rintro e w2 ⟨da,dc,rfl,-,h2⟩
       have td:=HT.out [97,116] a w2 (by simp) ha h2;have H2:Hid (Below w.heap.size w w2):=h2
       clear pa h2)
     |(go_at_call 24;refine td.mono ?_;rintro e w4 ⟨rfl,h4⟩
       have H4:Hid (Below w.heap.size w w4):=H2.out.trans (h4.mono H2.out.size)
       clear td h4))
   go_ret;exact⟨_,HO.out,rfl,H4.out⟩
  ·have hO:vT (D,a,(0:Int))=dI [105,115] D:=by simp[vT,ha0]
   rw[hO]at HO;have d1:decide (0<=a)=false:=decide_eq_false ha0;clear hO
   go_enter Tryz.func38,Tryz.ntmps38
   go_wp2_with
    (first
     |(go_at_call 67;refine pa.mono ?_;rintro e w2 ⟨da,dc,rfl,h3,h2⟩
       have td:=OC (u:=[105,115]) (by simp) (HE.out.1.below h2 (by have:=HE.out;omega)) (by have:=h2.size;have:=HE.out;omega) h3 (by have:=HE.out.2.2.2.1;omega) HE.out.2.2.2.2;have H2:Hid (Below w.heap.size w w2):=h2
       clear pa h2 h3)
     |(go_at_call 24;refine td.mono ?_;rintro e w4 ⟨rfl,h4⟩
       have H4:Hid (Below w.heap.size w w4):=H2.out.trans (h4.mono H2.out.size)
       clear td h4))
   go_ret;exact⟨_,HO.out,rfl,H4.out⟩
 ·have hO:vT (D,a,x)=dI [98,97,100] [x]:=by simp[vT,hx0]
  rw[hO]at HO;have b1:(x==0)=false:=by simpa using hx0
  clear hO hx0
  go_enter Tryz.func38,Tryz.ntmps38
  go_wp2_with
   (first
    |(go_at_call 67;refine pa.mono ?_;rintro e w2 ⟨da,dc,rfl,-,h2⟩
      have td:=HT.out [98,97,100] x w2 (by simp) hx h2;have H2:Hid (Below w.heap.size w w2):=h2
      clear pa h2)
    |(go_at_call 24;refine td.mono ?_;rintro e w4 ⟨rfl,h4⟩
      have H4:Hid (Below w.heap.size w w4):=H2.out.trans (h4.mono H2.out.size)
      clear td h4))
  go_ret;exact⟨_,HO.out,rfl,H4.out⟩
end
def vU(p:bQ)(o:List UInt8):Prop:=(More p.T p.N p.R 150/\o=dI [98,97,100] [1])\/∃K,Whole p.T p.N p.R K/\K<=150/\o=jh [(K:Int),fw (bZ p.T p.N p.R K)]
theorem vU.one{p:bQ}{o o':List UInt8}(h:vU p o)(k:vU p o'):o=o':=by
 rcases h with⟨h1,h2⟩|⟨K,h1,h2,h3⟩<;>rcases k with⟨k1,k2⟩|⟨K',k1,k2,k3⟩
 ·rw[h2,k2]
 ·exact absurd h1 (yN k1 k2)
 ·exact absurd k1 (yN h1 h2)
 ·rw[h3,k3,Et h1 k1]
theorem adC(w:World)(x y:Int):aP (w.alloc (.cells #[.int .i64 x,.int .i64 y] 3)) (w.alloc (.cells #[.int .i64 x,.int .i64 y] 3)).heap.size (.slice (some ⟨w.heap.size,0,none⟩) 2 2) [x,y]:=by
 refine⟨⟨_,_,rfl⟩,fun p hp=> ?_⟩;have hp':p=0\/p=1:=by simp at hp;omega
 rcases hp' with rfl|rfl
 ·exact⟨w.heap.size,0,2,rfl,by simp,ai (heap_alloc_new w _) rfl⟩
 ·exact⟨w.heap.size,0,2,rfl,by simp,ai (heap_alloc_new w _) rfl⟩
theorem U5{T N:Nat}{R:List Ru}{K:Nat}(hm:aD T N R=true)(hK:K<=150):(bZ T N R K).length<=1000/\(∀i,i<(bZ T N R K).length->((bZ T N R K).getD i []).length<=1000)/\∀i k,i<(bZ T N R K).length->k<((bZ T N R K).getD i []).length->(((bZ T N R K).getD i []).getD k (0,[],false)).2.1.length<=1000:=by
 obtain⟨hT,_,_,hR,_⟩:=fV hm;refine⟨by rw[rQ];omega,fun i hi=>by rw[rQ]at hi;rw[vQ hi,Es];omega,fun i k hi hk=> ?_⟩;rw[rQ]at hi;rw[vQ hi,Es]at hk;rw[vQ hi,Mj (by omega)];unfold cellP;simp only[List.length_map];have:=List.length_filter_le (fun n=> @decide (xk T N R (af T N R K).1 (af T N R K).2 i k n) (Classical.propDecidable _)) (List.range R.length);rw[List.length_range]at this;omega
theorem U6{T N:Nat}{R:List Ru}{K:Nat}(hm:aD T N R=true)(hK:K<=150):fQ (fw (bZ T N R K)):=by
 obtain⟨h1,h2,_⟩:=U5 hm hK;have:=Rf h2;rw[rQ]at this;exact⟨by omega,by omega⟩
section
variable{w w':World}{pb B G:Nat}{rv:Value}{p:bQ}
theorem adD(h:aZ w pb B rv p)(hE:cB G w)(hG:G<=pb)(hm:aD p.T p.N p.R=true):Calls Tryz.prog 18 #[.pointer (some ⟨pb,0,none⟩)] w fun e w'=> ∃o,vU p o/\e= .returned (.string ⟨o.toArray⟩)/\Below w.heap.size w w':=by
 obtain⟨c0,c1,c2,-⟩:=h.cells;obtain⟨ra,rc,aG⟩:=h.rules.at.1;subst aG;have hpb:=h.below;have HE:Hid (cB G w/\G<=pb/\pb<w.heap.size):=⟨hE,hG,hpb⟩;have tk:=Uk (T:=p.T) (N:=p.N) h.rules.at hm;by_cases hM:More p.T p.N p.R 150
 ·have EG:Calls Tryz.prog 31 #[.agg #[.int .i64 p.T,.int .i64 p.N,.slice ra p.R.length rc]] w fun e w'=>e= .returned (.tuple #[.agg #[.slice none 0 0,.slice none 0 0],.int .i64 1])/\Below w.heap.size w w':=
   tk.mono fun e w' h=>by
    rcases h with⟨h1,h2,_⟩|⟨K,cv,gv,_,_,h3,h4,_⟩
    ·exact⟨h1,h2⟩
    ·exact absurd hM (yN h3 h4)
  have HO:Hid (vU p (dI [98,97,100] [1])):= .inl ⟨hM,rfl⟩
  have HT:Hid (∀wq,Below w.heap.size w wq->Calls Tryz.prog 24 #[.string ⟨#[98,97,100]⟩,.slice (some ⟨wq.heap.size,0,none⟩) 1 1] (wq.alloc (.cells #[.int .i64 1] 3)) fun e w'=>e= .returned (.string ⟨(dI [98,97,100] [1]).toArray⟩)/\Below wq.heap.size wq w'):=fun wq hq=>
   wH (u:=[98,97,100]) (by simp) (HE.out.1.below hq (by have:=HE.out;omega)) (by have:=hq.size;have:=HE.out;omega) ⟨by omega,by omega⟩
  clear h hE hm tk hM
  go_enter Tryz.func18,Tryz.ntmps18
  go_upto_region 2 with
   (go_at_call 31;refine EG.mono ?_;rintro e w2 ⟨rfl,h2⟩
    clear EG)
  obtain⟨q,hq⟩:∃x,w2.heap.size=x:=⟨_,rfl⟩;obtain⟨W3,hW⟩:∃V,w2.alloc (.cells #[.slice none 0 0,.slice none 0 0] 67)=V:=⟨_,rfl⟩;have h3:Below w.heap.size w W3:=by rw[<-hW];exact h2.alloc h2.size _
  rw[hW];rw[hq];have td:=HT.out W3 h3;have H3:Hid (Below w.heap.size w W3):=h3;clear h2 hq hW h3
  go_wp2_with
   (go_at_call 24;refine td.mono ?_;rintro e w4 ⟨rfl,h4⟩
    have H4:Hid (Below w.heap.size w w4):=H3.out.trans (h4.mono H3.out.size)
    clear td h4)
  go_ret;exact⟨_,HO.out,rfl,H4.out⟩
 ·obtain⟨K,hW,hK⟩:=Ic (by omega) hM
  have EG:Calls Tryz.prog 31 #[.agg #[.int .i64 p.T,.int .i64 p.N,.slice ra p.R.length rc]] w fun e w'=> ∃ca cc gv,e= .returned (.tuple #[.agg #[.slice ca K cc,gv],.int .i64 0])/\Below w.heap.size w w'/\TabAt w' (.slice ca K cc) gv (bZ p.T p.N p.R K) (iP p.T p.N p.R K):=
   tk.mono fun e w' h=>by
    rcases h with⟨_,_,h3⟩|⟨K',cv,gv,h1,h2,h3,h4,h5⟩
    ·exact absurd h3 hM
    ·obtain rfl:=Et hW h3
     obtain⟨ca,cc,hcv⟩:=h5.cells.1;rw[rQ]at hcv;subst hcv;exact⟨ca,cc,gv,h1,h2,h5⟩
  obtain⟨s1,s2,s3⟩:=U5 hm hK;have hcl:=U6 hm hK;obtain⟨cn,hcn⟩:∃x,fw (bZ p.T p.N p.R K)=x:=⟨_,rfl⟩;have HO:Hid (vU p (jh [(K:Int),cn])):= .inr ⟨K,hW,hK,by rw[hcn]⟩
  have HC:Hid (∀wq cv gv,TabAt wq cv gv (bZ p.T p.N p.R K) (iP p.T p.N p.R K)->Calls Tryz.prog 32 #[.agg #[cv,gv]] wq fun e w'=>e= .returned (.int .i64 cn)/\Below wq.heap.size wq w'):=fun wq cv gv ht=>by
   have:=Ul ht s1 s2 s3;rw[hcn]at this;exact this
  rw[hcn]at hcl
  have HT:Hid (∀wq,Below w.heap.size w wq->Calls Tryz.prog 29 #[.slice (some ⟨wq.heap.size,0,none⟩) 2 2] (wq.alloc (.cells #[.int .i64 (K:Int),.int .i64 cn] 3)) fun e w'=>e= .returned (.string ⟨(jh [(K:Int),cn]).toArray⟩)/\Below wq.heap.size wq w'):=fun wq hq=>by
   have hb:Below wq.heap.size wq (wq.alloc (.cells #[.int .i64 (K:Int),.int .i64 cn] 3)):=(Below.refl _ _).alloc (Nat.le_refl _) _;have hG2:G<=wq.heap.size:=by have:=hq.size;have:=HE.out;omega
   exact(Cm ((HE.out.1.below hq (by have:=HE.out;omega)).below hb hG2) (Nat.le_trans hG2 hb.size) (adC wq K cn) (by simp) (fun y hy=>by
    rcases List.mem_cons.1 hy with hy|hy
    ·rw[hy];exact⟨by omega,by omega⟩
    ·rw[List.mem_singleton.1 hy];exact hcl)).mono fun e w' ⟨h1,h2⟩=>⟨h1,hb.trans (h2.mono hb.size)⟩
  clear h hE hm tk hM hW hcn hcl s1 s2 s3
  go_enter Tryz.func18,Tryz.ntmps18
  go_upto_region 2 with
   (go_at_call 31;refine EG.mono ?_;rintro e w2 ⟨ca,cc,gv,rfl,h2,h5⟩
    obtain⟨ga,gc,hgv⟩:=h5.goto.1;subst hgv
    clear EG)
  obtain⟨gn,hgn⟩:∃x,(iP p.T p.N p.R K).length=x:=⟨_,rfl⟩;rw[hgn]at h5;rw[hgn];obtain⟨q,hq⟩:∃x,w2.heap.size=x:=⟨_,rfl⟩;obtain⟨W3,hW⟩:∃V,w2.alloc (.cells #[.slice ca K cc,.slice ga gn gc] 67)=V:=⟨_,rfl⟩;have hb3:Below w2.heap.size w2 W3:=by rw[<-hW];exact(Below.refl _ _).alloc (Nat.le_refl _) _
  have hx3:=heap_alloc_new w2 (.cells #[.slice ca K cc,.slice ga gn gc] 67);rw[hW,hq]at hx3;rw[hW];rw[hq];have h3:=h2.trans (hb3.mono h2.size)
  have HS:Hid (∀wq,Below W3.heap.size W3 wq->(wq.cell? ⟨q,0,none⟩=some (.slice ca K cc)/\wq.cell? ⟨q,1,none⟩=some (.slice ga gn gc))/\Below w.heap.size w wq/\TabAt wq (.slice ca K cc) (.slice ga gn gc) (bZ p.T p.N p.R K) (iP p.T p.N p.R K)):=fun wq hw=>by
   have hy:=(hw.block _ (Array.getElem?_eq_some_iff.1 hx3).1).trans hx3;exact⟨⟨ai hy rfl,ai hy rfl⟩,h3.trans (hw.mono h3.size),(h5.below hb3).below hw⟩
  clear h2 h3 h5 hgn hq hW hb3 hx3
  go_upto_region 4 with fail
  obtain⟨Wd,hWd⟩:∃V,W3.drew=V:=⟨_,rfl⟩;have hBd:Below W3.heap.size W3 Wd:=by rw[<-hWd];exact(Below.refl _ _).drew
  obtain⟨S0,-,rT⟩:=HS.out Wd hBd;have cl:=HC.out Wd _ _ rT;have dH:Hid (Below W3.heap.size W3 Wd):=hBd;clear hBd rT;refine lY [0,1,2,3] 4 7 (fun wq=>wq.cell? ⟨q,0,none⟩=some (.slice ca K cc)/\wq.cell? ⟨q,1,none⟩=some (.slice ga gn gc)) (by kernel_rfl) (by kernel_rfl) (by rw[hWd];exact S0) ?_;rw[hWd];clear hWd S0
  iterate 4
   refine aO.Ac (v:= ?_) rfl (by rfl) ?_ ?_;rotate_left
   ·intro w' hSw
    obtain⟨z0,z1⟩:=hSw
    go_simp
    try with_reducible rfl
   simp only[Act.put,List.setIfInBounds_toArray,List.set_cons_zero,List.set_cons_succ]
  rw[aO];refine ax.one (i:=4) (by kernel_rfl) ⟨_,rfl,fun K' hK'=> ?_⟩
  go_simp
  refine cl.mono ?_;rintro e w4 ⟨rfl,h4⟩;dsimp only;have hb4:=dH.out.trans (h4.mono dH.out.size);have dg:=HT.out w4 (HS.out w4 hb4).2.1;have S5:=HS.out (w4.alloc (.cells #[.int .i64 (K:Int),.int .i64 (cn:Int)] 3)) (hb4.alloc hb4.size _);refine hK'.out _ _ (fun _=>(HS.out w4 hb4).1) ?_;have H4:Hid (Below W3.heap.size W3 w4):=hb4;clear hK' cl h4 hb4;refine ax.one (i:=5) (by kernel_rfl) ⟨_,rfl,fun K' hK'=> ?_⟩
  go_simp
  refine hK'.out _ _ (fun _=>S5.1) ?_;clear hK';refine ax.one (i:=6) (by kernel_rfl) ⟨_,rfl,fun K' hK'=> ?_⟩
  go_simp
  refine dg.mono ?_;rintro e w6 ⟨rfl,h6⟩;dsimp only;have hb6:=H4.out.trans (h6.mono H4.out.size);refine hK'.out _ _ (fun _=>(HS.out w6 hb6).1) ?_;have H6:Hid (Below w.heap.size w w6):=(HS.out w6 hb6).2.1;clear hK' dg h6 hb6 S5;refine ax.last (i:=7) (by kernel_rfl) ⟨_,rfl,fun K' hK'=> ?_⟩
  go_simp
  refine hK'.out _ _ (fun h=>absurd h (by omega)) (NoPanic.normal ?_);clear hK'
  go_wp2_with fail
  go_ret;exact⟨_,HO.out,rfl,H6.out⟩
end
end Go.Proofs.YtblkkhfdeaaidaaGreatDoor
namespace Go.Proofs.YtblkkhfdeaaidaaGreatDoor
def dK(X:List Bool)(l:List Sy):Bool:=l.all fun s=>s.1||X.getD s.2.toNat false
theorem U7(X:List Bool)(l:List Sy)(i:Nat)(h:i<l.length):dK X (l.take (i+1))=(dK X (l.take i)&&((l.getD i (false,0)).1||X.getD (l.getD i (false,0)).2.toNat false)):=by
 unfold dK;rw[List.take_succ_eq_append_getElem h,List.all_append];simp[List.getD,h]
theorem adE(X:List Bool)(l:List Sy)(i:Nat)(h:i<l.length)(hb:((l.getD i (false,0)).1||X.getD (l.getD i (false,0)).2.toNat false)=false):dK X l=false:=by
 unfold dK;rw[List.all_eq_false];refine⟨l[i],List.getElem_mem h,?_⟩;have e:l.getD i (false,0)=l[i]:=by simp[List.getD,h]
 rw[e]at hb;rw[hb];simp
end Go.Proofs.YtblkkhfdeaaidaaGreatDoor
namespace Go.Proofs.YtblkkhfdeaaidaaGreatDoor
open Go.RowKit
def Ir(R:List Ru)(i:Nat)(X:List Bool):List Bool:=if dK X (R.getD i (0,[])).2 then X.set (R.getD i (0,[])).1.toNat true else X
def qJ(R:List Ru)(N:Nat):List Bool:=aK N (fun _=>aK R.length (Ir R)) (List.replicate N false)
def MJ(l:List Sy)(k:Nat)(Y:List Bool):List Bool:=if (l.getD k (false,0)).1 then Y else Y.set (l.getD k (false,0)).2.toNat true
def Iu(R:List Ru)(Mk:List Bool)(i:Nat)(X:List Bool):List Bool:=
 if X.getD (R.getD i (0,[])).1.toNat false&&dK Mk (R.getD i (0,[])).2 then aK (R.getD i (0,[])).2.length (MJ (R.getD i (0,[])).2) X else X
def Iw(R:List Ru)(N:Nat):List Bool:=aK N (fun _=>aK R.length (Iu R (qJ R N))) ((List.replicate N false).set 0 ((qJ R N).getD 0 false))
end Go.Proofs.YtblkkhfdeaaidaaGreatDoor
namespace Go.Proofs.YtblkkhfdeaaidaaGreatDoor
structure Stp where
 op:Int
 a:Int
 b:Int
 c:Int
def vV(r:Ru):Bool:=decide (0<r.2.length)&& !(r.2.getD 0 (false,0)).1&&decide ((r.2.getD 0 (false,0)).2=r.1)
def iY(a:Int)(r:Ru):Bool:=decide (r.1=a)&&vV r
def pW(R:List Ru)(a:Int):Bool:=R.any (iY a)&&R.all fun r=> !(iY a r&&decide (r.2.length=1))
def aX(N:Int)(R:List Ru)(s:Stp):Bool:=
 let r:=R.getD s.a.toNat (0,[])
 let rule:=decide (0<=s.a)&&decide (s.a<(R.length:Int))
 if s.op=1 then decide (1<=s.a)&&decide (s.a<N)&&decide (1<=s.b)&&decide (s.b<N)&&decide (s.c=0)
 else if s.op=2 then rule&&decide (0<=s.b)&&decide (s.b<s.c)&&decide (s.c<=(r.2.length:Int))
 else if s.op=3 then rule&&decide (0<=s.b)&&decide (s.b<(r.2.length:Int))&&decide (s.c=0)&& !(r.2.getD s.b.toNat (false,0)).1&& !decide ((r.2.getD s.b.toNat (false,0)).2=r.1)
 else if s.op=4 then decide (s.b=0)&&decide (s.c=0)&&pW R s.a
 else if s.op=5 then decide (s.a=0)&&decide (s.b=0)&&decide (s.c=0)
 else false
def rU(a b n:Int):Int:=if n=a then b else if n=b then a else n
def zw(a b:Int)(x:Sy):Sy:=if x.1 then x else (false,rU a b x.2)
def qK(N:Nat)(R:List Ru)(r:Ru):Bool:=(qJ R N).getD r.1.toNat false&&(Iw R N).getD r.1.toNat false&&dK (qJ R N) r.2
def U8(b:Nat)(r x:Ru):Ru:=(r.1,r.2.take b++x.2++r.2.drop (b+1))
def BB(N:Nat)(R:List Ru)(s:Stp)(k:Nat):List Ru:=
 let r:=R.getD k (0,[])
 if s.op=1 then [(rU s.a s.b r.1,r.2.map (zw s.a s.b))]
 else if s.op=2 then [if (k:Int)=s.a then (r.1,r.2.take s.b.toNat++(false,(N:Int))::r.2.drop s.c.toNat) else r]
 else if s.op=3 then (if (k:Int)=s.a then (R.filter fun x=>decide (x.1=(r.2.getD s.b.toNat (false,0)).2)).map (U8 s.b.toNat r) else [r])
 else if s.op=4 then [if r.1=s.a then (if vV r then ((N:Int),r.2.drop 1++[(false,(N:Int))]) else (r.1,r.2++[(false,(N:Int))])) else r]
 else if s.op=5 then (if qK N R r then [r] else [])
 else [r]
def xX(N:Nat)(R:List Ru)(s:Stp):List Ru:=
 if s.op=2 then [((N:Int),((R.getD s.a.toNat (0,[])).2.take s.c.toNat).drop s.b.toNat)] else if s.op=4 then [((N:Int),[])] else []
def gy(N:Nat)(R:List Ru)(s:Stp):List Ru:=(List.range R.length).flatMap (BB N R s)++xX N R s
def kT(N:Nat)(s:Stp):Nat:=if s.op=2 then N+1 else if s.op=4 then N+1 else N
end Go.Proofs.YtblkkhfdeaaidaaGreatDoor
namespace Go.Proofs.YtblkkhfdeaaidaaGreatDoor
open Go.RowKit
theorem aO.vW{P:Program}{ops:Array Oper}{S:World->Prop}{K:Act->Prop}{i:Nat}{o:Oper}{l:List Nat}{a:Act}{v:Value}(ho:ops.toList[i]?=some o)(hw:Region.wanted o (yielded ops a.tmps)=true)(hy:∀w,S w->(execOp a.eval o).run P w= .ok (.value v) w)(h:aO P ops S K l (a.put o.dst v)):aO P ops S K (i::l) a:=
 aO.cons (by simpa using ho) hw hy h
def oF(s:Sy):List Value:=[.bool s.1,.int .i64 s.2]
def aR(l:List Sy):List Value:=l.flatMap oF
section
variable{l m:List Sy}
theorem U9(l:List Sy):(aR l).length=l.length*2:=by
 unfold aR
 induction l with
 |nil=>rfl
 |cons a L ih=>rw[List.flatMap_cons,List.length_append,ih];simp[oF];omega
theorem BD{i j:Nat}(hi:i<l.length)(hj:j<2):(aR l)[i*2+j]?=(oF (l.getD i (false,0)))[j]?:=by
 unfold aR
 induction l generalizing i with
 |nil=>simp at hi
 |cons a L ih=>
  rw[List.flatMap_cons];cases i with
  |zero=>rw[List.getElem?_append_left (by simp[oF];omega)];simp
  |succ i=>
   rw[List.getElem?_append_right (by simp[oF];omega)];simp only[oF,List.length_cons,List.length_nil];rw[show (i+1)*2+j-(0+1+1)=i*2+j by omega];have:=ih (i:=i) (by simpa using hi);simpa [List.getD,oF] using this
theorem Va(l m:List Sy):aR (l++m)=aR l++aR m:=by simp[aR]
theorem adF(l:List Sy):∀u∈aR l,u.oneCell'=true:=fun u hu=>by
 unfold aR at hu;obtain⟨x,_,hu⟩:=List.mem_flatMap.1 hu;simp only[oF,List.mem_cons,List.not_mem_nil,or_false]at hu;rcases hu with rfl|rfl<;>rfl
theorem adG{i:Nat}{v:Int}(hi:i<l.length):(aR l).set (i*2+1) (.int .i64 v)=aR (l.set i ((l.getD i (false,0)).1,v)):=by
 unfold aR
 induction l generalizing i with
 |nil=>simp at hi
 |cons a L ih=>
  cases i with
  |zero=>simp[oF]
  |succ i=>
   have:=ih (i:=i) (by simpa using hi);rw[List.flatMap_cons,List.set_cons_succ,List.flatMap_cons,List.set_append_right _ _ (by simp[oF];omega)];simp only[oF,List.length_cons,List.length_nil]at this⊢;rw[show (i+1)*2+1-(0+1+1)=i*2+1 by omega,this];simp[List.getD]
end
def oG(w:World)(A:Nat->Prop)(v:Value)(l:List Sy):Prop:=
 (∃a c,v= .slice a l.length c/\l.length<=c)/\∀j,j<l.length->∃b o c,v= .slice (some ⟨b,o,none⟩) l.length c/\A b/\b<w.heap.size/\w.cell? ⟨b,o+j*2,none⟩=some (.bool (l.getD j (false,0)).1)/\w.cell? ⟨b,o+j*2+1,none⟩=some (.int .i64 (l.getD j (false,0)).2)
section
variable{w w':World}{A A':Nat->Prop}{v:Value}{l:List Sy}
theorem oG.kept(h:oG w A v l)(hs:w.heap.size<=w'.heap.size)(hb:∀b,A b->b<w.heap.size->w'.heap[b]?=w.heap[b]?/\A' b):oG w' A' v l:=
 ⟨h.1,fun j hj=>let ⟨b,o,c,h1,h2,h3,h4,h5⟩:=h.2 j hj
   ⟨b,o,c,h1,(hb b h2 h3).2,by omega,(World.cell?_of_block (w:=w) (hb b h2 h3).1).trans h4,(World.cell?_of_block (w:=w) (hb b h2 h3).1).trans h5⟩⟩
theorem oG.below(h:oG w A v l)(hb:Below w.heap.size w w'):oG w' A v l:=h.kept hb.size fun b hA hlt=>⟨hb.block b hlt,hA⟩
theorem BF{base:Nat}(h:w.ownsRow base 116 2 v l.length (aR l)):oG w (fun b=>v.ownBlock=some b/\base<=b) v l:=by
 have hh:=h;obtain⟨_,⟨hv,h0⟩|⟨g,cap,cur,e,hb,_,hle,_⟩⟩:=hh
 ·exact⟨⟨none,0,by rw[hv,h0],by omega⟩,fun j hj=>by omega⟩
 ·subst e
  refine⟨⟨_,_,rfl,hle⟩,fun j hj=>⟨g,0,cap,rfl,⟨rfl,hb⟩,(h.lt g rfl).2,?_,?_⟩⟩
  ·rw[Nat.zero_add,h.cellAt (j*2) (by omega)]
   exact BD (j:=0) hj (by omega)
  ·rw[Nat.zero_add,h.cellAt (j*2+1) (by omega)]
   exact BD (j:=1) hj (by omega)
theorem bG.news(h:bG w v l)(hl:0<l.length):∃ad c,v= .slice (some ad) l.length c/\∀j u,(aR l)[j]?=some u->w.cell? (ad.add j)=some u:=by
 obtain⟨b,o,c,h1,_,_⟩:=h.2 0 hl;refine⟨⟨b,o,none⟩,c,h1,fun j u hu=> ?_⟩;have hj:=(List.getElem?_eq_some_iff.1 hu).1;rw[U9]at hj;obtain⟨b',o',c',h2,h3,h4⟩:=h.2 (j/2) (by omega);rw[h1]at h2;cases h2;rw[Addr.add_lit];rcases Nat.mod_two_eq_zero_or_one j with h5|h5
 ·have e:j=j/2*2+0:=by omega
  rw[e,BD (by omega) (by omega)]at hu;simp only[oF,List.getElem?_cons_zero,Option.some.injEq]at hu;rw[<-hu,<-h3,e]
  congr 3
  omega
 ·have e:j=j/2*2+1:=by omega
  rw[e,BD (by omega) (by omega)]at hu;simp only[oF,List.getElem?_cons_succ,List.getElem?_cons_zero,Option.some.injEq]at hu;rw[<-hu,<-h4]
  congr 2
  omega
end
theorem MK{la:Option Addr}{f n sl lc:Nat}{fi:Int}(hf:fi=f)(hs:sl=f+n):∃A,(∀w:World,Sem.run Tryz.prog (Instr.sliceAt 89 (.slice la sl lc) (some (.int .i64 fi)) none none) w= .ok (.slice A n (lc-f)) w)/\(lc≠f->A=la.map (·.add (f*2))):=by
 subst hf;have h0:(0:Int)<=(f:Int):=Int.natCast_nonneg _;have h1:(f:Int)<=(sl:Int):=by omega
 have h2:sl-f=n:=by omega
 refine⟨if lc=f then la else la.map (·.add (f*2)),fun w=> ?_,fun h=>by rw[if_neg h]⟩
 go_simp
 intro h;omega
def eO(w:World)(v:Value)(m:Nat)(ys:List Value):Prop:=
 (∃a c,v= .slice a m c/\m<=c)/\ys.length=m*2/\(∀u∈ys,u.oneCell'=true)/\(0<m->∃ad c,v= .slice (some ad) m c/\∀j u,ys[j]?=some u->w.cell? (ad.add j)=some u)
section
variable{w w':World}{v:Value}{m:Nat}{ys:List Value}
theorem eO.below(h:eO w v m ys){B:Nat}(hB:w.heap.size<=B)(hb:Below B w w'):eO w' v m ys:=by
 refine⟨h.1,h.2.1,h.2.2.1,fun hm=> ?_⟩;obtain⟨ad,c,e,hc⟩:=h.2.2.2 hm;refine⟨ad,c,e,fun j u hu=> ?_⟩;have h1:=hc j u hu;have h2:=World.block_lt_of_cell? _ _ h1;exact(hb.cell (by omega)).trans h1
theorem bG.row{l:List Sy}(h:bG w v l):eO w v l.length (aR l):=⟨h.1,U9 l,adF l,fun hm=>h.news hm⟩
end
abbrev Part:=Value×Nat×List Value
def dm(PL:List Part):Nat:=(PL.map fun p=>p.2.1).sum
def kC(PL:List Part):List Value:=PL.flatMap fun p=>p.2.2
theorem Iz{PL:List Part}{k:Nat}(hk:k<PL.length):dm (PL.take (k+1))=dm (PL.take k)+PL[k].2.1:=by
 unfold dm;rw[List.take_succ_eq_append_getElem hk,List.map_append,List.sum_append];simp
theorem Vb{PL:List Part}{k:Nat}(hk:k<PL.length):kC (PL.take (k+1))=kC (PL.take k)++PL[k].2.2:=by
 unfold kC;rw[List.take_succ_eq_append_getElem hk,List.flatMap_append];simp
theorem IA(PL:List Part)(k:Nat):dm (PL.take k)<=dm PL:=by
 have e:dm PL=dm (PL.take k)+dm (PL.drop k):=by
  unfold dm;rw[<-List.sum_append,<-List.map_append,List.take_append_drop]
 omega
theorem Tryz.infoCcR:(Tryz.prog.info? 91).map (fun i=>(i.zero,i.size,i.bytes))=some (some (.agg #[.int .i64 0,.slice none 0 0]),2,32):=by kernel_rfl
theorem adH{w:World}{oa sa:Option Addr}{n d c:Nat}(hn:n<=d)(h0:oa=none->n=0/\d=0):(Builtin.append_ #[ 24,24 ] 24 #[.slice oa n d,.slice sa 0 c]).run Tryz.prog w= .ok (.slice oa n d) w:=by
 cases oa with
 |none=>
  obtain⟨rfl,rfl⟩:=h0 rfl;cases sa<;>go_simp
 |some o=>cases sa<;>go_simp
theorem Vd{w:World}{B:Nat}{ov lv:Value}{n m:Nat}{xs ys:List Value}(ho:w.ownsRow B 91 2 ov n xs)(hl:eO w lv m ys)(hb:B<=w.heap.size)(hs:n+m<=100000):
 ∃a d w',(Builtin.append_ #[ 24,24 ] 24 #[ov,lv]).run Tryz.prog w= .ok (.slice a (n+m) d) w'/\w'.ownsRow B 91 2 (.slice a (n+m) d) (n+m) (xs++ys)/\w.grownBy w' ov.ownBlock/\∀g,(Value.slice a (n+m) d).ownBlock=some g->ov.ownBlock=some g\/g=w.heap.size:=by
 obtain⟨oa,od,hov⟩:=bK ho;obtain⟨⟨la,lc,hlv,_⟩,hlen,hone,hcell⟩:=hl;rcases Nat.eq_zero_or_pos m with h0|h0
 ·subst h0
  have he:ys=[]:=List.eq_nil_of_length_eq_zero (by omega);subst he;rw[hov,hlv]
  have hnd:n<=od/\(oa=none->n=0/\od=0):=by
   obtain⟨_,⟨hx,hz⟩|⟨_,_,_,hx,_,_,h5,_⟩⟩:=ho
   ·rw[hov]at hx
    injection hx with x1 x2 x3;exact⟨by omega,fun _=>⟨by omega,by omega⟩⟩
   ·rw[hov]at hx
    injection hx with x1 x2 x3;exact⟨by omega,fun e=>by rw[e]at x1;cases x1⟩
  refine⟨oa,od,w,adH hnd.1 hnd.2,?_,⟨rfl,rfl,rfl,Nat.le_refl _,fun _ _ _=>rfl⟩,fun g hg=> .inl hg⟩;rw[hov]at ho;simpa using ho
 ·obtain⟨ad,c,he,hnews⟩:=hcell h0
  obtain⟨i1,hi1,hy0,hy1,hy2⟩:=info_parts Tryz.infoCcR;obtain⟨g',cap',w',hr,h2,h3,h4,_⟩:=run_append_lies (P:=Tryz.prog) w 24 24 B 91 i1 _ 2 32 Tryz.underlying24 hi1 hy0 hy1 hy2 rfl (by omega) ov n xs ho ad m c ys hlen hnews hone h0 (by simp only[maxLen];omega) (by omega) hb w.heap.size rfl;rw[he];refine⟨_,_,w',hr,h2,h3,fun q hq=> ?_⟩;simp only[Value.ownBlock,Option.some.injEq]at hq;subst hq;exact h4
theorem EH{w:World}{ops:Array Oper}{rest:List Oper}{o:Oper}{a:Act}{Q:Exit->Act->World->Prop}(hgd:o.guard=none)(s x:Operand)(ho':o.op= .call { callee:= .builtin .append,args:= #[s,x],argTypes:= #[ 24,24 ] })(hty:o.type=24)
 {B n m:Nat} {xs ys:List Value} {ov lv:Value} (hsv:a.eval s=ov) (hxv:a.eval x=lv) (ho:w.ownsRow B 91 2 ov n xs) (hl:eO w lv m ys) (hb:B<=w.heap.size) (hs:n+m<=100000)
 (h:∀a' d' w',w'.ownsRow B 91 2 (.slice a' (n+m) d') (n+m) (xs++ys)->w.grownBy w' ov.ownBlock->(∀g,(Value.slice a' (n+m) d').ownBlock=some g->ov.ownBlock=some g\/g=w.heap.size)->wpList Tryz.prog ops Q rest (a.put o.dst (.slice a' (n+m) d')) w'):wpList Tryz.prog ops Q (o::rest) a w:=by
 obtain⟨a',d',w',hr,h1,h2,h3⟩:=Vd ho hl hb hs;refine wpList_plain hgd fun K hK=> ?_;unfold Oper.wp execOp;simp only[ho',hty,resolve,invoke,builtin,Sem.run_bind,Sem.run_pure,Result.andThen_ok,List.map_toArray,List.map_cons,List.map_nil,hsv,hxv,hr];exact hK _ _ (h a' d' w' h1 h2 h3)
theorem Ve{w:World}{ops:Array Oper}{o:Oper}{a:Act}{K:Act->World->Prop}{Q:Exit->Act->World->Prop}{E:Prop}(hgd:o.guard=none)(s x:Operand)(ho':o.op= .call { callee:= .builtin .append,args:= #[s,x],argTypes:= #[ 24,24 ] })(hty:o.type=24)
 {B n m:Nat} {xs ys:List Value} {ov lv:Value} (hsv:a.eval s=ov) (hxv:a.eval x=lv) (ho:w.ownsRow B 91 2 ov n xs) (hl:eO w lv m ys) (hb:B<=w.heap.size) (hs:n+m<=100000)
 (h:∀a' d' w',w'.ownsRow B 91 2 (.slice a' (n+m) d') (n+m) (xs++ys)->w.grownBy w' ov.ownBlock->(∀g,(Value.slice a' (n+m) d').ownBlock=some g->ov.ownBlock=some g\/g=w.heap.size)->K (a.put o.dst (.slice a' (n+m) d')) w'):if Region.wanted o (yielded ops a.tmps)=true then Oper.wp Tryz.prog o a w K Q else E:=by
 obtain⟨a',d',w',hr,h1,h2,h3⟩:=Vd ho hl hb hs;have hw:Region.wanted o (yielded ops a.tmps)=true:=by simp[Region.wanted,hgd]
 rw[if_pos hw];unfold Oper.wp execOp;simp only[ho',hty,resolve,invoke,builtin,Sem.run_bind,Sem.run_pure,Result.andThen_ok,List.map_toArray,List.map_cons,List.map_nil,hsv,hxv,hr];exact h a' d' w' h1 h2 h3
theorem adI{w:World}{n:Nat}(hn:n<=100000):
 Calls Tryz.prog 239 #[.slice none 0 0,.int .i64 n] w fun e w'=> ∃v,e= .returned v/\w'.ownsRow w.heap.size 91 2 v 0 []/\Below w.heap.size w w':=by
 have i0:(0:Int)<=(n:Int):=Int.natCast_nonneg _;rcases Nat.eq_zero_or_pos n with h0|h0
 ·subst h0
  go_enter Tryz.func239,Tryz.ntmps239
  go_wp2_with fail
  go_ret;exact⟨_,rfl,World.ownsRow_nil _ _ _ _,Below.refl _ _⟩
 ·obtain⟨i1,hi1,hy0,hy1,hy2⟩:=info_parts Tryz.infoCcR
  have hi:(0:Int)<(n:Int):=by omega
  have hr:=Lib.run_append_nil_zeros (P:=Tryz.prog) w 24 3 24 91 i1 (.agg #[.int .i64 0,.slice none 0 0]) .i64 .i64 Tryz.underlying24 Tryz.underlying3 hi1 hy0 n h0 (by rw[hy1];omega) (by omega) (by rw[hy2];omega);have hge:=grownCap_ge w n 0 91;have hle:=grownCap_le_maxLen w n 0 91 (by unfold maxLen;omega);obtain⟨C,hC⟩:∃C,grownCap w n 0 91=C:=⟨_,rfl⟩;rw[hC]at hr hge hle;clear hC;obtain⟨cur,hcur⟩:∃cur,Builtin.zeroCells (.agg #[.int .i64 0,.slice none 0 0]:Value).cells n++Builtin.zeroCells (.agg #[.int .i64 0,.slice none 0 0]:Value).cells (C-n)=cur:=⟨_,rfl⟩
  have hcs:cur.size=C*2:=by
   rw[<-hcur,Array.size_append,size_zeroCells,size_zeroCells];have:(.agg #[.int .i64 0,.slice none 0 0]:Value).cells.size=2:=rfl;rw[this];omega
  rw[hcur]at hr;clear hcur;have hup:∀w0 w,Sem.run Tryz.prog (Instr.sliceAt 24 (.slice (some ⟨w0,0,none⟩) n C) none (some (.int .i64 0)) none) w= .ok (.slice (some ⟨w0,0,none⟩) 0 C) w:=fun w0 w=>by go_simp
  go_enter Tryz.func239,Tryz.ntmps239
  go_wp2_with (at_builtin;refine Lib.wpList_append_run _ rfl _ _ _ _ rfl _ _ rfl rfl _ _ hr ?_)
  go_ret;exact⟨_,rfl,⟨rfl,.inr ⟨w.heap.size,C,cur,rfl,Nat.le_refl _,heap_alloc_new _ _,Nat.zero_le _,hle,hcs,rfl⟩⟩,(Below.refl _ _).drew.alloc (Nat.le_refl _) _⟩
theorem adJ{w:World}{pb:Nat}{PL:List Part}(hp:∀i (hi:i<PL.length),w.cell? ⟨pb,i,none⟩=some PL[i].1)(hr:∀p∈PL,eO w p.1 p.2.1 p.2.2)(hs:dm PL<=100000)(hl:PL.length<=1000):
 Calls Tryz.prog 238 #[.slice (some ⟨pb,0,none⟩) PL.length PL.length] w fun e w'=> ∃a d,e= .returned (.slice a (dm PL) d)/\w'.ownsRow w.heap.size 91 2 (.slice a (dm PL) d) (dm PL) (kC PL)/\Below w.heap.size w w':=by
 have HP:Hid (∀i (hi:i<PL.length),w.cell? ⟨pb,i,none⟩=some PL[i].1):=hp;have HR:Hid (∀p∈PL,eO w p.1 p.2.1 p.2.2):=hr;have HS:Hid (dm PL<=100000):=hs;clear hp hr
 go_enter Tryz.func238,Tryz.ntmps238
 go_wp2_with fail
 go_loop [3,11] (fun s3 s11=> ∃k:Nat,s3= .int .i64 (dm (PL.take k))/\s11= .int .i64 k/\k<=PL.length) (fun _ s=>PL.length-(intOf s).toNat)
 case atStart=>exact⟨0,rfl,rfl,Nat.zero_le _⟩
 case round=>
  obtain⟨k,rfl,rfl,hk⟩:=hrel;by_cases hlt:k<PL.length
  ·have c1:=HP.out k hlt
   obtain⟨⟨a,c,hv,_⟩,_⟩:=HR.out PL[k] (List.getElem_mem hlt);have ht:=Iz hlt;have hle:=IA PL (k+1);obtain⟨m,hm⟩:∃m,PL[k].2.1=m:=⟨_,rfl⟩;rw[hm]at hv ht;rw[hv]at c1;obtain⟨t,h0⟩:∃t,dm (PL.take k)=t:=⟨_,rfl⟩;rw[h0]at ht⊢;have HT:Hid (dm (PL.take (k+1))=t+m):=ht;have i0:(0:Int)<=(k:Int):=Int.natCast_nonneg _;have i1:(k:Int)<(PL.length:Int):=by omega
   have i2:IntKind.i64.wrap ((t:Int)+(m:Int))=(t:Int)+(m:Int):=IntWalk.i64_in _ (by omega);have i3:decide ((t:Int)+(m:Int)<0)=false:=decide_eq_false (by omega);clear hm hv ht h0 hle
   go_wp2_with fail
   go_round
   case rel=>exact⟨k+1,by rw[HT.out];push_cast;rfl,by go_num,by omega⟩
   case measure=>simp[intOf];omega
  ·have hkk:k=PL.length:=by omega
   subst hkk;rw[List.take_length];obtain⟨t,h0⟩:∃t,dm PL=t:=⟨_,rfl⟩;have gr:=adI (w:=w) (n:=t) (by omega);rw[h0];have HT:Hid (dm PL=t):=h0;clear h0 hs
   go_wp2_with (go_at_call 239;refine gr.mono ?_;rintro e w1 ⟨v,rfl,hown,hB⟩;clear gr)
   go_loopw [6,27] (fun s6 D8 wr=> ∃(k:Nat) (ov:Value),ov=s6/\D8= .int .i64 k/\k<=PL.length/\wr.ownsRow w.heap.size 91 2 ov (dm (PL.take k)) (kC (PL.take k))/\Below w.heap.size w wr) (fun _ s _=>PL.length-(intOf s).toNat)
   case atStart=>exact⟨0,_,rfl,rfl,Nat.zero_le _,hown,hB⟩
   case round=>
    obtain⟨k,ov,rfl,rfl,hk,hO,hB1⟩:=hrel;clear hown hB;have HB:Hid (Below w.heap.size w wr):=hB1;by_cases hlt:k<PL.length
    ·have hrow:=(HR.out PL[k] (List.getElem_mem hlt)).below (Nat.le_refl _) hB1
     have c1:=(hB1.cell (World.block_lt_of_cell? _ _ (HP.out k hlt))).trans (HP.out k hlt);have ht:=Iz hlt;have hx:=Vb hlt;have hle:=IA PL (k+1);rw[HT.out]at hle;have hT:=HS.out;rw[HT.out]at hT;obtain⟨⟨pv,m,ys⟩,hm⟩:∃p,PL[k]=p:=⟨_,rfl⟩;rw[hm]at hrow c1 ht hx;simp only at hrow c1 ht hx;obtain⟨a,c,hv,_⟩:=hrow.1;subst hv;obtain⟨q,h0⟩:∃q,dm (PL.take k)=q:=⟨_,rfl⟩;obtain⟨xs,h1⟩:∃xs,kC (PL.take k)=xs:=⟨_,rfl⟩;rw[h0,h1]at hO;rw[h0]at ht;rw[h1]at hx;have HX:Hid (dm (PL.take (k+1))=q+m/\kC (PL.take (k+1))=xs++ys):=⟨ht,hx⟩;have hqm:q+m<=100000:=by omega
     have hbs:=hB1.size;have i0:(0:Int)<=(k:Int):=Int.natCast_nonneg _;have i1:(k:Int)<(PL.length:Int):=by omega
     clear hm ht hx hle hT h0 h1 hB1
     go_wp2_with
      (at_builtin
       refine EH rfl _ _ rfl rfl rfl rfl hO hrow hbs hqm ?_
       intro a' d' w' hown' hgrow hat)
     go_roundw
     case rel=>exact⟨k+1,_,rfl,by go_num,by omega,by rw[HX.out.1,HX.out.2];exact hown',HB.out.grown hgrow HB.out.size fun g hg=>((hO.lt g hg).1)⟩
     case measure=>simp[intOf];omega
    ·have hkk:k=PL.length:=by omega
     subst hkk;rw[List.take_length,HT.out]at hO;obtain⟨a,c,hv⟩:=bK hO;subst hv
     go_wp2_with fail
     go_ret;rw[HT.out];exact⟨a,c,rfl,hO,HB.out⟩
end Go.Proofs.YtblkkhfdeaaidaaGreatDoor
