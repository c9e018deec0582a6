import Derived.Test.YtpkmpkphfflpjaaGreatTkBehAndTkLk
import Derived.Shelf.SlSortCmp.WholeK
import Derived.Shelf.SlGeneric
import Derived.Ground.SlsfProg
set_option maxHeartbeats 6400000
set_option maxRecDepth 100000
namespace Go.Proofs.YtpkmpkphfflpjaaGreat
open Go.RowKit
theorem Ju{α:Type}{L:List α}{j:Nat}{d:α}(h:j<L.length):L.getD j d=L[j]:=by simp[List.getD,h]
def oJ(OL:List (List It))(k:Nat):List bf:=(List.range k).flatMap fun k=>(OL.getD k []).map fun i=>(k,i)
theorem UU(OL:List (List It))(k:Nat):oJ OL (k+1)=oJ OL k++(OL.getD k []).map fun i=>(k,i):=by
 unfold oJ;rw[List.range_succ,List.flatMap_append];simp
theorem acT{OL:List (List It)}{n:Nat}(h:∀k,k<OL.length->(OL.getD k []).length<=n):∀k,k<=OL.length->(oJ OL k).length<=k*n:=by
 intro k
 induction k with
 |zero=>intro _;simp[oJ]
 |succ k ih=>
  intro hk;rw[UU,List.length_append,List.length_map,Nat.add_mul];have:=ih (by omega);have:=h k (by omega);omega
theorem acU(OL:List (List It))(T:Nat):(zC OL T).length=(wh OL).length*(T+1):=by
 unfold zC
 have:∀L:List bf,(L.flatMap fun s=>(List.range (T+1)).map fun t=>(s,t)).length=L.length*(T+1):=by
  intro L
  induction L with
  |nil=>simp
  |cons a L ih=>rw[List.flatMap_cons,List.length_append,ih];simp[Nat.add_mul];omega
 exact this _
theorem acV{T:Nat}(hT:T<=8){n:Nat}(h:∀t,n.testBit t=true->t<=T):n<512:=
 Nat.lt_pow_two_of_testBit (n:=9) _ fun i hi=>by
  cases hb:n.testBit i with
  |false=>rfl
  |true=>have:=h i hb;omega
section
variable{w0 w:World}{d:fD}{v:dF}{G:Wy->Option Value}{ng:Nat}{st:LS}
theorem aA.acW(h:aA w0 w d v G ng st){s:bf}{w':World}{oa:Option Addr}{oc g cap:Nat}(hv:v.ov= .slice oa st.O.length oc)(hown:w'.ownsRow w0.heap.size 137 3 (.slice (some ⟨g,0,none⟩) (st.O.length+1) cap) (st.O.length+1) (st.O.flatMap l5++l5 s))(hg:w.grownBy w' (Value.slice oa st.O.length oc).ownBlock)
 (hat:(Value.slice oa st.O.length oc).ownBlock=some g\/g=w.heap.size):
 aA w0 (w'.setCell ⟨d.ma,9,none⟩ (.slice (some ⟨g,0,none⟩) (st.O.length+1) cap)) d { v with ov:= .slice (some ⟨g,0,none⟩) (st.O.length+1) cap } G ng { st with O:=st.O++[s] }/\aQ d v { v with ov:= .slice (some ⟨g,0,none⟩) (st.O.length+1) cap } w (w'.setCell ⟨d.ma,9,none⟩ (.slice (some ⟨g,0,none⟩) (st.O.length+1) cap)):=
 h.NC (O':=st.O++[s]) (by rw[hv];exact hg) (by simpa [List.flatMap_append] using hown) (fun g' hg'=>by
  obtain rfl:g=g':=by simpa [Value.ownBlock] using hg'
  rw[hv]
  exact hat)
end
theorem acX{w0 w:World}{d:fD}{v:dF}{NL:List (List Int)}{Ls:List aX}{R:List Ru}{Nu:List Bool}{Fi:List (List Bool)}{ng:Nat}{st:LS}{k a b:Nat}(E:jQ w0 d R Nu Fi)(h:aA w0 w d v (bF d.T NL) ng st)(p:Jl d.T d.N R v.OL NL Ls st k a b ng):
 Calls Tryz.prog 61 #[.pointer (some ⟨d.ma,0,none⟩),.agg #[.int .i64 k,.int .i64 a,.int .i64 b]] w fun r w'=>r= .returned (.tuple #[])/\∃bI,aA w0 w' d { v with ov:=bI } (bF d.T NL) ng (pJ d.T R NL Nu Fi (k,(a,b)) st)/\aQ d v { v with ov:=bI } w w':=by
 cases hn:(aJ R a)[b]? with
 |none=>
  have e:pJ d.T R NL Nu Fi (k,(a,b)) st=st:=by unfold pJ rM;simp only;rw[hn];rfl
  rw[e];exact(acP E h p hn).mono fun r w' ⟨h1,h2,h3⟩=>⟨h1,v.ov,h2,h3⟩
 |some s=>exact acQ E h p hn
structure Fj(T N:Nat)(R:List Ru)(OL:List (List It))(NL:List (List Int))(Ls:List aX)(Nu:List Bool)(Fi:List (List Bool))(st:LS):Prop where
 inv:oF T R OL NL Ls Nu Fi st
 none:st.O=[]
 zero:(st.lk (0,(R.length,0))).testBit T=true
 c:st.c<=10000000
 lk:∀s,st.lk s<512
theorem acY{w0 w:World}{d:fD}{v:dF}{NL:List (List Int)}{Ls:List aX}{R:List Ru}{Nu:List Bool}{Fi:List (List Bool)}{ng:Nat}(E:jQ w0 d R Nu Fi)(h:aA w0 w d v (bF d.T NL) ng ⟨fun _=>0,[],0⟩)(A:kG d.T d.N R v.OL NL Ls)(few:v.OL.length<=150)(pQ:ng<=10000000):
 Calls Tryz.prog 33 #[.pointer (some ⟨d.ma,0,none⟩)] w fun r w'=>r= .returned (.tuple #[])/\∃bI st',aA w0 w' d { v with ov:=bI } (bF d.T NL) ng st'/\Fj d.T d.N R v.OL NL Ls Nu Fi st'/\aQ d v { v with ov:=bI } w w':=by
 have hlen:∀k,k<v.OL.length->(v.OL.getD k []).length<=369:=fun k hk=>by
  have:=I6 E.zG (A.lD.iZ k hk).ny (A.lD.ok k hk);have:=E.hR;omega
 have HLen:Hid (∀k,k<v.OL.length->(v.OL.getD k []).length<=369):=hlen;have hsp:=acT hlen;have NT:Hid (∀k,k<=v.OL.length->(oJ v.OL k).length<=k*369):=hsp;have HE:Hid (jQ w0 d R Nu Fi):=E;have HA:Hid (kG d.T d.N R v.OL NL Ls):=A;have HM:Hid (aA w0 w d v (bF d.T NL) ng ⟨fun _=>0,[],0⟩):=h;have c6:=(h.cell (i:=6) rfl (by omega)).1;obtain⟨sa,sc,hsv⟩:=h.states;rw[hsv]at c6;have zL:Hid (v.sv= .slice sa v.OL.length sc):=hsv;clear E A h hlen hsp hsv
 go_enter Tryz.func33,Tryz.ntmps33
 go_wp2_with fail
 clear c6
 go_loopw [13] (fun s13 wr=> ∃(k:Nat) (ov:Value),s13= .int .i64 k/\k<=v.OL.length/\aA w0 wr d { v with ov:=ov } (bF d.T NL) ng ⟨fun _=>0,oJ v.OL k,0⟩/\aQ d v { v with ov:=ov } w wr) (fun s _=>v.OL.length-(intOf s).toNat)
 case atStart=>exact⟨0,v.ov,rfl,Nat.zero_le _,HM.out,aQ.refl _ _ _⟩
 case round=>
  obtain⟨k,ov,rfl,hk,hM,hG⟩:=hrel;have sJ:Hid (aA w0 wr d { v with ov:=ov } (bF d.T NL) ng ⟨fun _=>0,oJ v.OL k,0⟩):=hM;have og:Hid (aQ d v { v with ov:=ov } w wr):=hG;by_cases hlt:k<v.OL.length
  ·obtain⟨g,c,hv,_,q0⟩:=hM.state (k:=k) hlt
   rw[show ({ v with ov:=ov }:dF).sv=v.sv from rfl,zL.out]at hv;simp only at hv q0;cases hv;obtain⟨⟨ia,ic,hiv⟩,_⟩:=hM.items (k:=k) hlt;simp only at hiv;rw[hiv]at q0;have Fp:Hid (v.IV k= .slice ia (v.OL.getD k []).length ic):=hiv;have hl3:=HLen.out k hlt;have hsk:=NT.out k hk;obtain⟨n,hn⟩:∃n,(v.OL.getD k []).length=n:=⟨_,rfl⟩;rw[hn]at q0 Fp hl3;have HN:Hid ((v.OL.getD k []).length=n):=hn;have i0:(0:Int)<=(k:Int):=Int.natCast_nonneg _;have i1:(k:Int)<(v.OL.length:Int):=by omega
   clear hM hG hiv hn
   go_wp2_with fail
   clear q0
   go_loopw [20] (fun s20 wq=> ∃(j:Nat) (ov:Value),s20= .int .i64 j/\j<=n/\aA w0 wq d { v with ov:=ov } (bF d.T NL) ng ⟨fun _=>0,oJ v.OL k++((v.OL.getD k []).take j).map (fun i=>(k,i)),0⟩/\aQ d v { v with ov:=ov } w wq) (fun s _=>n-(intOf s).toNat)
   case atStart=>exact⟨0,ov,rfl,Nat.zero_le _,by simpa using sJ.out,og.out⟩
   case round=>
    clear sJ og;obtain⟨j,ov,rfl,hj,hM,hG⟩:=hrel;have og:Hid (aQ d v { v with ov:=ov } w wr):=hG;have sJ:Hid (aA w0 wr d { v with ov:=ov } (bF d.T NL) ng ⟨fun _=>0,oJ v.OL k++((v.OL.getD k []).take j).map (fun i=>(k,i)),0⟩):=hM;by_cases hjl:j<n
    ·obtain⟨g',o',c',tJ,_,q0,q1⟩:=(hM.items (k:=k) hlt).2 j (by rw[show ({ v with ov:=ov }:dF).OL=v.OL from rfl,HN.out];exact hjl)
     simp only at tJ q0 q1;rw[Fp.out,HN.out]at tJ;cases tJ;rw[<-Nat.add_assoc]at q1
     have zM:(oJ v.OL k++((v.OL.getD k []).take j).map (fun i=>(k,i))).length<=100000:=by
      rw[List.length_append,List.length_map,List.length_take];have:=few;have:k*369<=150*369:=Nat.mul_le_mul_right _ (by omega);omega
     obtain⟨it,hit⟩:∃it,(v.OL.getD k []).getD j (0,0)=it:=⟨_,rfl⟩;rw[hit]at q0 q1
     have HT:Hid (((v.OL.getD k []).take (j+1)).map (fun i=>(k,i))=((v.OL.getD k []).take j).map (fun i=>(k,i))++[(k,it)]):=by
      show ((v.OL.getD k []).take (j+1)).map _=_;have hj2:j<(v.OL.getD k []).length:=by rw[HN.out];exact hjl
      have e:(v.OL.getD k [])[j]=it:=by rw[<-hit];exact(Ju hj2).symm
      rw[List.take_succ_eq_append_getElem hj2,List.map_append,e];rfl
     obtain⟨P,hP⟩:∃P,oJ v.OL k++((v.OL.getD k []).take j).map (fun i=>(k,i))=P:=⟨_,rfl⟩;have HP:Hid (oJ v.OL k++((v.OL.getD k []).take j).map (fun i=>(k,i))=P):=hP;rw[hP]at hM zM;obtain⟨a,b⟩:=it;simp only at q0 q1;have hM1:=hM.alloc (.cells #[.int .i64 a,.int .i64 b] 130);have hX1:=hM.box #[.int .i64 a,.int .i64 b] 130;obtain⟨W1,hW1⟩:∃W1,wr.alloc (.cells #[.int .i64 a,.int .i64 b] 130)=W1:=⟨_,rfl⟩;rw[hW1]at hM1 hX1;have x0:=hX1.cell (i:=0) rfl;have x1:=hX1.cell (i:=1) rfl;have i2:(0:Int)<=(j:Int):=Int.natCast_nonneg _;have i3:(j:Int)<(n:Int):=by omega
     obtain⟨oa,oc,hov⟩:=hM1.own.slice (i:= .op) rfl;have zI:ov= .slice oa P.length oc:=hov;subst zI;have h4:=hM1.alloc (.cells #[.int .i64 k,.int .i64 a,.int .i64 b] 137);have e9:=(hM1.cell (i:=9) rfl (by omega)).1;have f9:=(h4.cell (i:=9) rfl (by omega)).1;have d9:((W1.alloc (.cells #[.int .i64 k,.int .i64 a,.int .i64 b] 137)).drew).ownsRow w0.heap.size 137 3 (.slice oa P.length oc) P.length (P.flatMap l5):=h4.own.own .op _ rfl;have hma:d.ma<W1.heap.size:=hM1.BL;have hne:some d.ma≠(Value.slice oa P.length oc).ownBlock:=fun e1=>h4.own.apart .ma .op _ _ (by simp) rfl rfl d.ma rfl e1.symm;have NK:=(h4.cell (i:=9) rfl (by omega)).2;have hn1:P.length+1<=maxLen:=by unfold maxLen;omega
     have hn2:(P.length+1)*24<=140737488355328:=by omega
     have hB3:w0.heap.size<=W1.heap.size:=hM1.le;have H4:Hid (aA w0 (W1.alloc (.cells #[.int .i64 k,.int .i64 a,.int .i64 b] 137)).drew d { v with ov:= .slice oa P.length oc } (bF d.T NL) ng ⟨fun _=>0,P,0⟩):=h4.drew
     have HG4:Hid (aQ d v { v with ov:= .slice oa P.length oc } w (W1.alloc (.cells #[.int .i64 k,.int .i64 a,.int .i64 b] 137)).drew):=by
      show aQ _ _ _ _ _;rw[<-hW1];exact((og.out.alloc _).alloc _).drew
     have vQ:Hid (W1.heap.size=wr.heap.size+1):=by show W1.heap.size=_;rw[<-hW1];simp
     obtain⟨i5,hi0,hz0,hz1,hz2⟩:=info_parts Tryz.infoSpo;clear hM hG hM1 hX1 h4 hov hP hit
     go_wp2_with fail
     clear hW1
     go_region_law
      ((refine step_append_lies _ (by rfl) _ _ _ (by rfl) w0.heap.size 137 i5 _ 3 24 Tryz.underlying91 hi0 hz0 hz1 hz2 rfl (by omega) (.slice oa P.length oc) P.length (P.flatMap l5) (by rfl) d9
         ⟨W1.heap.size,0,none⟩ 1 1 [.int .i64 k,.int .i64 a,.int .i64 b] (by rfl) (by rfl) (World.news_of_block (cs:= #[.int .i64 k,.int .i64 a,.int .i64 b]) (t:=137) (fr:=(0,0)) (heap_alloc_new W1 _)) (by simp[Value.oneCell'])
         (by omega) hn1 hn2 (by simp;omega) (W1.heap.size+1) (by simp) ?_;intro g5 cap5 w5 hown5 hgrow hat NU;have c9':=(hgrow.cell_far ⟨d.ma,9,none⟩ (by simp;omega) hne).trans f9;have f9':=(hgrow.frozen_far ⟨d.ma,9,none⟩ (by simp;omega) hne).trans NK))
     all_goals
      go_wp2_with fail
      go_roundw
      case rel=>
       have r:=H4.out.acW (s:=(k,(a,b))) rfl hown5 hgrow (by simpa using hat);exact⟨j+1,_,by go_num,by omega,by rw[HT.out,<-List.append_assoc,HP.out];exact r.1,HG4.out.trans r.2⟩
      case measure=>simp[intOf];omega
    ·obtain rfl:j=n:=by omega
     rw[<-HN.out,List.take_length,<-UU]at hM;have NS:Hid (aA w0 wr d { v with ov:=ov } (bF d.T NL) ng ⟨fun _=>0,oJ v.OL (k+1),0⟩):=hM;clear hM hG
     go_wp2_with fail
     go_roundw
     case rel=>exact⟨k+1,ov,by go_num,by omega,NS.out,og.out⟩
     case measure=>simp[intOf];omega
  ·obtain rfl:k=v.OL.length:=by omega
   obtain⟨st0,BS⟩:∃st0,(⟨fun _=>0,oJ v.OL v.OL.length,0⟩:LS)=st0:=⟨_,rfl⟩;rw[BS]at hM;have hT:=HE.out.hT;have UW:2^d.T<512:=Nat.lt_of_le_of_lt (Nat.pow_le_pow_right (by omega) hT) (by decide)
   have zM:st0.O.length<=100000/\st0.c=0/\∀s,st0.lk s=0:=by
    rw[<-BS];have:=NT.out v.OL.length (Nat.le_refl _);have:v.OL.length*369<=150*369:=Nat.mul_le_mul_right _ few;exact⟨by simp only;omega,rfl,fun _=>rfl⟩
   have hI0:oF d.T R v.OL NL Ls Nu Fi st0:=by rw[<-BS];exact ab8 v.OL
   have UX:jP v.OL d.T st0<=2000000:=by
    unfold jP E8;have h1:=List.length_filter_le (fun q:bf×Nat=> !(st0.lk q.1).testBit q.2) (zC v.OL d.T);rw[acU]at h1;have h2:(wh v.OL).length=st0.O.length:=by rw[<-BS];rfl
    have h3:=zM.1;have h4:(wh v.OL).length*(d.T+1)<=100000*9:=Nat.mul_le_mul (by omega) (by omega);have h5:=zM.2.1;have h6:=NT.out v.OL.length (Nat.le_refl _);have h7:v.OL.length*369<=150*369:=Nat.mul_le_mul_right _ few;have h8:(wh v.OL).length<=55350:=by rw[h2,<-BS];simp only;omega
    have h9:(wh v.OL).length*(d.T+1)<=55350*9:=Nat.mul_le_mul h8 (by omega);omega
   have BU:iE wr.drew w0.heap.size d.ma d.T d.N d.rv R:=hM.drew.auto HE.out;have xS:=Jg BU;have one:=Jj (w:=wr.drew) (n:=d.T) hT;obtain⟨pw,hpw⟩:∃pw,2^d.T=pw:=⟨_,rfl⟩;rw[hpw]at one UW;have xR:=NM hM.drew (a:=0) (b:=R.length) (c:=0) (m:=pw) ⟨Nat.zero_le _,by have:=HE.out.hR;simp only;omega,Nat.zero_le _⟩ UW (by rw[zM.2.2];omega) (by rw[zM.2.1];omega) (by omega);have a0:=BU.t
   have ok1:OkG d.T R Nu Fi NL Ls v.OL ((0,(R.length,0)),pw):=⟨HA.out.zero,fun t ht=>by
    rw[<-hpw,Nat.testBit_two_pow]at ht;have:t=d.T:=by simpa using (of_decide_eq_true ht).symm
    subst this
    exact⟨Nat.le_refl _,lC.start⟩⟩
   have HI1:Hid (oF d.T R v.OL NL Ls Nu Fi (fV ((0,(R.length,0)),pw) st0)):=hI0.give ok1
   have HZ1:Hid (((fV ((0,(R.length,0)),pw) st0).lk (0,(R.length,0))).testBit d.T=true):=by
    show ((fV ((0,(R.length,0)),pw) st0).lk (0,(R.length,0))).testBit d.T=true;have hb:pw.testBit d.T=true:=by rw[<-hpw,Nat.testBit_two_pow];simp
    unfold fV;split
    ·rename_i he
     exact or_bit he hb
    ·simp[Nat.testBit_or,hb]
   have NV:Hid (jP v.OL d.T (fV ((0,(R.length,0)),pw) st0)<=2000000):=Nat.le_trans (Uh ⟨ok1.1,fun t ht=>(ok1.2 t ht).1⟩) UX;have hz:((0:Nat):Int)=0:=rfl;rw[hz]at xR;clear hM hG BS BU hI0 UX ok1 hpw zM hz
   go_wp2_with fail
   go_cut [] from 38 (fun wx=> ∃bI,aA w0 wx d { v with ov:=bI } (bF d.T NL) ng (fV ((0,(R.length,0)),pw) st0)/\aQ d v { v with ov:=bI } w wx)
   case first=>
    go_region_held3 (fun wx=>wx.cell? ⟨d.ma,0,none⟩=some (.int .i64 d.T)) (first|assumption|go_keep)
     (first
      |(go_at_call 56;refine xS.mono ?_;rintro e w5 ⟨rfl,rfl⟩)
      |(go_at_call 60;refine one.mono ?_;rintro e w5 ⟨rfl,rfl⟩)
      |(go_at_call 59;refine xR.mono ?_;rintro e w6 ⟨rfl,bI,kI,qG⟩
        have a06:=(kI.cell (i:=0) rfl (by omega)).1;have eT:Hid (aA w0 w6 d { v with ov:=bI } (bF d.T NL) ng (fV ((0,(R.length,0)),pw) st0)/\aQ d v { v with ov:=bI } w w6):=⟨kI,og.out.drew.trans qG⟩
        clear kI qG))
    all_goals
     go_wp2_with fail
     go_meet
     case rel=>exact⟨bI,eT.out.1,eT.out.2⟩
   case rest=>
    obtain⟨zK,hM,hG⟩:=hcut;obtain⟨st1,rT⟩:∃st1,fV ((0,(R.length,0)),pw) st0=st1:=⟨_,rfl⟩;rw[rT]at hM HI1 HZ1 NV;have qz:Hid (aA w0 wc d { v with ov:=zK } (bF d.T NL) ng st1):=hM;have UY:Hid (aQ d v { v with ov:=zK } w wc):=hG;clear hM hG rT xS one xR a0 sJ og
    go_wp2_with fail
    go_loopg [] (jP v.OL d.T st1) (fun gk wq=> ∃ov st,gk=jP v.OL d.T st/\aA w0 wq d { v with ov:=ov } (bF d.T NL) ng st/\oF d.T R v.OL NL Ls Nu Fi st/\(st.lk (0,(R.length,0))).testBit d.T=true/\jP v.OL d.T st<=2000000/\aQ d v { v with ov:=ov } w wq)
    case atStart=>exact⟨zK,st1,rfl,qz.out,HI1.out,HZ1.out,NV.out,UY.out⟩
    case round=>
     clear qz UY HI1 HZ1 NV;obtain⟨ov,⟨lk,OO,cc⟩,lQ,hM,hI,hZ,hP,hG⟩:=hrel;have hfr:=hM.cell (i:=9) rfl (by omega);have hlk:∀s,lk s<512:=fun s=>acV hT fun t ht=>(hI.snd s t ht).2.1;have UZ:cc<=2000000/\OO.length<=2000000:=by unfold jP at hP;simp only at hP;omega
     have og:Hid (aQ d v { v with ov:=ov } w wr):=hG;have HGK:Hid (gk=jP v.OL d.T ⟨lk,OO,cc⟩):=lQ;rcases List.eq_nil_or_concat OO with hO|⟨O,p,hO⟩
     ·subst hO
      obtain⟨oa,oc,hov⟩:=hM.own.slice (i:= .op) rfl;simp only[List.length_nil]at hov;subst hov;have c9:=hfr.1;have HF:Hid (aA w0 wr d { v with ov:= .slice oa 0 oc } (bF d.T NL) ng ⟨lk,[],cc⟩/\Fj d.T d.N R v.OL NL Ls Nu Fi ⟨lk,[],cc⟩):=⟨hM,hI,rfl,hZ,by simp only;omega,hlk⟩;clear hM hI hZ hP hG lQ hfr hlk
      go_wp2_with fail
      go_end0
      exact⟨rfl,_,_,HF.out.1,HF.out.2,og.out⟩
     ·rw[List.concat_eq_append]at hO
      subst hO;obtain⟨g,cap,hgv,_,acZ⟩:=hM.own.form (i:= .op) rfl (by simp);simp only[List.length_append,List.length_cons,List.length_nil,Nat.zero_add]at hgv;subst hgv;have ho:=hM.own.own .op _ rfl;simp only at ho;have hl1:(O++[p]).length=O.length+1:=by simp
      rw[hl1]at ho
      have q:∀i,i<3->wr.cell? ⟨g,O.length*3+i,none⟩=(l5 p)[i]?:=fun i hi=>by
       rw[ho.cellAt (O.length*3+i) (by omega),acw (by simp) hi];simp[List.getD]
      have hcap:O.length+1<=cap:=by
       rcases ho.2 with⟨e,_⟩|⟨g',cap',cur,e,_,_,h4,_⟩
       ·cases e
       ·injection e with _ _ e3
        omega
      obtain⟨pm,pg⟩:=hM.pop (O:=O) (p:=p) rfl rfl;obtain⟨k,a,b⟩:=p;have q0:=q 0 (by omega);have q1:=q 1 (by omega);have q2:=q 2 (by omega);simp only[l5,Nat.add_zero]at q0 q1 q2;have zN:wr.cell? ⟨g,O.length*3,none⟩=some (.int .i64 k):=q0;have q1':wr.cell? ⟨g,O.length*3+1,none⟩=some (.int .i64 a):=q1;have q2':wr.cell? ⟨g,O.length*3+2,none⟩=some (.int .i64 b):=q2;have U0:=pm.alloc (.cells #[.int .i64 k,.int .i64 a,.int .i64 b] 137);have hOl:O.length<=2000000:=by have:=UZ.2;simp only[List.length_append,List.length_cons,List.length_nil]at this;omega
      have lkc:=acX HE.out U0 (k:=k) (a:=a) (b:=b) ⟨HA.out,hI.opn _ (by simp),hlk,few,pQ,by simp only;omega,by simp only;omega⟩
      have HN:Hid (oF d.T R v.OL NL Ls Nu Fi (pJ d.T R NL Nu Fi (k,(a,b)) ⟨lk,O,cc⟩)):=hI.look HA.out (fun n=>by
       by_cases hn:n<d.N
       ·rw[HE.out.zF n hn];exact Nat.le_refl _
       ·rw[List.getD,List.getElem?_eq_none (by rw[HE.out.xL];omega)];simp)
      have Jv:Hid (jP v.OL d.T (pJ d.T R NL Nu Fi (k,(a,b)) ⟨lk,O,cc⟩)<jP v.OL d.T ⟨lk,O++[(k,(a,b))],cc⟩):=acf HA.out (fun n=>by
       by_cases hn:n<d.N
       ·rw[HE.out.zF n hn];exact Nat.le_refl _
       ·rw[List.getD,List.getElem?_eq_none (by rw[HE.out.xL];omega)];simp) hI
      have Jw:Hid (((pJ d.T R NL Nu Fi (k,(a,b)) ⟨lk,O,cc⟩).lk (0,(R.length,0))).testBit d.T=true):=acd _ _ hZ;have HPg:Hid (aQ d { v with ov:= .slice (some ⟨g,0,none⟩) (O.length+1) cap } { v with ov:= .slice (some ⟨g,0,none⟩) O.length cap } wr ((wr.setCell ⟨d.ma,9,none⟩ (.slice (some ⟨g,0,none⟩) O.length cap)).alloc (.cells #[.int .i64 k,.int .i64 a,.int .i64 b] 137))):=pg.alloc _;have HPP:Hid (jP v.OL d.T ⟨lk,O++[(k,(a,b))],cc⟩<=2000000):=hP;have c9:=hfr.1;have f9:=hfr.2;have hma:d.ma<wr.heap.size:=hM.BL;have i0:(0:Int)<=(O.length:Int):=Int.natCast_nonneg _;have i1:(O.length:Int)<(O.length:Int)+1:=by omega
      have i2:(O.length:Int)<=(cap:Int):=by omega
      clear hM hI hZ hP hG lQ hfr hlk hl1 ho q q0 q1 q2 pm pg U0 UZ acZ
      go_wp2_with (go_at_call 61;refine lkc.mono ?_;rintro r w1 ⟨rfl,bI,h3,h4⟩)
      go_roundg (jP v.OL d.T (pJ d.T R NL Nu Fi (k,(a,b)) ⟨lk,O,cc⟩))
      case measure=>rw[HGK.out];exact Jv.out
      case rel=>exact⟨bI,_,rfl,h3,HN.out,Jw.out,Nat.le_trans (Nat.le_of_lt Jv.out) HPP.out,(og.out.trans HPg.out).trans h4⟩
end Go.Proofs.YtpkmpkphfflpjaaGreat
namespace Go.Proofs.YtpkmpkphfflpjaaGreat
open Go.Shelf
def Tryz.sortIt_ren:Go.Shelf.Ren:=⟨fun|6=>88|15=>96|14=>95|28=>106|29=>107|20=>98|21=>99|22=>100|23=>101|24=>102|25=>103|26=>104|27=>105|46=>108|47=>109|48=>110|49=>111|50=>112|57=>113|n=>n,fun|22=>131|24=>130|25=>171|3=>3|39=>181|0=>0|53=>139|55=>191|4=>4|46=>184|45=>183|50=>174|5=>5|9=>9|66=>192|70=>196|76=>198|77=>199|n=>n,fun|n=>n⟩
theorem Tryz.sortIt:Go.Proofs.SlLaysF0.n6 Tryz.prog Tryz.sortIt_ren:={
 mixed:=by kernel_rfl
 f6:=⟨Tryz.f88.name,by decide,Tryz.func88.trans (congrArg some (by kernel_rfl))⟩
 f14:=⟨Tryz.f95.name,by decide,Tryz.func95.trans (congrArg some (by kernel_rfl))⟩
 f15:=Tryz.func96.trans (congrArg some (by kernel_rfl))
 f20:=⟨Tryz.f98.name,by decide,Tryz.func98.trans (congrArg some (by kernel_rfl))⟩
 f21:=⟨Tryz.f99.name,by decide,Tryz.func99.trans (congrArg some (by kernel_rfl))⟩
 f22:=⟨Tryz.f100.name,by decide,Tryz.func100.trans (congrArg some (by kernel_rfl))⟩
 f23:=⟨Tryz.f101.name,by decide,Tryz.func101.trans (congrArg some (by kernel_rfl))⟩
 f24:=⟨Tryz.f102.name,by decide,Tryz.func102.trans (congrArg some (by kernel_rfl))⟩
 f25:=⟨Tryz.f103.name,by decide,Tryz.func103.trans (congrArg some (by kernel_rfl))⟩
 f26:=⟨Tryz.f104.name,by decide,Tryz.func104.trans (congrArg some (by kernel_rfl))⟩
 f27:=⟨Tryz.f105.name,by decide,Tryz.func105.trans (congrArg some (by kernel_rfl))⟩
 f28:=Tryz.func106.trans (congrArg some (by kernel_rfl))
 f29:=Tryz.func107.trans (congrArg some (by kernel_rfl))
 f46:=⟨Tryz.f108.name,by decide,Tryz.func108.trans (congrArg some (by kernel_rfl))⟩
 f47:=Tryz.func109.trans (congrArg some (by kernel_rfl))
 f48:=Tryz.func110.trans (congrArg some (by kernel_rfl))
 f49:=⟨Tryz.f111.name,by decide,Tryz.func111.trans (congrArg some (by kernel_rfl))⟩
 f50:=⟨Tryz.f112.name,by decide,Tryz.func112.trans (congrArg some (by kernel_rfl))⟩
 f57:=⟨Tryz.f113.name,by decide,Tryz.func113.trans (congrArg some (by kernel_rfl))⟩
 t0:=Tryz.underlying0
 a0:=Tryz.isAgg0
 z0:=Tryz.sizeOf0
 v0:=Tryz.zeroValue0
 t3:=Tryz.underlying3
 a3:=Tryz.isAgg3
 z3:=Tryz.sizeOf3
 v3:=Tryz.zeroValue3
 t4:=Tryz.underlying4
 a4:=Tryz.isAgg4
 z4:=Tryz.sizeOf4
 v4:=Tryz.zeroValue4
 t5:=Tryz.underlying5
 a5:=Tryz.isAgg5
 z5:=Tryz.sizeOf5
 v5:=Tryz.zeroValue5
 t9:=Tryz.underlying9
 a9:=Tryz.isAgg9
 z9:=Tryz.sizeOf9
 v9:=Tryz.zeroValue9
 t22:=Tryz.underlying131
 a22:=Tryz.isAgg131
 z22:=Tryz.sizeOf131
 v22:=Tryz.zeroValue131
 t25:=Tryz.underlying171
 a25:=Tryz.isAgg171
 z25:=Tryz.sizeOf171
 v25:=Tryz.zeroValue171
 t39:=Tryz.underlying181
 a39:=Tryz.isAgg181
 z39:=Tryz.sizeOf181
 v39:=Tryz.zeroValue181
 t45:=Tryz.underlying183
 a45:=Tryz.isAgg183
 z45:=Tryz.sizeOf183
 v45:=Tryz.zeroValue183
 t46:=Tryz.underlying184
 a46:=Tryz.isAgg184
 z46:=Tryz.sizeOf184
 v46:=Tryz.zeroValue184
 t50:=Tryz.underlying174
 a50:=Tryz.isAgg174
 z50:=Tryz.sizeOf174
 v50:=Tryz.zeroValue174
 t53:=Tryz.underlying139
 a53:=Tryz.isAgg139
 z53:=Tryz.sizeOf139
 v53:=Tryz.zeroValue139
 t55:=Tryz.underlying191
 a55:=Tryz.isAgg191
 z55:=Tryz.sizeOf191
 v55:=Tryz.zeroValue191
 t66:=Tryz.underlying192
 a66:=Tryz.isAgg192
 z66:=Tryz.sizeOf192
 v66:=Tryz.zeroValue192
 t70:=Tryz.underlying196
 a70:=Tryz.isAgg196
 z70:=Tryz.sizeOf196
 v70:=Tryz.zeroValue196
 t76:=Tryz.underlying198
 a76:=Tryz.isAgg198
 z76:=Tryz.sizeOf198
 v76:=Tryz.zeroValue198
 t77:=Tryz.underlying199
 a77:=Tryz.isAgg199
 z77:=Tryz.sizeOf199
 v77:=Tryz.zeroValue199 }
open Go.RowKit
def tK(a b:Nat):Int:=if a<b then -1 else if b<a then 1 else 0
def wB(x y:It):Int:=if tK x.1 y.1=0 then tK x.2 y.2 else tK x.1 y.1
theorem xU(x y:It):ltOf wB x y=true↔jb x y:=by
 unfold ltOf wB tK jb;rw[decide_eq_true_eq];by_cases h1:x.1<y.1
 ·simp[h1]
 ·by_cases h2:y.1<x.1
  ·have h3:x.1≠y.1:=by omega
   simp[h1,h2,h3]
  ·have h3:x.1=y.1:=by omega
   by_cases h4:x.2<y.2
   ·simp[h3,h4]
   ·by_cases h5:y.2<x.2<;>simp[h3,h4,h5]
theorem U1{w:World}(a b:Nat):Calls Tryz.prog 91 #[.int .i64 a,.int .i64 b] w fun e w'=>e= .returned (.int .i64 (tK a b))/\w'=w:=by
 have nan:∀(x:Nat) (W:World),Calls Tryz.prog 97 #[.int .i64 x] W fun e w'=>e= .returned (.bool false)/\w'=W:=fun x W=>by
  go_enter Tryz.func97,Tryz.ntmps97
  go_wp2_with fail
  go_ret;simp
 unfold tK;by_cases h1:a<b
 ·rw[if_pos h1]
  have d1:decide (a<b)=true:=decide_eq_true h1
  go_enter Tryz.func91,Tryz.ntmps91
  go_wp2_with (go_at_call 97;refine(nan _ _).mono ?_;rintro e w' ⟨rfl,rfl⟩)
  go_ret;exact⟨rfl,rfl⟩
 ·rw[if_neg h1]
  have d1:decide (a<b)=false:=decide_eq_false h1;by_cases h2:b<a
  ·rw[if_pos h2]
   have d2:decide (b<a)=true:=decide_eq_true h2
   go_enter Tryz.func91,Tryz.ntmps91
   go_wp2_with (go_at_call 97;refine(nan _ _).mono ?_;rintro e w' ⟨rfl,rfl⟩)
   go_ret;exact⟨rfl,rfl⟩
  ·rw[if_neg h2]
   have d2:decide (b<a)=false:=decide_eq_false h2
   go_enter Tryz.func91,Tryz.ntmps91
   go_wp2_with (go_at_call 97;refine(nan _ _).mono ?_;rintro e w' ⟨rfl,rfl⟩)
   go_ret;exact⟨rfl,rfl⟩
theorem ac0{w:World}{b:Nat}{x y:Int}(c0:w.cell? ⟨b,0,none⟩=some (.int .i64 x))(c1:w.cell? ⟨b,1,none⟩=some (.int .i64 y)):
 Calls Tryz.prog 90 #[.slice (some ⟨b,0,none⟩) 2 2] w fun e w'=>e= .returned (.int .i64 (if x=0 then y else x))/\w'=w:=by
 obtain⟨r,hr⟩:∃r,(if x=0 then y else x)=r:=⟨_,rfl⟩;have HR:Hid ((x≠0->r=x)/\(x=0->r=y)):=⟨fun h=>by rw[<-hr,if_neg h],fun h=>by rw[<-hr,if_pos h]⟩;rw[hr];clear hr
 go_enter Tryz.func90,Tryz.ntmps90
 go_wp2_with fail
 go_loopw [8] (fun s wr=> ∃k:Nat,s= .int .i64 k/\k<=2/\wr=w/\(1<=k->x=0)/\(2<=k->y=0)) (fun s _=>2-(intOf s).toNat)
 case atStart=>exact⟨0,rfl,by omega,rfl,by omega,by omega⟩
 case round=>
  obtain⟨k,rfl,hk,rfl,h1,h2⟩:=hrel;have hcs:k=0\/k=1\/k=2:=by omega
  rcases hcs with rfl|rfl|rfl
  ·clear h1 h2
   by_cases hx:x=0
   ·have e1:(x !=0)=false:=by simpa using hx
    have HX:Hid (x=0):=hx;clear hx
    go_wp2_with fail
    go_roundw
    case rel=>exact⟨1,rfl,by omega,trivial,fun _=>HX.out,by omega⟩
    case measure=>simp[intOf]
   ·have e1:(x !=0)=true:=by simpa using hx
    have hx':=HR.out.1 hx;clear hx HR;subst hx'
    go_wp2_with fail
    go_ret;exact⟨rfl,rfl⟩
  ·have hx:=h1 (by omega)
   have hr:=HR.out.2 hx;have HX:Hid (x=0):=hx;clear h1 h2 hx HR;subst hr;by_cases hy:r=0
   ·have e1:(r !=0)=false:=by simpa using hy
    have HY:Hid (r=0):=hy;clear hy
    go_wp2_with fail
    go_roundw
    case rel=>exact⟨2,rfl,by omega,trivial,fun _=>HX.out,fun _=>HY.out⟩
    case measure=>simp[intOf]
   ·have e1:(r !=0)=true:=by simpa using hy
    clear hy
    go_wp2_with fail
    go_ret;exact⟨rfl,rfl⟩
  ·have hx:=h1 (by omega)
   have hy:=h2 (by omega);have hr:=HR.out.2 hx;rw[hy]at hr;clear h1 h2 HR;subst hr
   go_wp2_with fail
   go_ret;exact⟨rfl,rfl⟩
theorem ac1(x y:It)(W:World):Calls Tryz.prog 89 #[.agg #[.int .i64 x.1,.int .i64 x.2],.agg #[.int .i64 y.1,.int .i64 y.2]] W fun e w'=>e= .returned (.int .i64 (wB x y))/\∃q os',w'=Go.Sort.grow (W.drewN q) os':=by
 obtain⟨a,b⟩:=x;obtain⟨c,d⟩:=y;simp only;have HC:Hid (wB (a,b) (c,d)=if tK a c=0 then tK b d else tK a c):=rfl;obtain⟨p,hp⟩:∃p,tK a c=p:=⟨_,rfl⟩;obtain⟨q,hq⟩:∃q,tK b d=q:=⟨_,rfl⟩;have c1:=fun w=>U1 (w:=w) a c;have c2:=fun w=>U1 (w:=w) b d;rw[hp,hq]at HC;simp only[hp]at c1;simp only[hq]at c2;have co:=fun(w:World) (b:Nat) c0 c1=>ac0 (w:=w) (b:=b) (x:=p) (y:=q) c0 c1;obtain⟨r,hr⟩:∃r,(if p=0 then q else p)=r:=⟨_,rfl⟩;simp only[hr]at co;rw[hr]at HC;clear hp hq hr;obtain⟨W1,hW1⟩:∃W1,(W.alloc (.cells #[.int .i64 a,.int .i64 b] 130)).alloc (.cells #[.int .i64 c,.int .i64 d] 130)=W1:=⟨_,rfl⟩;have b0:W1.cell? ⟨W.heap.size,0,none⟩=some (.int .i64 a):=by rw[<-hW1];simp[go_sem]
 have b1:W1.cell? ⟨W.heap.size,1,none⟩=some (.int .i64 b):=by rw[<-hW1];simp[go_sem]
 have b2:W1.cell? ⟨W.heap.size+1,0,none⟩=some (.int .i64 c):=by rw[<-hW1];simp[go_sem]
 have b3:W1.cell? ⟨W.heap.size+1,1,none⟩=some (.int .i64 d):=by rw[<-hW1];simp[go_sem]
 have HW1:Hid (W1=Go.Sort.grow W #[.cells #[.int .i64 a,.int .i64 b] 130,.cells #[.int .i64 c,.int .i64 d] 130]):=by
  show W1=_;rw[<-hW1,Go.Sort.alloc_eq_grow,Go.Sort.alloc_eq_grow,Go.Sort.grow_grow];rfl
 have n0:=World.new_ne W1 _ b0;have n1:=World.new_ne W1 _ b2
 go_enter Tryz.func89,Tryz.ntmps89
 go_wp2_with fail
 clear hW1
 go_region_held3 (fun w'=>w'.cell? ⟨W.heap.size,0,none⟩=some (.int .i64 a)/\w'.cell? ⟨W.heap.size,1,none⟩=some (.int .i64 b)/\w'.cell? ⟨W.heap.size+1,0,none⟩=some (.int .i64 c)/\w'.cell? ⟨W.heap.size+1,1,none⟩=some (.int .i64 d)) (go_keep)
  (first
   |(go_at_call_of 91 (Value.int .i64 a);refine(c1 _).mono ?_;rintro e w' ⟨rfl,rfl⟩)
   |(go_at_call_of 91 (Value.int .i64 b);refine(c2 _).mono ?_;rintro e w' ⟨rfl,rfl⟩)
   |(go_at_call 90;refine(co _ _ (by simp[go_sem]) (by simp[go_sem])).mono ?_;rintro e w' ⟨rfl,rfl⟩))
 all_goals
  go_wp2_with fail
  go_ret;refine⟨by rw[HC.out];rfl,1,#[.cells #[.int .i64 a,.int .i64 b] 130,.cells #[.int .i64 c,.int .i64 d] 130]++ #[.cells #[.int .i64 p,.int .i64 q] 3],?_⟩;rw[HW1.out,Go.Sort.alloc_eq_grow,Go.Sort.grow_grow];rfl
theorem U2(d:Array It):(Go.Sort.flatK bJ 2 d).toList=d.toList.flatMap bJ:=by
 apply List.ext_getElem?;intro t;have hl:=Fe d.toList;by_cases ht:t<d.size*2
 ·have h1:t/2<d.toList.length:=by simp;omega
  have h2:=Fb (L:=d.toList) (i:=t/2) (k:=t%2) h1 (by omega);rw[show t/2*2+t%2=t by omega]at h2;rw[h2,Array.getElem?_toList];have h3:t<(Go.Sort.flatK bJ 2 d).size:=by simpa using ht
  rw[Array.getElem?_eq_getElem h3];have h4:=Go.Sort.get_flatK bJ 2 d t ht;rw[getElem!_pos _ t h3]at h4;rw[h4]
  have e:d[t/2]! =d.toList.getD (t/2) (0,0):=by
   have h5:t/2<d.size:=by omega
   rw[getElem!_pos d (t/2) h5];simp[List.getD,h5]
  rw[e];have h6:t%2<(bJ (d.toList.getD (t/2) (0,0))).length:=by simp[bJ];omega
  rw[getElem!_pos (bJ (d.toList.getD (t/2) (0,0))) (t%2) h6,List.getElem?_eq_getElem h6]
 ·rw[List.getElem?_eq_none (by simp;omega),List.getElem?_eq_none (by rw[hl];simp;omega)]
theorem ac2{w:World}{base g cap:Nat}{L:List It}(h:w.ownsRow base 130 2 (.slice (some ⟨g,0,none⟩) L.length cap) L.length (L.flatMap bJ)):Go.Sort.HoldsK bJ 2 w g 0 L.toArray:=by
 intro j hj;have hj':j<L.length*2:=by simpa using hj
 refine⟨?_,by rw[Nat.zero_add];exact h.frozenAt j⟩;rw[Nat.zero_add,h.cellAt j hj'];have e:L.flatMap bJ=(Go.Sort.flatK bJ 2 L.toArray).toList:=(U2 L.toArray).symm;rw[e,Array.getElem?_toList,Array.getElem?_eq_getElem hj];rw[getElem!_pos _ j hj];rfl
theorem ac3{w:World}{g n:Nat}{os:Array Obj}(d:Array It):w.grownBy (sortWorldK bJ 2 w g 0 n d os) (some g):=by
 unfold sortWorldK Go.Sort.putRowK;refine⟨rfl,rfl,rfl,by simp,fun k hk hne=> ?_⟩;rw[Go.Sort.heap_grow_old _ _ (by simpa using hk)];have:g≠k:=fun e=>hne (by rw[e]);simp[Go.Sort.putRow,Go.Sort.mapBlock,Go.Sort.ahead,Array.getElem?_modify,this]
theorem ac4{w:World}{base g cap n:Nat}{L:List It}{os:Array Obj}(h:w.ownsRow base 130 2 (.slice (some ⟨g,0,none⟩) L.length cap) L.length (L.flatMap bJ)){d:Array It}(hs:d.size=L.length):
 (sortWorldK bJ 2 w g 0 n d os).ownsRow base 130 2 (.slice (some ⟨g,0,none⟩) L.length cap) L.length (d.toList.flatMap bJ):=by
 refine⟨by rw[Fe];simp[hs],?_⟩;rcases h.2 with⟨e,_⟩|⟨g',cap',cur,e,h2,h3,h4,h5,h6,h7⟩
 ·cases e
 ·injection e with e1 e2 e3
  injection e1 with e1;injection e1 with e1;subst e1;subst e3;have hg:g<w.heap.size:=(Array.getElem?_eq_some_iff.1 h3).1;refine .inr ⟨g,cap,Go.Sort.putCells id 0 (Go.Sort.flatK bJ 2 d) cur,rfl,h2,?_,h4,h5,by simp[Go.Sort.putCells,h6],?_⟩
  ·unfold sortWorldK Go.Sort.putRowK
   rw[Go.Sort.heap_grow_old _ _ (by simpa using hg)];simp[Go.Sort.putRow,Go.Sort.mapBlock,Go.Sort.ahead,Array.getElem?_modify,h3,Go.Sort.onCells]
  ·rw[<-U2]
   have hsz:(Go.Sort.flatK bJ 2 d).size=L.length*2:=by simp[hs]
   apply List.ext_getElem?;intro j;by_cases hj:j<L.length*2
   ·have hjc:j<cur.size:=by omega
    rw[List.getElem?_take_of_lt hj,Array.getElem?_toList,Array.getElem?_toList];unfold Go.Sort.putCells;rw[Array.getElem?_mapIdx,Array.getElem?_eq_getElem hjc,Array.getElem?_eq_getElem (by omega:j<(Go.Sort.flatK bJ 2 d).size)];simp only[Option.map_some,Nat.zero_le,Nat.zero_add,true_and,Nat.sub_zero,id];rw[if_pos (by omega),getElem!_pos _ j (by omega)]
   ·rw[List.getElem?_take_eq_none (by omega),List.getElem?_eq_none (by simp[hs];omega)]
theorem ac5:Go.Sort.SWO (ltOf wB) where
 irrefl x:=by
  cases h:ltOf wB x x with
  |false=>rfl
  |true=>exact absurd ((xU x x).1 h) (Ns x)
 trans x y z h1 h2:=(xU x z).2 (TV x y z ((xU x y).1 h1) ((xU y z).1 h2))
 ntrans x y z h1 h2:=by
  cases h:ltOf wB x z with
  |false=>rfl
  |true=>
   have h3:=(xU x z).1 h;have n1:¬jb x y:=fun e=>by rw[(xU x y).2 e]at h1;cases h1
   have n2:¬jb y z:=fun e=>by rw[(xU y z).2 e]at h2;cases h2
   unfold jb at h3 n1 n2;omega
theorem Tryz.itAgg:∀w,(isAgg 130).run Tryz.prog w= .ok true w:=Tryz.isAgg130
theorem Tryz.itSize:∀w,(Go.sizeOf 130).run Tryz.prog w= .ok 2 w:=Tryz.sizeOf130
theorem ac6{w:World}{base g cap:Nat}{L:List It}(h:w.ownsRow base 130 2 (.slice (some ⟨g,0,none⟩) L.length cap) L.length (L.flatMap bJ))(hl:L.length<=1000000)(hnd:L.Nodup):
 Calls Tryz.prog 88 #[.slice (some ⟨g,0,none⟩) L.length cap,.func (.func 89) #[] #[]] w fun e w'=>e= .returned (.tuple #[])/\
  ∃C:List It,C.length=L.length/\C.Pairwise jb/\(∀i,i∈C↔i∈L)/\w'.ownsRow base 130 2 (.slice (some ⟨g,0,none⟩) L.length cap) L.length (C.flatMap bJ)/\w.grownBy w' (some g):=by
 have eg:∀args w,(callFunc 89 args).run Tryz.prog w= .ok (.enter 89 args) w:=enters_of Tryz.func89 (by kernel_rfl) rfl;have hcmp:CmpLays Tryz.prog 89 #[] bJ 2 wB g 0 L.toArray.size w:=fun _ _ _ _ x y=>ac1 x y _;have hblk:g<w.heap.size:=(h.lt g rfl).2;have hcon:=AnyQ.slices_SortFunc Tryz.sortIt 2 Tryz.itAgg Tryz.itSize bJ (fun _=>rfl) (fun x v hv=>by simp[bJ]at hv;rcases hv with rfl|rfl<;>rfl) wB ac5 89 #[] g 0 cap L.toArray w eg hcmp (ac2 h) hblk (by simp;omega);have hsz:L.toArray.size=L.length:=by simp
 rw[hsz]at hcon;refine Calls.mono hcon ?_;rintro e w' ⟨rfl,d',n,os,⟨hp1,_,hp3⟩,hs,rfl⟩;have hds:d'.size=L.length:=by rw[hp1];simp
 have hperm:d'.toList.Perm L:=by
  have e1:d'.extract 0 L.length=d':=by rw[<-hds];simp
  have e2:L.toArray.extract 0 L.length=L.toArray:=by simp
  rw[e1,e2]at hp3;simpa using hp3
 have hnd':d'.toList.Nodup:=hperm.symm.nodup hnd;refine⟨rfl,d'.toList,by simp[hds],?_,fun i=>hperm.mem_iff,ac4 h hds,ac3 d'⟩;rw[List.pairwise_iff_getElem];intro i j hi hj hij;have h1:=hs i j (Nat.zero_le _) hij (by simpa [hds] using hj);have hi':i<d'.size:=by simpa using hi
 have hj':j<d'.size:=by simpa using hj
 rw[getElem!_pos d' i hi',getElem!_pos d' j hj']at h1;have n1:¬jb d'[j] d'[i]:=fun e=>by rw[(xU _ _).2 e]at h1;cases h1
 have n2:d'[i]≠d'[j]:=fun e=>by
  have:=(List.pairwise_iff_getElem.1 hnd') i j hi hj hij;simp only[Array.getElem_toList]at this;exact this e
 simp only[Array.getElem_toList];unfold jb at n1⊢;have n3:¬(d'[i].1=d'[j].1/\d'[i].2=d'[j].2):=fun e=>n2 (Prod.ext e.1 e.2);omega
end Go.Proofs.YtpkmpkphfflpjaaGreat
