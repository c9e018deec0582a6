import Derived.Test.YtblkkhfdeaaidaaGreatDoorTkBehAndTkLk
import Derived.Shelf.SlSortCmp.WholeK
import Derived.Shelf.SlGeneric
import Derived.Ground.SlsfProg
set_option maxHeartbeats 6400000
set_option maxRecDepth 100000
namespace Go.Proofs.YtblkkhfdeaaidaaGreatDoor
open Go.RowKit
theorem GI{α:Type}{L:List α}{j:Nat}{d:α}(h:j<L.length):L.getD j d=L[j]:=by simp[List.getD,h]
def ni(OL:List (List It))(k:Nat):List aN:=(List.range k).flatMap fun k=>(OL.getD k []).map fun i=>(k,i)
theorem Sj(OL:List (List It))(k:Nat):ni OL (k+1)=ni OL k++(OL.getD k []).map fun i=>(k,i):=by
 unfold ni;rw[List.range_succ,List.flatMap_append];simp
theorem aa0{OL:List (List It)}{n:Nat}(h:∀k,k<OL.length->(OL.getD k []).length<=n):∀k,k<=OL.length->(ni OL k).length<=k*n:=by
 intro k
 induction k with
 |zero=>intro _;simp[ni]
 |succ k ih=>
  intro hk;rw[Sj,List.length_append,List.length_map,Nat.add_mul];have:=ih (by omega);have:=h k (by omega);omega
theorem aa1(OL:List (List It))(T:Nat):(yP OL T).length=(vB OL).length*(T+1):=by
 unfold yP
 have:∀L:List aN,(L.flatMap fun s=>(List.range (T+1)).map fun t=>(s,t)).length=L.length*(T+1):=by
  intro L
  induction L with
  |nil=>simp
  |cons a L ih=>rw[List.flatMap_cons,List.length_append,ih];simp[Nat.add_mul];omega
 exact this _
theorem aa2{T:Nat}(hT:T<=8){n:Nat}(h:∀t,n.testBit t=true->t<=T):n<512:=
 Nat.lt_pow_two_of_testBit (n:=9) _ fun i hi=>by
  cases hb:n.testBit i with
  |false=>rfl
  |true=>have:=h i hb;omega
section
variable{w0 w:World}{d:eD}{v:bS}{G:Wy->Option Value}{ng:Nat}{st:LS}
theorem aj.aa3(h:aj w0 w d v G ng st){s:aN}{w':World}{oa:Option Addr}{oc g cap:Nat}(hv:v.ov= .slice oa st.O.length oc)(hown:w'.ownsRow w0.heap.size 145 3 (.slice (some ⟨g,0,none⟩) (st.O.length+1) cap) (st.O.length+1) (st.O.flatMap jY++jY s))(hg:w.grownBy w' (Value.slice oa st.O.length oc).ownBlock)
 (hat:(Value.slice oa st.O.length oc).ownBlock=some g\/g=w.heap.size):
 aj w0 (w'.setCell ⟨d.ma,9,none⟩ (.slice (some ⟨g,0,none⟩) (st.O.length+1) cap)) d { v with ov:= .slice (some ⟨g,0,none⟩) (st.O.length+1) cap } G ng { st with O:=st.O++[s] }/\aF d v { v with ov:= .slice (some ⟨g,0,none⟩) (st.O.length+1) cap } w (w'.setCell ⟨d.ma,9,none⟩ (.slice (some ⟨g,0,none⟩) (st.O.length+1) cap)):=
 h.Aj (O':=st.O++[s]) (by rw[hv];exact hg) (by simpa [List.flatMap_append] using hown) (fun g' hg'=>by
  obtain rfl:g=g':=by simpa [Value.ownBlock] using hg'
  rw[hv]
  exact hat)
end
theorem aa4{w0 w:World}{d:eD}{v:bS}{NL:List (List Int)}{Ls:List aI}{R:List Ru}{Nu:List Bool}{Fi:List (List Bool)}{ng:Nat}{st:LS}{k a b:Nat}(E:iT w0 d R Nu Fi)(h:aj w0 w d v (aS d.T NL) ng st)(p:Gs d.T d.N R v.OL NL Ls st k a b ng):
 Calls Tryz.prog 84 #[.pointer (some ⟨d.ma,0,none⟩),.agg #[.int .i64 k,.int .i64 a,.int .i64 b]] w fun r w'=>r= .returned (.tuple #[])/\∃aA,aj w0 w' d { v with ov:=aA } (aS d.T NL) ng (nW d.T R NL Nu Fi (k,(a,b)) st)/\aF d v { v with ov:=aA } w w':=by
 cases hn:(aH R a)[b]? with
 |none=>
  have e:nW d.T R NL Nu Fi (k,(a,b)) st=st:=by unfold nW qD;simp only;rw[hn];rfl
  rw[e];exact(aaW E h p hn).mono fun r w' ⟨h1,h2,h3⟩=>⟨h1,v.ov,h2,h3⟩
 |some s=>exact aaX E h p hn
structure DT(T N:Nat)(R:List Ru)(OL:List (List It))(NL:List (List Int))(Ls:List aI)(Nu:List Bool)(Fi:List (List Bool))(st:LS):Prop where
 inv:mW T R OL NL Ls Nu Fi st
 none:st.O=[]
 zero:(st.lk (0,(R.length,0))).testBit T=true
 c:st.c<=10000000
 lk:∀s,st.lk s<512
theorem aa5{w0 w:World}{d:eD}{v:bS}{NL:List (List Int)}{Ls:List aI}{R:List Ru}{Nu:List Bool}{Fi:List (List Bool)}{ng:Nat}(E:iT w0 d R Nu Fi)(h:aj w0 w d v (aS d.T NL) ng ⟨fun _=>0,[],0⟩)(A:jq d.T d.N R v.OL NL Ls)(few:v.OL.length<=150)(ol:ng<=10000000):
 Calls Tryz.prog 60 #[.pointer (some ⟨d.ma,0,none⟩)] w fun r w'=>r= .returned (.tuple #[])/\∃aA st',aj w0 w' d { v with ov:=aA } (aS d.T NL) ng st'/\DT d.T d.N R v.OL NL Ls Nu Fi st'/\aF d v { v with ov:=aA } w w':=by
 have hlen:∀k,k<v.OL.length->(v.OL.getD k []).length<=369:=fun k hk=>by
  have:=F7 E.yS (A.nU.jo k hk).qA (A.nU.ok k hk);have:=E.hR;omega
 have HLen:Hid (∀k,k<v.OL.length->(v.OL.getD k []).length<=369):=hlen;have hsp:=aa0 hlen;have La:Hid (∀k,k<=v.OL.length->(ni v.OL k).length<=k*369):=hsp;have HE:Hid (iT w0 d R Nu Fi):=E;have HA:Hid (jq d.T d.N R v.OL NL Ls):=A;have HM:Hid (aj w0 w d v (aS d.T NL) ng ⟨fun _=>0,[],0⟩):=h;have c6:=(h.cell (i:=6) rfl (by omega)).1;obtain⟨sa,sc,hsv⟩:=h.states;rw[hsv]at c6;have yV:Hid (v.sv= .slice sa v.OL.length sc):=hsv;clear E A h hlen hsp hsv
 go_enter Tryz.func60,Tryz.ntmps60
 go_wp2_with fail
 clear c6
 go_loopw [13] (fun s13 wr=> ∃(k:Nat) (ov:Value),s13= .int .i64 k/\k<=v.OL.length/\aj w0 wr d { v with ov:=ov } (aS d.T NL) ng ⟨fun _=>0,ni v.OL k,0⟩/\aF d v { v with ov:=ov } w wr) (fun s _=>v.OL.length-(intOf s).toNat)
 case atStart=>exact⟨0,v.ov,rfl,Nat.zero_le _,HM.out,aF.refl _ _ _⟩
 case round=>
  obtain⟨k,ov,rfl,hk,hM,hG⟩:=hrel;have DU:Hid (aj w0 wr d { v with ov:=ov } (aS d.T NL) ng ⟨fun _=>0,ni v.OL k,0⟩):=hM;have pq:Hid (aF d v { v with ov:=ov } w wr):=hG;by_cases hlt:k<v.OL.length
  ·obtain⟨g,c,hv,_,q0⟩:=hM.state (k:=k) hlt
   rw[show ({ v with ov:=ov }:bS).sv=v.sv from rfl,yV.out]at hv;simp only at hv q0;cases hv;obtain⟨⟨ia,ic,hiv⟩,_⟩:=hM.items (k:=k) hlt;simp only at hiv;rw[hiv]at q0;have DV:Hid (v.IV k= .slice ia (v.OL.getD k []).length ic):=hiv;have hl3:=HLen.out k hlt;have hsk:=La.out k hk;obtain⟨n,hn⟩:∃n,(v.OL.getD k []).length=n:=⟨_,rfl⟩;rw[hn]at q0 DV hl3;have HN:Hid ((v.OL.getD k []).length=n):=hn;have i0:(0:Int)<=(k:Int):=Int.natCast_nonneg _;have i1:(k:Int)<(v.OL.length:Int):=by omega
   clear hM hG hiv hn
   go_wp2_with fail
   clear q0
   go_loopw [20] (fun s20 wq=> ∃(j:Nat) (ov:Value),s20= .int .i64 j/\j<=n/\aj w0 wq d { v with ov:=ov } (aS d.T NL) ng ⟨fun _=>0,ni v.OL k++((v.OL.getD k []).take j).map (fun i=>(k,i)),0⟩/\aF d v { v with ov:=ov } w wq) (fun s _=>n-(intOf s).toNat)
   case atStart=>exact⟨0,ov,rfl,Nat.zero_le _,by simpa using DU.out,pq.out⟩
   case round=>
    clear DU pq;obtain⟨j,ov,rfl,hj,hM,hG⟩:=hrel;have pq:Hid (aF d v { v with ov:=ov } w wr):=hG;have DU:Hid (aj w0 wr d { v with ov:=ov } (aS d.T NL) ng ⟨fun _=>0,ni v.OL k++((v.OL.getD k []).take j).map (fun i=>(k,i)),0⟩):=hM;by_cases hjl:j<n
    ·obtain⟨g',o',c',rE,_,q0,q1⟩:=(hM.items (k:=k) hlt).2 j (by rw[show ({ v with ov:=ov }:bS).OL=v.OL from rfl,HN.out];exact hjl)
     simp only at rE q0 q1;rw[DV.out,HN.out]at rE;cases rE;rw[<-Nat.add_assoc]at q1
     have yX:(ni v.OL k++((v.OL.getD k []).take j).map (fun i=>(k,i))).length<=100000:=by
      rw[List.length_append,List.length_map,List.length_take];have:=few;have:k*369<=150*369:=Nat.mul_le_mul_right _ (by omega);omega
     obtain⟨it,hit⟩:∃it,(v.OL.getD k []).getD j (0,0)=it:=⟨_,rfl⟩;rw[hit]at q0 q1
     have HT:Hid (((v.OL.getD k []).take (j+1)).map (fun i=>(k,i))=((v.OL.getD k []).take j).map (fun i=>(k,i))++[(k,it)]):=by
      show ((v.OL.getD k []).take (j+1)).map _=_;have hj2:j<(v.OL.getD k []).length:=by rw[HN.out];exact hjl
      have e:(v.OL.getD k [])[j]=it:=by rw[<-hit];exact(GI hj2).symm
      rw[List.take_succ_eq_append_getElem hj2,List.map_append,e];rfl
     obtain⟨P,hP⟩:∃P,ni v.OL k++((v.OL.getD k []).take j).map (fun i=>(k,i))=P:=⟨_,rfl⟩;have HP:Hid (ni v.OL k++((v.OL.getD k []).take j).map (fun i=>(k,i))=P):=hP;rw[hP]at hM yX;obtain⟨a,b⟩:=it;simp only at q0 q1;have hM1:=hM.alloc (.cells #[.int .i64 a,.int .i64 b] 138);have hX1:=hM.box #[.int .i64 a,.int .i64 b] 138;obtain⟨W1,hW1⟩:∃W1,wr.alloc (.cells #[.int .i64 a,.int .i64 b] 138)=W1:=⟨_,rfl⟩;rw[hW1]at hM1 hX1;have x0:=hX1.cell (i:=0) rfl;have x1:=hX1.cell (i:=1) rfl;have i2:(0:Int)<=(j:Int):=Int.natCast_nonneg _;have i3:(j:Int)<(n:Int):=by omega
     obtain⟨oa,oc,hov⟩:=hM1.own.slice (i:= .op) rfl;have lG:ov= .slice oa P.length oc:=hov;subst lG;have h4:=hM1.alloc (.cells #[.int .i64 k,.int .i64 a,.int .i64 b] 145);have e9:=(hM1.cell (i:=9) rfl (by omega)).1;have f9:=(h4.cell (i:=9) rfl (by omega)).1;have dz:((W1.alloc (.cells #[.int .i64 k,.int .i64 a,.int .i64 b] 145)).drew).ownsRow w0.heap.size 145 3 (.slice oa P.length oc) P.length (P.flatMap jY):=h4.own.own .op _ rfl;have hma:d.ma<W1.heap.size:=hM1.Az;have hne:some d.ma≠(Value.slice oa P.length oc).ownBlock:=fun e1=>h4.own.apart .ma .op _ _ (by simp) rfl rfl d.ma rfl e1.symm;have KZ:=(h4.cell (i:=9) rfl (by omega)).2;have hn1:P.length+1<=maxLen:=by unfold maxLen;omega
     have hn2:(P.length+1)*24<=140737488355328:=by omega
     have hB3:w0.heap.size<=W1.heap.size:=hM1.le;have H4:Hid (aj w0 (W1.alloc (.cells #[.int .i64 k,.int .i64 a,.int .i64 b] 145)).drew d { v with ov:= .slice oa P.length oc } (aS d.T NL) ng ⟨fun _=>0,P,0⟩):=h4.drew
     have HG4:Hid (aF d v { v with ov:= .slice oa P.length oc } w (W1.alloc (.cells #[.int .i64 k,.int .i64 a,.int .i64 b] 145)).drew):=by
      show aF _ _ _ _ _;rw[<-hW1];exact((pq.out.alloc _).alloc _).drew
     have qp:Hid (W1.heap.size=wr.heap.size+1):=by show W1.heap.size=_;rw[<-hW1];simp
     obtain⟨i5,hi0,hz0,hz1,hz2⟩:=info_parts Tryz.infoSpo;clear hM hG hM1 hX1 h4 hov hP hit
     go_wp2_with fail
     clear hW1
     go_region_law
      ((refine step_append_lies _ (by rfl) _ _ _ (by rfl) w0.heap.size 145 i5 _ 3 24 Tryz.underlying105 hi0 hz0 hz1 hz2 rfl (by omega) (.slice oa P.length oc) P.length (P.flatMap jY) (by rfl) dz
         ⟨W1.heap.size,0,none⟩ 1 1 [.int .i64 k,.int .i64 a,.int .i64 b] (by rfl) (by rfl) (World.news_of_block (cs:= #[.int .i64 k,.int .i64 a,.int .i64 b]) (t:=145) (fr:=(0,0)) (heap_alloc_new W1 _)) (by simp[Value.oneCell'])
         (by omega) hn1 hn2 (by simp;omega) (W1.heap.size+1) (by simp) ?_;intro g5 cap5 w5 hown5 hgrow hat uZ;have c9':=(hgrow.cell_far ⟨d.ma,9,none⟩ (by simp;omega) hne).trans f9;have f9':=(hgrow.frozen_far ⟨d.ma,9,none⟩ (by simp;omega) hne).trans KZ))
     all_goals
      go_wp2_with fail
      go_roundw
      case rel=>
       have r:=H4.out.aa3 (s:=(k,(a,b))) rfl hown5 hgrow (by simpa using hat);exact⟨j+1,_,by go_num,by omega,by rw[HT.out,<-List.append_assoc,HP.out];exact r.1,HG4.out.trans r.2⟩
      case measure=>simp[intOf];omega
    ·obtain rfl:j=n:=by omega
     rw[<-HN.out,List.take_length,<-Sj]at hM;have K9:Hid (aj w0 wr d { v with ov:=ov } (aS d.T NL) ng ⟨fun _=>0,ni v.OL (k+1),0⟩):=hM;clear hM hG
     go_wp2_with fail
     go_roundw
     case rel=>exact⟨k+1,ov,by go_num,by omega,K9.out,pq.out⟩
     case measure=>simp[intOf];omega
  ·obtain rfl:k=v.OL.length:=by omega
   obtain⟨st0,AR⟩:∃st0,(⟨fun _=>0,ni v.OL v.OL.length,0⟩:LS)=st0:=⟨_,rfl⟩;rw[AR]at hM;have hT:=HE.out.hT;have Sk:2^d.T<512:=Nat.lt_of_le_of_lt (Nat.pow_le_pow_right (by omega) hT) (by decide)
   have yX:st0.O.length<=100000/\st0.c=0/\∀s,st0.lk s=0:=by
    rw[<-AR];have:=La.out v.OL.length (Nat.le_refl _);have:v.OL.length*369<=150*369:=Nat.mul_le_mul_right _ few;exact⟨by simp only;omega,rfl,fun _=>rfl⟩
   have hI0:mW d.T R v.OL NL Ls Nu Fi st0:=by rw[<-AR];exact aao v.OL
   have Sl:iR v.OL d.T st0<=2000000:=by
    unfold iR DC;have h1:=List.length_filter_le (fun q:aN×Nat=> !(st0.lk q.1).testBit q.2) (yP v.OL d.T);rw[aa1]at h1;have h2:(vB v.OL).length=st0.O.length:=by rw[<-AR];rfl
    have h3:=yX.1;have h4:(vB v.OL).length*(d.T+1)<=100000*9:=Nat.mul_le_mul (by omega) (by omega);have h5:=yX.2.1;have h6:=La.out v.OL.length (Nat.le_refl _);have h7:v.OL.length*369<=150*369:=Nat.mul_le_mul_right _ few;have h8:(vB v.OL).length<=55350:=by rw[h2,<-AR];simp only;omega
    have h9:(vB v.OL).length*(d.T+1)<=55350*9:=Nat.mul_le_mul h8 (by omega);omega
   have AU:iC wr.drew w0.heap.size d.ma d.T d.N d.rv R:=hM.drew.auto HE.out;have xD:=Gm AU;have one:=Gq (w:=wr.drew) (n:=d.T) hT;obtain⟨pw,hpw⟩:∃pw,2^d.T=pw:=⟨_,rfl⟩;rw[hpw]at one Sk;have xC:=K3 hM.drew (a:=0) (b:=R.length) (c:=0) (m:=pw) ⟨Nat.zero_le _,by have:=HE.out.hR;simp only;omega,Nat.zero_le _⟩ Sk (by rw[yX.2.2];omega) (by rw[yX.2.1];omega) (by omega);have a0:=AU.t
   have ok1:OkG d.T R Nu Fi NL Ls v.OL ((0,(R.length,0)),pw):=⟨HA.out.zero,fun t ht=>by
    rw[<-hpw,Nat.testBit_two_pow]at ht;have:t=d.T:=by simpa using (of_decide_eq_true ht).symm
    subst this
    exact⟨Nat.le_refl _,qB.start⟩⟩
   have HI1:Hid (mW d.T R v.OL NL Ls Nu Fi (eY ((0,(R.length,0)),pw) st0)):=hI0.give ok1
   have HZ1:Hid (((eY ((0,(R.length,0)),pw) st0).lk (0,(R.length,0))).testBit d.T=true):=by
    show ((eY ((0,(R.length,0)),pw) st0).lk (0,(R.length,0))).testBit d.T=true;have hb:pw.testBit d.T=true:=by rw[<-hpw,Nat.testBit_two_pow];simp
    unfold eY;split
    ·rename_i he
     exact or_bit he hb
    ·simp[Nat.testBit_or,hb]
   have Lb:Hid (iR v.OL d.T (eY ((0,(R.length,0)),pw) st0)<=2000000):=Nat.le_trans (Rw ⟨ok1.1,fun t ht=>(ok1.2 t ht).1⟩) Sl;have hz:((0:Nat):Int)=0:=rfl;rw[hz]at xC;clear hM hG AR AU hI0 Sl ok1 hpw yX hz
   go_wp2_with fail
   go_cut [] from 38 (fun wx=> ∃aA,aj w0 wx d { v with ov:=aA } (aS d.T NL) ng (eY ((0,(R.length,0)),pw) st0)/\aF d v { v with ov:=aA } w wx)
   case first=>
    go_region_held3 (fun wx=>wx.cell? ⟨d.ma,0,none⟩=some (.int .i64 d.T)) (first|assumption|go_keep)
     (first
      |(go_at_call 79;refine xD.mono ?_;rintro e w5 ⟨rfl,rfl⟩)
      |(go_at_call 83;refine one.mono ?_;rintro e w5 ⟨rfl,rfl⟩)
      |(go_at_call 82;refine xC.mono ?_;rintro e w6 ⟨rfl,aA,jv,o9⟩
        have a06:=(jv.cell (i:=0) rfl (by omega)).1;have mJ:Hid (aj w0 w6 d { v with ov:=aA } (aS d.T NL) ng (eY ((0,(R.length,0)),pw) st0)/\aF d v { v with ov:=aA } w w6):=⟨jv,pq.out.drew.trans o9⟩
        clear jv o9))
    all_goals
     go_wp2_with fail
     go_meet
     case rel=>exact⟨aA,mJ.out.1,mJ.out.2⟩
   case rest=>
    obtain⟨iB,hM,hG⟩:=hcut;obtain⟨st1,jI⟩:∃st1,eY ((0,(R.length,0)),pw) st0=st1:=⟨_,rfl⟩;rw[jI]at hM HI1 HZ1 Lb;have pE:Hid (aj w0 wc d { v with ov:=iB } (aS d.T NL) ng st1):=hM;have Cc:Hid (aF d v { v with ov:=iB } w wc):=hG;clear hM hG jI xD one xC a0 DU pq
    go_wp2_with fail
    go_loopg [] (iR v.OL d.T st1) (fun gk wq=> ∃ov st,gk=iR v.OL d.T st/\aj w0 wq d { v with ov:=ov } (aS d.T NL) ng st/\mW d.T R v.OL NL Ls Nu Fi st/\(st.lk (0,(R.length,0))).testBit d.T=true/\iR v.OL d.T st<=2000000/\aF d v { v with ov:=ov } w wq)
    case atStart=>exact⟨iB,st1,rfl,pE.out,HI1.out,HZ1.out,Lb.out,Cc.out⟩
    case round=>
     clear pE Cc HI1 HZ1 Lb;obtain⟨ov,⟨lk,OO,cc⟩,lJ,hM,hI,hZ,hP,hG⟩:=hrel;have hfr:=hM.cell (i:=9) rfl (by omega);have hlk:∀s,lk s<512:=fun s=>aa2 hT fun t ht=>(hI.snd s t ht).2.1;have Sm:cc<=2000000/\OO.length<=2000000:=by unfold iR at hP;simp only at hP;omega
     have pq:Hid (aF d v { v with ov:=ov } w wr):=hG;have Ku:Hid (gk=iR v.OL d.T ⟨lk,OO,cc⟩):=lJ;rcases List.eq_nil_or_concat OO with hO|⟨O,p,hO⟩
     ·subst hO
      obtain⟨oa,oc,hov⟩:=hM.own.slice (i:= .op) rfl;simp only[List.length_nil]at hov;subst hov;have c9:=hfr.1;have HF:Hid (aj w0 wr d { v with ov:= .slice oa 0 oc } (aS d.T NL) ng ⟨lk,[],cc⟩/\DT d.T d.N R v.OL NL Ls Nu Fi ⟨lk,[],cc⟩):=⟨hM,hI,rfl,hZ,by simp only;omega,hlk⟩;clear hM hI hZ hP hG lJ hfr hlk
      go_wp2_with fail
      go_end0
      exact⟨rfl,_,_,HF.out.1,HF.out.2,pq.out⟩
     ·rw[List.concat_eq_append]at hO
      subst hO;obtain⟨g,cap,hgv,_,C8⟩:=hM.own.form (i:= .op) rfl (by simp);simp only[List.length_append,List.length_cons,List.length_nil,Nat.zero_add]at hgv;subst hgv;have ho:=hM.own.own .op _ rfl;simp only at ho;have hl1:(O++[p]).length=O.length+1:=by simp
      rw[hl1]at ho
      have q:∀i,i<3->wr.cell? ⟨g,O.length*3+i,none⟩=(jY p)[i]?:=fun i hi=>by
       rw[ho.cellAt (O.length*3+i) (by omega),aaD (by simp) hi];simp[List.getD]
      have hcap:O.length+1<=cap:=by
       rcases ho.2 with⟨e,_⟩|⟨g',cap',cur,e,_,_,h4,_⟩
       ·cases e
       ·injection e with _ _ e3
        omega
      obtain⟨pm,pg⟩:=hM.pop (O:=O) (p:=p) rfl rfl;obtain⟨k,a,b⟩:=p;have q0:=q 0 (by omega);have q1:=q 1 (by omega);have q2:=q 2 (by omega);simp only[jY,Nat.add_zero]at q0 q1 q2;have yY:wr.cell? ⟨g,O.length*3,none⟩=some (.int .i64 k):=q0;have q1':wr.cell? ⟨g,O.length*3+1,none⟩=some (.int .i64 a):=q1;have q2':wr.cell? ⟨g,O.length*3+2,none⟩=some (.int .i64 b):=q2;have Sn:=pm.alloc (.cells #[.int .i64 k,.int .i64 a,.int .i64 b] 145);have Ah:O.length<=2000000:=by have:=Sm.2;simp only[List.length_append,List.length_cons,List.length_nil]at this;omega
      have lkc:=aa4 HE.out Sn (k:=k) (a:=a) (b:=b) ⟨HA.out,hI.opn _ (by simp),hlk,few,ol,by simp only;omega,by simp only;omega⟩
      have HN:Hid (mW d.T R v.OL NL Ls Nu Fi (nW d.T R NL Nu Fi (k,(a,b)) ⟨lk,O,cc⟩)):=hI.look HA.out (fun n=>by
       by_cases hn:n<d.N
       ·rw[HE.out.yR n hn];exact Nat.le_refl _
       ·rw[List.getD,List.getElem?_eq_none (by rw[HE.out.xu];omega)];simp)
      have GJ:Hid (iR v.OL d.T (nW d.T R NL Nu Fi (k,(a,b)) ⟨lk,O,cc⟩)<iR v.OL d.T ⟨lk,O++[(k,(a,b))],cc⟩):=aas HA.out (fun n=>by
       by_cases hn:n<d.N
       ·rw[HE.out.yR n hn];exact Nat.le_refl _
       ·rw[List.getD,List.getElem?_eq_none (by rw[HE.out.xu];omega)];simp) hI
      have GK:Hid (((nW d.T R NL Nu Fi (k,(a,b)) ⟨lk,O,cc⟩).lk (0,(R.length,0))).testBit d.T=true):=aaq _ _ hZ;have HPg:Hid (aF d { v with ov:= .slice (some ⟨g,0,none⟩) (O.length+1) cap } { v with ov:= .slice (some ⟨g,0,none⟩) O.length cap } wr ((wr.setCell ⟨d.ma,9,none⟩ (.slice (some ⟨g,0,none⟩) O.length cap)).alloc (.cells #[.int .i64 k,.int .i64 a,.int .i64 b] 145))):=pg.alloc _;have qO:Hid (iR v.OL d.T ⟨lk,O++[(k,(a,b))],cc⟩<=2000000):=hP;have c9:=hfr.1;have f9:=hfr.2;have hma:d.ma<wr.heap.size:=hM.Az;have i0:(0:Int)<=(O.length:Int):=Int.natCast_nonneg _;have i1:(O.length:Int)<(O.length:Int)+1:=by omega
      have i2:(O.length:Int)<=(cap:Int):=by omega
      clear hM hI hZ hP hG lJ hfr hlk hl1 ho q q0 q1 q2 pm pg Sn Sm C8
      go_wp2_with (go_at_call 84;refine lkc.mono ?_;rintro r w1 ⟨rfl,aA,h3,h4⟩)
      go_roundg (iR v.OL d.T (nW d.T R NL Nu Fi (k,(a,b)) ⟨lk,O,cc⟩))
      case measure=>rw[Ku.out];exact GJ.out
      case rel=>exact⟨aA,_,rfl,h3,HN.out,GK.out,Nat.le_trans (Nat.le_of_lt GJ.out) qO.out,(pq.out.trans HPg.out).trans h4⟩
end Go.Proofs.YtblkkhfdeaaidaaGreatDoor
namespace Go.Proofs.YtblkkhfdeaaidaaGreatDoor
open Go.Shelf
def Tryz.sortIt_ren:Go.Shelf.Ren:=⟨fun|6=>134|15=>164|14=>163|28=>188|29=>159|20=>180|21=>181|22=>182|23=>183|24=>184|25=>185|26=>186|27=>187|46=>196|47=>197|48=>198|49=>199|50=>200|57=>201|n=>n,fun|22=>139|24=>138|25=>222|3=>3|39=>83|0=>0|53=>126|55=>214|4=>4|46=>269|45=>268|50=>118|5=>5|9=>9|66=>283|70=>287|76=>289|77=>290|n=>n,fun|n=>n⟩
theorem Tryz.sortIt:Go.Proofs.SlLaysF0.n6 Tryz.prog Tryz.sortIt_ren:={
 mixed:=by kernel_rfl
 f6:=⟨Tryz.f134.name,by decide,Tryz.func134.trans (congrArg some (by kernel_rfl))⟩
 f14:=⟨Tryz.f163.name,by decide,Tryz.func163.trans (congrArg some (by kernel_rfl))⟩
 f15:=Tryz.func164.trans (congrArg some (by kernel_rfl))
 f20:=⟨Tryz.f180.name,by decide,Tryz.func180.trans (congrArg some (by kernel_rfl))⟩
 f21:=⟨Tryz.f181.name,by decide,Tryz.func181.trans (congrArg some (by kernel_rfl))⟩
 f22:=⟨Tryz.f182.name,by decide,Tryz.func182.trans (congrArg some (by kernel_rfl))⟩
 f23:=⟨Tryz.f183.name,by decide,Tryz.func183.trans (congrArg some (by kernel_rfl))⟩
 f24:=⟨Tryz.f184.name,by decide,Tryz.func184.trans (congrArg some (by kernel_rfl))⟩
 f25:=⟨Tryz.f185.name,by decide,Tryz.func185.trans (congrArg some (by kernel_rfl))⟩
 f26:=⟨Tryz.f186.name,by decide,Tryz.func186.trans (congrArg some (by kernel_rfl))⟩
 f27:=⟨Tryz.f187.name,by decide,Tryz.func187.trans (congrArg some (by kernel_rfl))⟩
 f28:=Tryz.func188.trans (congrArg some (by kernel_rfl))
 f29:=Tryz.func159.trans (congrArg some (by kernel_rfl))
 f46:=⟨Tryz.f196.name,by decide,Tryz.func196.trans (congrArg some (by kernel_rfl))⟩
 f47:=Tryz.func197.trans (congrArg some (by kernel_rfl))
 f48:=Tryz.func198.trans (congrArg some (by kernel_rfl))
 f49:=⟨Tryz.f199.name,by decide,Tryz.func199.trans (congrArg some (by kernel_rfl))⟩
 f50:=⟨Tryz.f200.name,by decide,Tryz.func200.trans (congrArg some (by kernel_rfl))⟩
 f57:=⟨Tryz.f201.name,by decide,Tryz.func201.trans (congrArg some (by kernel_rfl))⟩
 t0:=Tryz.underlying0
 a0:=Tryz.isAgg0
 z0:=Tryz.sizeOf0
 v0:=Tryz.zeroValue0
 t3:=Tryz.underlying3
 a3:=Tryz.isAgg3
 z3:=Tryz.sizeOf3
 v3:=Tryz.zeroValue3
 t4:=Tryz.underlying4
 a4:=Tryz.isAgg4
 z4:=Tryz.sizeOf4
 v4:=Tryz.zeroValue4
 t5:=Tryz.underlying5
 a5:=Tryz.isAgg5
 z5:=Tryz.sizeOf5
 v5:=Tryz.zeroValue5
 t9:=Tryz.underlying9
 a9:=Tryz.isAgg9
 z9:=Tryz.sizeOf9
 v9:=Tryz.zeroValue9
 t22:=Tryz.underlying139
 a22:=Tryz.isAgg139
 z22:=Tryz.sizeOf139
 v22:=Tryz.zeroValue139
 t25:=Tryz.underlying222
 a25:=Tryz.isAgg222
 z25:=Tryz.sizeOf222
 v25:=Tryz.zeroValue222
 t39:=Tryz.underlying83
 a39:=Tryz.isAgg83
 z39:=Tryz.sizeOf83
 v39:=Tryz.zeroValue83
 t45:=Tryz.underlying268
 a45:=Tryz.isAgg268
 z45:=Tryz.sizeOf268
 v45:=Tryz.zeroValue268
 t46:=Tryz.underlying269
 a46:=Tryz.isAgg269
 z46:=Tryz.sizeOf269
 v46:=Tryz.zeroValue269
 t50:=Tryz.underlying118
 a50:=Tryz.isAgg118
 z50:=Tryz.sizeOf118
 v50:=Tryz.zeroValue118
 t53:=Tryz.underlying126
 a53:=Tryz.isAgg126
 z53:=Tryz.sizeOf126
 v53:=Tryz.zeroValue126
 t55:=Tryz.underlying214
 a55:=Tryz.isAgg214
 z55:=Tryz.sizeOf214
 v55:=Tryz.zeroValue214
 t66:=Tryz.underlying283
 a66:=Tryz.isAgg283
 z66:=Tryz.sizeOf283
 v66:=Tryz.zeroValue283
 t70:=Tryz.underlying287
 a70:=Tryz.isAgg287
 z70:=Tryz.sizeOf287
 v70:=Tryz.zeroValue287
 t76:=Tryz.underlying289
 a76:=Tryz.isAgg289
 z76:=Tryz.sizeOf289
 v76:=Tryz.zeroValue289
 t77:=Tryz.underlying290
 a77:=Tryz.isAgg290
 z77:=Tryz.sizeOf290
 v77:=Tryz.zeroValue290 }
open Go.RowKit
def rF(a b:Nat):Int:=if a<b then -1 else if b<a then 1 else 0
def vH(x y:It):Int:=if rF x.1 y.1=0 then rF x.2 y.2 else rF x.1 y.1
theorem xE(x y:It):ltOf vH x y=true↔iq x y:=by
 unfold ltOf vH rF iq;rw[decide_eq_true_eq];by_cases h1:x.1<y.1
 ·simp[h1]
 ·by_cases h2:y.1<x.1
  ·have h3:x.1≠y.1:=by omega
   simp[h1,h2,h3]
  ·have h3:x.1=y.1:=by omega
   by_cases h4:x.2<y.2
   ·simp[h3,h4]
   ·by_cases h5:y.2<x.2<;>simp[h3,h4,h5]
theorem Sq{w:World}(a b:Nat):Calls Tryz.prog 137 #[.int .i64 a,.int .i64 b] w fun e w'=>e= .returned (.int .i64 (rF a b))/\w'=w:=by
 have nan:∀(x:Nat) (W:World),Calls Tryz.prog 165 #[.int .i64 x] W fun e w'=>e= .returned (.bool false)/\w'=W:=fun x W=>by
  go_enter Tryz.func165,Tryz.ntmps165
  go_wp2_with fail
  go_ret;simp
 unfold rF;by_cases h1:a<b
 ·rw[if_pos h1]
  have d1:decide (a<b)=true:=decide_eq_true h1
  go_enter Tryz.func137,Tryz.ntmps137
  go_wp2_with (go_at_call 165;refine(nan _ _).mono ?_;rintro e w' ⟨rfl,rfl⟩)
  go_ret;exact⟨rfl,rfl⟩
 ·rw[if_neg h1]
  have d1:decide (a<b)=false:=decide_eq_false h1;by_cases h2:b<a
  ·rw[if_pos h2]
   have d2:decide (b<a)=true:=decide_eq_true h2
   go_enter Tryz.func137,Tryz.ntmps137
   go_wp2_with (go_at_call 165;refine(nan _ _).mono ?_;rintro e w' ⟨rfl,rfl⟩)
   go_ret;exact⟨rfl,rfl⟩
  ·rw[if_neg h2]
   have d2:decide (b<a)=false:=decide_eq_false h2
   go_enter Tryz.func137,Tryz.ntmps137
   go_wp2_with (go_at_call 165;refine(nan _ _).mono ?_;rintro e w' ⟨rfl,rfl⟩)
   go_ret;exact⟨rfl,rfl⟩
theorem aa6{w:World}{b:Nat}{x y:Int}(c0:w.cell? ⟨b,0,none⟩=some (.int .i64 x))(c1:w.cell? ⟨b,1,none⟩=some (.int .i64 y)):
 Calls Tryz.prog 136 #[.slice (some ⟨b,0,none⟩) 2 2] w fun e w'=>e= .returned (.int .i64 (if x=0 then y else x))/\w'=w:=by
 obtain⟨r,hr⟩:∃r,(if x=0 then y else x)=r:=⟨_,rfl⟩;have HR:Hid ((x≠0->r=x)/\(x=0->r=y)):=⟨fun h=>by rw[<-hr,if_neg h],fun h=>by rw[<-hr,if_pos h]⟩;rw[hr];clear hr
 go_enter Tryz.func136,Tryz.ntmps136
 go_wp2_with fail
 go_loopw [8] (fun s wr=> ∃k:Nat,s= .int .i64 k/\k<=2/\wr=w/\(1<=k->x=0)/\(2<=k->y=0)) (fun s _=>2-(intOf s).toNat)
 case atStart=>exact⟨0,rfl,by omega,rfl,by omega,by omega⟩
 case round=>
  obtain⟨k,rfl,hk,rfl,h1,h2⟩:=hrel;have hcs:k=0\/k=1\/k=2:=by omega
  rcases hcs with rfl|rfl|rfl
  ·clear h1 h2
   by_cases hx:x=0
   ·have e1:(x !=0)=false:=by simpa using hx
    have HX:Hid (x=0):=hx;clear hx
    go_wp2_with fail
    go_roundw
    case rel=>exact⟨1,rfl,by omega,trivial,fun _=>HX.out,by omega⟩
    case measure=>simp[intOf]
   ·have e1:(x !=0)=true:=by simpa using hx
    have hx':=HR.out.1 hx;clear hx HR;subst hx'
    go_wp2_with fail
    go_ret;exact⟨rfl,rfl⟩
  ·have hx:=h1 (by omega)
   have hr:=HR.out.2 hx;have HX:Hid (x=0):=hx;clear h1 h2 hx HR;subst hr;by_cases hy:r=0
   ·have e1:(r !=0)=false:=by simpa using hy
    have HY:Hid (r=0):=hy;clear hy
    go_wp2_with fail
    go_roundw
    case rel=>exact⟨2,rfl,by omega,trivial,fun _=>HX.out,fun _=>HY.out⟩
    case measure=>simp[intOf]
   ·have e1:(r !=0)=true:=by simpa using hy
    clear hy
    go_wp2_with fail
    go_ret;exact⟨rfl,rfl⟩
  ·have hx:=h1 (by omega)
   have hy:=h2 (by omega);have hr:=HR.out.2 hx;rw[hy]at hr;clear h1 h2 HR;subst hr
   go_wp2_with fail
   go_ret;exact⟨rfl,rfl⟩
theorem aa7(x y:It)(W:World):Calls Tryz.prog 135 #[.agg #[.int .i64 x.1,.int .i64 x.2],.agg #[.int .i64 y.1,.int .i64 y.2]] W fun e w'=>e= .returned (.int .i64 (vH x y))/\∃q os',w'=Go.Sort.grow (W.drewN q) os':=by
 obtain⟨a,b⟩:=x;obtain⟨c,d⟩:=y;simp only;have HC:Hid (vH (a,b) (c,d)=if rF a c=0 then rF b d else rF a c):=rfl;obtain⟨p,hp⟩:∃p,rF a c=p:=⟨_,rfl⟩;obtain⟨q,hq⟩:∃q,rF b d=q:=⟨_,rfl⟩;have c1:=fun w=>Sq (w:=w) a c;have c2:=fun w=>Sq (w:=w) b d;rw[hp,hq]at HC;simp only[hp]at c1;simp only[hq]at c2;have co:=fun(w:World) (b:Nat) c0 c1=>aa6 (w:=w) (b:=b) (x:=p) (y:=q) c0 c1;obtain⟨r,hr⟩:∃r,(if p=0 then q else p)=r:=⟨_,rfl⟩;simp only[hr]at co;rw[hr]at HC;clear hp hq hr;obtain⟨W1,hW1⟩:∃W1,(W.alloc (.cells #[.int .i64 a,.int .i64 b] 138)).alloc (.cells #[.int .i64 c,.int .i64 d] 138)=W1:=⟨_,rfl⟩;have b0:W1.cell? ⟨W.heap.size,0,none⟩=some (.int .i64 a):=by rw[<-hW1];simp[go_sem]
 have b1:W1.cell? ⟨W.heap.size,1,none⟩=some (.int .i64 b):=by rw[<-hW1];simp[go_sem]
 have b2:W1.cell? ⟨W.heap.size+1,0,none⟩=some (.int .i64 c):=by rw[<-hW1];simp[go_sem]
 have b3:W1.cell? ⟨W.heap.size+1,1,none⟩=some (.int .i64 d):=by rw[<-hW1];simp[go_sem]
 have HW1:Hid (W1=Go.Sort.grow W #[.cells #[.int .i64 a,.int .i64 b] 138,.cells #[.int .i64 c,.int .i64 d] 138]):=by
  show W1=_;rw[<-hW1,Go.Sort.alloc_eq_grow,Go.Sort.alloc_eq_grow,Go.Sort.grow_grow];rfl
 have n0:=World.new_ne W1 _ b0;have n1:=World.new_ne W1 _ b2
 go_enter Tryz.func135,Tryz.ntmps135
 go_wp2_with fail
 clear hW1
 go_region_held3 (fun w'=>w'.cell? ⟨W.heap.size,0,none⟩=some (.int .i64 a)/\w'.cell? ⟨W.heap.size,1,none⟩=some (.int .i64 b)/\w'.cell? ⟨W.heap.size+1,0,none⟩=some (.int .i64 c)/\w'.cell? ⟨W.heap.size+1,1,none⟩=some (.int .i64 d)) (go_keep)
  (first
   |(go_at_call_of 137 (Value.int .i64 a);refine(c1 _).mono ?_;rintro e w' ⟨rfl,rfl⟩)
   |(go_at_call_of 137 (Value.int .i64 b);refine(c2 _).mono ?_;rintro e w' ⟨rfl,rfl⟩)
   |(go_at_call 136;refine(co _ _ (by simp[go_sem]) (by simp[go_sem])).mono ?_;rintro e w' ⟨rfl,rfl⟩))
 all_goals
  go_wp2_with fail
  go_ret;refine⟨by rw[HC.out];rfl,1,#[.cells #[.int .i64 a,.int .i64 b] 138,.cells #[.int .i64 c,.int .i64 d] 138]++ #[.cells #[.int .i64 p,.int .i64 q] 3],?_⟩;rw[HW1.out,Go.Sort.alloc_eq_grow,Go.Sort.grow_grow];rfl
theorem Sr(d:Array It):(Go.Sort.flatK aT 2 d).toList=d.toList.flatMap aT:=by
 apply List.ext_getElem?;intro t;have hl:=DK d.toList;by_cases ht:t<d.size*2
 ·have h1:t/2<d.toList.length:=by simp;omega
  have h2:=DJ (L:=d.toList) (i:=t/2) (k:=t%2) h1 (by omega);rw[show t/2*2+t%2=t by omega]at h2;rw[h2,Array.getElem?_toList];have h3:t<(Go.Sort.flatK aT 2 d).size:=by simpa using ht
  rw[Array.getElem?_eq_getElem h3];have h4:=Go.Sort.get_flatK aT 2 d t ht;rw[getElem!_pos _ t h3]at h4;rw[h4]
  have e:d[t/2]! =d.toList.getD (t/2) (0,0):=by
   have h5:t/2<d.size:=by omega
   rw[getElem!_pos d (t/2) h5];simp[List.getD,h5]
  rw[e];have h6:t%2<(aT (d.toList.getD (t/2) (0,0))).length:=by simp[aT];omega
  rw[getElem!_pos (aT (d.toList.getD (t/2) (0,0))) (t%2) h6,List.getElem?_eq_getElem h6]
 ·rw[List.getElem?_eq_none (by simp;omega),List.getElem?_eq_none (by rw[hl];simp;omega)]
theorem aa8{w:World}{base g cap:Nat}{L:List It}(h:w.ownsRow base 138 2 (.slice (some ⟨g,0,none⟩) L.length cap) L.length (L.flatMap aT)):Go.Sort.HoldsK aT 2 w g 0 L.toArray:=by
 intro j hj;have hj':j<L.length*2:=by simpa using hj
 refine⟨?_,by rw[Nat.zero_add];exact h.frozenAt j⟩;rw[Nat.zero_add,h.cellAt j hj'];have e:L.flatMap aT=(Go.Sort.flatK aT 2 L.toArray).toList:=(Sr L.toArray).symm;rw[e,Array.getElem?_toList,Array.getElem?_eq_getElem hj];rw[getElem!_pos _ j hj];rfl
theorem aa9{w:World}{g n:Nat}{os:Array Obj}(d:Array It):w.grownBy (sortWorldK aT 2 w g 0 n d os) (some g):=by
 unfold sortWorldK Go.Sort.putRowK;refine⟨rfl,rfl,rfl,by simp,fun k hk hne=> ?_⟩;rw[Go.Sort.heap_grow_old _ _ (by simpa using hk)];have:g≠k:=fun e=>hne (by rw[e]);simp[Go.Sort.putRow,Go.Sort.mapBlock,Go.Sort.ahead,Array.getElem?_modify,this]
theorem abb{w:World}{base g cap n:Nat}{L:List It}{os:Array Obj}(h:w.ownsRow base 138 2 (.slice (some ⟨g,0,none⟩) L.length cap) L.length (L.flatMap aT)){d:Array It}(hs:d.size=L.length):
 (sortWorldK aT 2 w g 0 n d os).ownsRow base 138 2 (.slice (some ⟨g,0,none⟩) L.length cap) L.length (d.toList.flatMap aT):=by
 refine⟨by rw[DK];simp[hs],?_⟩;rcases h.2 with⟨e,_⟩|⟨g',cap',cur,e,h2,h3,h4,h5,h6,h7⟩
 ·cases e
 ·injection e with e1 e2 e3
  injection e1 with e1;injection e1 with e1;subst e1;subst e3;have hg:g<w.heap.size:=(Array.getElem?_eq_some_iff.1 h3).1;refine .inr ⟨g,cap,Go.Sort.putCells id 0 (Go.Sort.flatK aT 2 d) cur,rfl,h2,?_,h4,h5,by simp[Go.Sort.putCells,h6],?_⟩
  ·unfold sortWorldK Go.Sort.putRowK
   rw[Go.Sort.heap_grow_old _ _ (by simpa using hg)];simp[Go.Sort.putRow,Go.Sort.mapBlock,Go.Sort.ahead,Array.getElem?_modify,h3,Go.Sort.onCells]
  ·rw[<-Sr]
   have hsz:(Go.Sort.flatK aT 2 d).size=L.length*2:=by simp[hs]
   apply List.ext_getElem?;intro j;by_cases hj:j<L.length*2
   ·have hjc:j<cur.size:=by omega
    rw[List.getElem?_take_of_lt hj,Array.getElem?_toList,Array.getElem?_toList];unfold Go.Sort.putCells;rw[Array.getElem?_mapIdx,Array.getElem?_eq_getElem hjc,Array.getElem?_eq_getElem (by omega:j<(Go.Sort.flatK aT 2 d).size)];simp only[Option.map_some,Nat.zero_le,Nat.zero_add,true_and,Nat.sub_zero,id];rw[if_pos (by omega),getElem!_pos _ j (by omega)]
   ·rw[List.getElem?_take_eq_none (by omega),List.getElem?_eq_none (by simp[hs];omega)]
theorem abd:Go.Sort.SWO (ltOf vH) where
 irrefl x:=by
  cases h:ltOf vH x x with
  |false=>rfl
  |true=>exact absurd ((xE x x).1 h) (KL x)
 trans x y z h1 h2:=(xE x z).2 (Ri x y z ((xE x y).1 h1) ((xE y z).1 h2))
 ntrans x y z h1 h2:=by
  cases h:ltOf vH x z with
  |false=>rfl
  |true=>
   have h3:=(xE x z).1 h;have n1:¬iq x y:=fun e=>by rw[(xE x y).2 e]at h1;cases h1
   have n2:¬iq y z:=fun e=>by rw[(xE y z).2 e]at h2;cases h2
   unfold iq at h3 n1 n2;omega
theorem Tryz.itAgg:∀w,(isAgg 138).run Tryz.prog w= .ok true w:=Tryz.isAgg138
theorem Tryz.itSize:∀w,(Go.sizeOf 138).run Tryz.prog w= .ok 2 w:=Tryz.sizeOf138
theorem abe{w:World}{base g cap:Nat}{L:List It}(h:w.ownsRow base 138 2 (.slice (some ⟨g,0,none⟩) L.length cap) L.length (L.flatMap aT))(hl:L.length<=1000000)(hnd:L.Nodup):
 Calls Tryz.prog 134 #[.slice (some ⟨g,0,none⟩) L.length cap,.func (.func 135) #[] #[]] w fun e w'=>e= .returned (.tuple #[])/\
  ∃C:List It,C.length=L.length/\C.Pairwise iq/\(∀i,i∈C↔i∈L)/\w'.ownsRow base 138 2 (.slice (some ⟨g,0,none⟩) L.length cap) L.length (C.flatMap aT)/\w.grownBy w' (some g):=by
 have eg:∀args w,(callFunc 135 args).run Tryz.prog w= .ok (.enter 135 args) w:=enters_of Tryz.func135 (by kernel_rfl) rfl;have hcmp:CmpLays Tryz.prog 135 #[] aT 2 vH g 0 L.toArray.size w:=fun _ _ _ _ x y=>aa7 x y _;have hblk:g<w.heap.size:=(h.lt g rfl).2;have hcon:=AnyQ.slices_SortFunc Tryz.sortIt 2 Tryz.itAgg Tryz.itSize aT (fun _=>rfl) (fun x v hv=>by simp[aT]at hv;rcases hv with rfl|rfl<;>rfl) vH abd 135 #[] g 0 cap L.toArray w eg hcmp (aa8 h) hblk (by simp;omega);have hsz:L.toArray.size=L.length:=by simp
 rw[hsz]at hcon;refine Calls.mono hcon ?_;rintro e w' ⟨rfl,d',n,os,⟨hp1,_,hp3⟩,hs,rfl⟩;have hds:d'.size=L.length:=by rw[hp1];simp
 have hperm:d'.toList.Perm L:=by
  have e1:d'.extract 0 L.length=d':=by rw[<-hds];simp
  have e2:L.toArray.extract 0 L.length=L.toArray:=by simp
  rw[e1,e2]at hp3;simpa using hp3
 have hnd':d'.toList.Nodup:=hperm.symm.nodup hnd;refine⟨rfl,d'.toList,by simp[hds],?_,fun i=>hperm.mem_iff,abb h hds,aa9 d'⟩;rw[List.pairwise_iff_getElem];intro i j hi hj hij;have h1:=hs i j (Nat.zero_le _) hij (by simpa [hds] using hj);have hi':i<d'.size:=by simpa using hi
 have hj':j<d'.size:=by simpa using hj
 rw[getElem!_pos d' i hi',getElem!_pos d' j hj']at h1;have n1:¬iq d'[j] d'[i]:=fun e=>by rw[(xE _ _).2 e]at h1;cases h1
 have n2:d'[i]≠d'[j]:=fun e=>by
  have:=(List.pairwise_iff_getElem.1 hnd') i j hi hj hij;simp only[Array.getElem_toList]at this;exact this e
 simp only[Array.getElem_toList];unfold iq at n1⊢;have n3:¬(d'[i].1=d'[j].1/\d'[i].2=d'[j].2):=fun e=>n2 (Prod.ext e.1 e.2);omega
end Go.Proofs.YtblkkhfdeaaidaaGreatDoor
