import Derived.Test.YtblkkhfdeaaidaaGreatDoorChartMemAndChartIn
import Derived.Test.YtblkkhfdeaaidaaGreatDoorTxPaAndLfp
import Derived.Deep.CutRange
import Derived.BigQuiet
set_option maxHeartbeats 6400000
set_option maxRecDepth 100000
namespace Go.Proofs.YtblkkhfdeaaidaaGreatDoor
open Go.RowKit
section
variable{w:World}{B nm:Nat}{d:Ad}{v:CM}{st:aL}
theorem aC.mono{Qu:Nat}(h:aC w B d v st nm)(hn:nm<=Qu):aC w B d v st Qu:=
 ⟨h.own,h.mE,h.mF.mono hn,h.mG.mono hn,h.uU,h.uV,h.ne1,h.uW,h.uX,h.ge⟩
theorem FU(h:aC w B d v st nm){s:bX}(h0:0<=s.1)(h1:s.1<=1000)(h2:s.2<=1000)(hn:nm<=1000000):(Instr.lookup 190 (.map (some d.me)) (gH s) false).run Tryz.prog w= .ok (v.VE s) w:=by
 obtain⟨l,hl⟩:=FR h0 h1 h2;have:=CV h.mG false (by unfold maxLen;omega) FQ Tryz.underlying190 (Qn w) FP hl;rw[this];by_cases hi:(st.E s).length=0
 ·simp[ig,hi,h.uV s hi]
 ·simp[ig,hi]
theorem Qv(h:aC w B d v st nm){s:bX}(h0:0<=s.1)(h1:s.1<=1000)(h2:s.2<=1000)(hn:nm<=1000000):(Instr.lookup 189 (.map (some d.mw)) (gH s) false).run Tryz.prog w= .ok (v.VW s) w:=by
 obtain⟨l,hl⟩:=FR h0 h1 h2;have:=CV h.mF false (by unfold maxLen;omega) FQ Tryz.underlying189 (Qm w) FP hl;rw[this];by_cases hi:(st.W s).length=0
 ·simp[ig,hi,h.uU s hi]
 ·simp[ig,hi]
theorem Y9(h:aC w B d v st nm)(s:bX):(ig st.E v.VE s).getD (.slice none 0 0)=v.VE s:=by
 by_cases hi:(st.E s).length=0
 ·simp[ig,hi,h.uV s hi]
 ·simp[ig,hi]
theorem Za(h:aC w B d v st nm)(s:bX):(ig st.W v.VW s).getD (.slice none 0 0)=v.VW s:=by
 by_cases hi:(st.W s).length=0
 ·simp[ig,hi,h.uU s hi]
 ·simp[ig,hi]
theorem Zc(h:aC w B d v st nm){s:bX}(h0:0<=s.1)(h1:s.1<=1000)(h2:s.2<=1000)(hn:nm<=1000000):
 ∃(z:Nat) (w1:World),(Instr.mapEntry 190 (.map (some d.me)) (gH s)).run Tryz.prog w= .ok (.tuple #[v.VE s,.int .i64 z]) w1/\w.grownBy w1 (some d.me)/\w1.heap.size=w.heap.size/\
  ∀(w2:World) (val:Value),w2.heap[d.me]?=w1.heap[d.me]?->∃w3,(Instr.entryStore 190 (.map (some d.me)) (.int .i64 z) val).run Tryz.prog w2= .ok () w3/\MapAt Tryz.prog 196 gH w3 d.me (nm+1) (eT (ig st.E v.VE) s val)/\w2.grownBy w3 (some d.me)/\w3.heap.size=w2.heap.size:=by
 obtain⟨l,hl⟩:=FR h0 h1 h2;obtain⟨z,w1,e1,e2,e3,e4⟩:=Qd h.mG (by unfold maxLen;omega) FQ Tryz.underlying190 Qn FP hl;rw[Y9 h]at e1;exact⟨z,w1,e1,e2,e3,e4⟩
theorem Zd(h:aC w B d v st nm){s:bX}(h0:0<=s.1)(h1:s.1<=1000)(h2:s.2<=1000)(hn:nm<=1000000):
 ∃(z:Nat) (w1:World),(Instr.mapEntry 189 (.map (some d.mw)) (gH s)).run Tryz.prog w= .ok (.tuple #[v.VW s,.int .i64 z]) w1/\w.grownBy w1 (some d.mw)/\w1.heap.size=w.heap.size/\
  ∀(w2:World) (val:Value),w2.heap[d.mw]?=w1.heap[d.mw]?->∃w3,(Instr.entryStore 189 (.map (some d.mw)) (.int .i64 z) val).run Tryz.prog w2= .ok () w3/\MapAt Tryz.prog 196 gH w3 d.mw (nm+1) (eT (ig st.W v.VW) s val)/\w2.grownBy w3 (some d.mw)/\w3.heap.size=w2.heap.size:=by
 obtain⟨l,hl⟩:=FR h0 h1 h2;obtain⟨z,w1,e1,e2,e3,e4⟩:=Qd h.mF (by unfold maxLen;omega) FQ Tryz.underlying189 Qm FP hl;rw[Za h]at e1;exact⟨z,w1,e1,e2,e3,e4⟩
theorem Kl(h:aC w B d v st nm)(s:bX):aP w w.heap.size (v.VE s) ((st.E s).map fun j:Nat=>(j:Int)):=by
 have ho:=h.own.own (.en s) _ rfl;simp only at ho;obtain⟨a,c,hv⟩:=bK ho;refine⟨⟨a,c,by simpa using hv⟩,fun p hp=> ?_⟩;have hp':p<(st.E s).length:=by simpa using hp
 obtain⟨g,cap,hg,_,hlt⟩:=ho.form (by omega);refine⟨g,0,cap,by simpa using hg,hlt,?_⟩;rw[Nat.zero_add];have:=Qp ho hg hp' rfl;rw[this];simp[List.getD,hp']
end
theorem Ze{w:World}{B nm:Nat}{d:Ad}{v:CM}{st:aL}(h:aC w B d v st nm){n:Int}{p j:Nat}(h0:0<=n)(h1:n<=1000)(h2:p<=1000)(hn:nm<=1000000)(hE:(st.E (n,p)).length<=1000000)(hin:j∈st.E (n,p)):
 Calls Tryz.prog 146 #[.pointer (some ⟨d.ca,0,none⟩),.agg #[.int .i64 n,.int .i64 p],.int .i64 j] w fun r w'=>r= .returned (.tuple #[])/\aC w' B d v st nm/\Goes d v v w w':=by
 have k1:=h.alloc (.cells #[.int .i64 n,.int .i64 p] 196);have c7:=(k1.cell (i:=7) rfl (by omega)).1;have l1:=FU k1.drew (s:=(n,p)) h0 h1 h2 hn;unfold gH at l1;simp only at l1;have ct:=Kk (Kl k1.drew (n,p)) (by simpa using hE) j;rw[decide_eq_true (List.mem_map.2 ⟨j,hin,rfl⟩)]at ct;obtain⟨ev,hev⟩:∃ev,v.VE (n,p)=ev:=⟨_,rfl⟩;rw[hev]at l1 ct;have HH:Hid (aC w B d v st nm):=h;clear h k1 hin hev
 go_enter Tryz.func146,Tryz.ntmps146
 go_wp2_with fail
 refine sM 7 (by kernel_rfl) (by kernel_rfl) ?_;simp only[List.take_succ_cons,List.take_zero,List.drop_succ_cons,List.drop_zero]
 repeat still_step
 refine wpStill_nil ?_
 go_wp2_with (go_at_call 115;refine ct.mono ?_;rintro r w1 ⟨rfl,rfl⟩)
 refine bodyPost_ret (v:= .tuple #[]) (results_none Tryz.results146 _ _ _) rfl ?_;have hb:Below w.heap.size w ((w.alloc (.cells #[.int .i64 n,.int .i64 p] 196)).drew):=((Below.refl _ _).alloc (Nat.le_refl _) _).drew;exact⟨rfl,HH.out.below hb,Goes.bP hb⟩
theorem Zf{j:Nat}{L:List aJ}{st:aL}{k:Nat}{it:aJ}(hk:k<L.length)(hit:L.getD k ⟨0,0,0,0⟩=it):iN j (L.take (k+1)) st=dV (iN j (L.take k) st) (bf it j):=by
 have:L[k]=it:=by rw[<-hit];simp[List.getD,hk]
 unfold iN;rw[List.take_succ_eq_append_getElem hk,List.foldl_append,this];rfl
theorem Zg{it:aJ}{L:List Nat}{st:aL}{k:Nat}{j:Nat}(hk:k<L.length)(hj:L.getD k 0=j):onE it (L.take (k+1)) st=dV (onE it (L.take k) st) (bf it j):=by
 have:L[k]=j:=by rw[<-hj];simp[List.getD,hk]
 unfold onE;rw[List.take_succ_eq_append_getElem hk,List.foldl_append,this];rfl
theorem Zh(j:Nat):∀(L:List aJ) (st:aL),(iN j L st).I.length<=st.I.length+L.length/\(iN j L st).O.length<=st.O.length+L.length:=by
 intro L
 induction L with
 |nil=>intro st;exact⟨Nat.le_refl _,Nat.le_refl _⟩
 |cons it L ih=>
  intro st;have h1:=ih (dV st (bf it j));have h2:=Ki st (bf it j);show (iN j L (dV st (bf it j))).I.length<=_/\(iN j L (dV st (bf it j))).O.length<=_;simp only[List.length_cons];omega
theorem Zi(it:aJ):∀(L:List Nat) (st:aL),(onE it L st).I.length<=st.I.length+L.length/\(onE it L st).O.length<=st.O.length+L.length:=by
 intro L
 induction L with
 |nil=>intro st;exact⟨Nat.le_refl _,Nat.le_refl _⟩
 |cons j L ih=>
  intro st;have h1:=ih (dV st (bf it j));have h2:=Ki st (bf it j);show (onE it L (dV st (bf it j))).I.length<=_/\(onE it L (dV st (bf it j))).O.length<=_;simp only[List.length_cons];omega
theorem Zj{w:World}{B nm:Nat}{d:Ad}{v:CM}{st:aL}(h:aC w B d v st nm){n:Int}{p j:Nat}(h0:0<=n)(h1:n<=1000)(h2:p<=1000)(hn:nm+1<=1000000)(hE:(st.E (n,p)).length<=1000000)(hin:j∉st.E (n,p))
 (hS:∀it∈st.W (n,p),Small (bf it j)) (hI:st.I.length+(st.W (n,p)).length<=1000000) (hO:st.O.length+(st.W (n,p)).length<=1000000):
 Calls Tryz.prog 146 #[.pointer (some ⟨d.ca,0,none⟩),.agg #[.int .i64 n,.int .i64 p],.int .i64 j] w fun r w'=>r= .returned (.tuple #[])/\∃v',aC w' B d v' (iN j (st.W (n,p)) (gX (n,p) j st)) (nm+1)/\Goes d v v' w w':=by
 have k1:=h.alloc (.cells #[.int .i64 n,.int .i64 p] 196);have c7:=(k1.cell (i:=7) rfl (by omega)).1;have l1:=FU k1.drew (s:=(n,p)) h0 h1 h2 (by omega);unfold gH at l1;simp only at l1;have ct:=Kk (Kl k1.drew (n,p)) (by simpa using hE) j
 have hni:¬((j:Int)∈(st.E (n,p)).map fun j:Nat=>(j:Int)):=fun hm=>by
  obtain⟨x,hx,e⟩:=List.mem_map.1 hm;have hxj:x=j:=by omega
  exact hin (hxj▸hx)
 rw[decide_eq_false hni]at ct;clear hni;obtain⟨ev,hev⟩:∃ev,v.VE (n,p)=ev:=⟨_,rfl⟩;rw[hev]at l1 ct;have wR:Hid (v.VE (n,p)=ev):=hev;obtain⟨st1,jI⟩:∃st1,gX (n,p) j st=st1:=⟨_,rfl⟩;obtain⟨LW,tH⟩:∃LW,st.W (n,p)=LW:=⟨_,rfl⟩;have HW1:Hid (st1.W (n,p)=LW):=by show st1.W (n,p)=LW;rw[<-jI];exact tH
 have hI1:st1.I.length=st.I.length:=by rw[<-jI];rfl
 have yL:st1.O.length=st.O.length:=by rw[<-jI];rfl
 have Ak:Hid (gX (n,p) j st=st1):=jI;rw[jI,tH];rw[tH]at hS hI hO;rw[<-hI1]at hI;rw[<-yL]at hO;clear jI tH hI1 yL;have gq:Hid (aC ((w.alloc (.cells #[.int .i64 n,.int .i64 p] 196)).drew) B d v st nm):=k1.drew;have HL:Hid (lH ((w.alloc (.cells #[.int .i64 n,.int .i64 p] 196)).drew) d v w.heap.size n p 196):=lH.mk h n p 196;have HB:Hid (Goes d v v w ((w.alloc (.cells #[.int .i64 n,.int .i64 p] 196)).drew)):=Goes.bP (((Below.refl _ _).alloc (Nat.le_refl _) _).drew);have HS:Hid (∀it∈LW,Small (bf it j)):=hS;clear h k1 hin hev hS
 go_enter Tryz.func146,Tryz.ntmps146
 go_wp2_with fail
 go_cut [15] from 7 (fun s15 wx=>s15= .bool false/\wx=(w.alloc (.cells #[.int .i64 n,.int .i64 p] 196)).drew)
 case first=>
  refine sM 7 (by kernel_rfl) (by kernel_rfl) ?_;simp only[List.take_succ_cons,List.take_zero,List.drop_succ_cons,List.drop_zero]
  repeat still_step
  refine wpStill_nil ?_
  go_wp2_with (go_at_call 115;refine ct.mono ?_;rintro r w1 ⟨rfl,rfl⟩)
  go_meet
  case rel=>exact⟨rfl,rfl⟩
 case rest=>
  obtain⟨rfl,hwc⟩:=hcut;rw[<-hwc]at gq HL HB;clear hwc l1 ct c7;have k2:=gq.out;have c7:=(k2.cell (i:=7) rfl (by omega)).1;have k3:=k2.alloc (.cells #[.int .i64 j] 3);have d7:=(k3.cell (i:=7) rfl (by omega)).1;obtain⟨b0,b1⟩:=HL.out.cells;have b0':(wc.alloc (.cells #[.int .i64 j] 3)).cell? ⟨w.heap.size,0,none⟩=some (.int .i64 n):=(World.cell?_alloc_past _ _ _ HL.out.2.2).trans b0;have b1':(wc.alloc (.cells #[.int .i64 j] 3)).cell? ⟨w.heap.size,1,none⟩=some (.int .i64 p):=(World.cell?_alloc_past _ _ _ HL.out.2.2).trans b1;obtain⟨z,w5,e5,g5,s5,CX⟩:=Zc k3.drew (s:=(n,p)) h0 h1 h2 (by omega);unfold gH at e5;simp only at e5;rw[wR.out]at e5;have ho:=k3.own.own (.en (n,p)) _ rfl;simp only[wR.out]at ho;obtain⟨ea,ec,hev⟩:=bK ho;have hoff:ev.ownBlock≠some d.me:=by have:=k3.off (.inr (.inr rfl)) (i:= .en (n,p)) rfl;simpa [wR.out] using this
  have dh:w5.ownsRow B 3 1 ev (st.E (n,p)).length ((st.E (n,p)).map fun j:Nat=>Value.int .i64 j):=ho.drew.kept g5 (.inr hoff)
  have hnew:w5.heap[wc.heap.size]?=some (.cells #[.int .i64 j] 3):=by
   rw[g5.block wc.heap.size (by simp) (fun e=>by have:=k2.mG.lt;simp at e;omega)];exact heap_alloc_new _ _
  subst hev;have CY:some d.me≠(Value.slice ea (st.E (n,p)).length ec).ownBlock:=fun e=>hoff e.symm;have uZ:d.me<w5.heap.size:=by rw[s5];exact k3.mG.lt
  have hn1:(st.E (n,p)).length+1<=maxLen:=by unfold maxLen;omega
  have hn2:((st.E (n,p)).length+1)*8<=140737488355328:=by omega
  have ak:B<=w5.heap.size:=by have:=k3.ge.2.2;omega
  have hs5:w5.heap.size=wc.heap.size+1:=by rw[s5];simp
  obtain⟨i0,hi0,hz0,hz1,hz2⟩:=info_parts Tryz.infoInt;have yM:Hid (aC ((wc.alloc (.cells #[.int .i64 j] 3)).drew) B d v st nm):=k3.drew;have ve:Hid (World.grownBy ((wc.alloc (.cells #[.int .i64 j] 3)).drew) w5 (some d.me)):=g5;have HST:Hid (∀(w2:World) (val:Value),w2.heap[d.me]?=w5.heap[d.me]?->∃w3,(Instr.entryStore 190 (.map (some d.me)) (.int .i64 z) val).run Tryz.prog w2= .ok () w3/\MapAt Tryz.prog 196 gH w3 d.me (nm+1) (eT (ig st.E v.VE) (n,p) val)/\w2.grownBy w3 (some d.me)/\w3.heap.size=w2.heap.size):=CX;have vk:Hid (w5.heap.size=((wc.alloc (.cells #[.int .i64 j] 3)).drew).heap.size):=s5;clear k2 k3 ho g5 CX hoff s5
  go_wp2_with fail
  go_cut [] from 7 (fun wx=> ∃FV,aC wx B d { v with VE:=eB v.VE (n,p) FV } (gX (n,p) j st) (nm+1)/\Goes d v { v with VE:=eB v.VE (n,p) FV } wc wx)
  case first=>
   go_region_law
    ((refine step_append_lies _ (by rfl) _ _ _ (by rfl) B 3 i0 _ 1 8 Tryz.underlying59 hi0 hz0 hz1 hz2 rfl (by omega) (.slice ea (st.E (n,p)).length ec) (st.E (n,p)).length ((st.E (n,p)).map fun j:Nat=>Value.int .i64 j) (by rfl) dh
       ⟨wc.heap.size,0,none⟩ 1 1 [.int .i64 j] (by rfl) (by rfl) (World.news_of_block (cs:= #[.int .i64 j]) (t:=3) (fr:=(0,0)) hnew) (by simp[Value.oneCell'])
       (by omega) hn1 hn2 ak (wc.heap.size+1) hs5 ?_;intro g cap w6 hown6 dO lI rq;obtain⟨w7,e7,m7,g7,s7⟩:=HST.out w6 (.slice (some ⟨g,0,none⟩) ((st.E (n,p)).length+1) cap) (dO.block d.me uZ CY)))
   all_goals
    go_wp2_with fail
    go_meet
    case rel=>
     have hat':∀g',(Value.slice (some ⟨g,0,none⟩) ((st.E (n,p)).length+1) cap).ownBlock=some g'->(v.VE (n,p)).ownBlock=some g'\/g'=((wc.alloc (.cells #[.int .i64 j] 3)).drew).heap.size:=fun g' hg'=>by
      obtain rfl:g=g':=by simpa [Value.ownBlock] using hg'
      rw[wR.out];rcases lI with h5|h5
      ·exact .inl h5
      ·exact .inr (by simpa using h5)
     have r:=yM.out.gX (j:=j) ve.out vk.out (by rw[wR.out];exact dO) (by simpa using hown6) hat' g7 m7;exact⟨_,r.1,(Goes.bP (((Below.refl _ _).alloc (Nat.le_refl _) _).drew)).trans r.2⟩
  case rest=>
   obtain⟨FV,k6,g6⟩:=hcut;obtain⟨v6,hv6⟩:∃v6,({ v with VE:=eB v.VE (n,p) FV }:CM)=v6:=⟨_,rfl⟩;rw[hv6]at k6 g6;have CZ:Hid (lH wc d v6 w.heap.size n p 196):=HL.out.goes g6;have Km:Hid (Goes d v v6 w wc):=HB.out.trans g6;clear hi0 hz0 hz1 hz2 dh hnew CY uZ hn1 hn2 ak hs5 yM ve HST vk e5 c7 d7 b0 b1 b0' b1' HL HB gq wR g6 hv6;rw[Ak.out]at k6;clear Ak;have jJ:Hid (aC wc B d v6 st1 (nm+1)):=k6;have c6:=(k6.cell (i:=6) rfl (by omega)).1;obtain⟨b0,b1⟩:=CZ.out.cells;have l6:=Qv k6.drew (s:=(n,p)) h0 h1 h2 hn;unfold gH at l6;simp only at l6;have ho:=k6.own.own (.wt (n,p)) _ rfl;simp only[HW1.out]at ho;obtain⟨wa,wk,hwv⟩:=bK ho;rw[hwv]at l6;have FW:Hid (v6.VW (n,p)= .slice wa LW.length wk):=hwv;clear k6 ho hwv
   go_wp2_with fail
   go_region
   go_wp2_with fail
   clear l6 c6 b0 b1
   go_loopw [34] (fun s wr=> ∃(k:Nat) (aA:Value),s= .int .i64 k/\k<=LW.length/\aC wr B d { v6 with ov:=aA } (iN j (LW.take k) st1) (nm+1)/\Goes d v6 { v6 with ov:=aA } wc wr) (fun s _=>LW.length-(intOf s).toNat)
   case atStart=>exact⟨0,v6.ov,rfl,Nat.zero_le _,jJ.out.drew,(Goes.refl _ _ _).drew⟩
   case round=>
    obtain⟨k,iB,rfl,hk,hC,hG⟩:=hrel;have HG:Hid (Goes d v6 { v6 with ov:=iB } wc wr):=hG;by_cases hlt:k<LW.length
    ·have Qw:(iN j (LW.take k) st1).W (n,p)=LW:=by rw[(Puts.iN (Q:=fun _=>True) (L:=LW.take k) (st:=st1) (j:=j) fun _ _=>trivial).W];exact HW1.out
     have ho:=hC.own.own (.wt (n,p)) _ rfl;simp only[Qw]at ho;obtain⟨g,cap,hg,_,C8⟩:=ho.form (by omega);have hg':v6.VW (n,p)= .slice (some ⟨g,0,none⟩) LW.length cap:=hg;have hwv:=FW.out;rw[hg']at hwv;injection hwv with Zk _ hwk;subst Zk;subst hwk;obtain⟨it,hit⟩:∃it,LW.getD k ⟨0,0,0,0⟩=it:=⟨_,rfl⟩;obtain⟨q0,q1,q2,q3⟩:=Qo ho hg hlt hit;have hmem:it∈LW:=by rw[<-hit];simp[List.getD,hlt]
     have hsm:=HS.out it hmem;have HE:Hid (iN j (LW.take (k+1)) st1=dV (iN j (LW.take k) st1) (bf it j)):=Zf hlt hit;have hlen:=Zh j (LW.take k) st1;rw[List.length_take,Nat.min_eq_left hk]at hlen;obtain⟨ra,rb,rc,re⟩:=it;simp only at q0 q1 q2 q3;have on:=Kh (hC.alloc (.cells #[.int .i64 ra,.int .i64 rb,.int .i64 rc,.int .i64 re] 198)) (a:=ra) (b:=rb) (c:=rc) (e:=re) (j:=j) hsm (by omega) (by omega);have i0:(0:Int)<=(k:Int):=Int.natCast_nonneg _;have i1:(k:Int)<(LW.length:Int):=by omega
     clear hC hG ho hg hg' hit hmem hsm hlen Qw
     go_wp2_with (go_at_call 148;refine on.mono ?_;rintro r w1 ⟨rfl,tJ,h3,h4⟩)
     go_roundw
     case rel=>exact⟨k+1,tJ,by go_num,by omega,by rw[HE.out];exact h3,(HG.out.alloc _).trans h4⟩
     case measure=>simp[intOf];omega
    ·obtain rfl:k=LW.length:=by omega
     rw[List.take_length]at hC;have HC:Hid (aC wr B d { v6 with ov:=iB } (iN j LW st1) (nm+1)):=hC;clear hC hG
     go_wp2_with fail
     go_end0
     exact⟨rfl,_,HC.out,Km.out.trans HG.out⟩
theorem Zl{w:World}{B nm:Nat}{d:Ad}{v:CM}{st:aL}(h:aC w B d v st nm){n:Int}{p j:Nat}(h0:0<=n)(h1:n<=1000)(h2:p<=1000)(hn:nm+1<=1000000)(hE:(st.E (n,p)).length<=1000000)
 (hS:∀it∈st.W (n,p),Small (bf it j)) (hI:st.I.length+(st.W (n,p)).length<=1000000) (hO:st.O.length+(st.W (n,p)).length<=1000000):
 Calls Tryz.prog 146 #[.pointer (some ⟨d.ca,0,none⟩),.agg #[.int .i64 n,.int .i64 p],.int .i64 j] w fun r w'=>r= .returned (.tuple #[])/\∃v',aC w' B d v' (wP (n,p) j st) (nm+1)/\Goes d v v' w w':=by
 unfold wP;split
 ·rename_i hin
  exact(Ze h h0 h1 h2 (by omega) hE hin).mono fun r w' ⟨a,b,c⟩=>⟨a,v,b.mono (Nat.le_succ _),c⟩
 ·rename_i hin
  exact Zj h h0 h1 h2 hn hE hin hS hI hO
def vo(w:World)(d:Ad)(v:CM)(b:Nat)(it:aJ):Prop:=w.heap[b]?=some (.cells #[.int .i64 it.rule,.int .i64 it.read,.int .i64 it.fr,.int .i64 it.upto] 198)/\¬Kc d v b/\b<w.heap.size
theorem vo.goes{w w':World}{d:Ad}{v v':CM}{b:Nat}{it:aJ}(h:vo w d v b it)(g:Goes d v v' w w'):vo w' d v' b it:=by
 obtain⟨h1,h2,h3⟩:=g.far h.2.2 h.2.1;exact⟨h1.trans h.1,h2,h3⟩
theorem vo.cells{w:World}{d:Ad}{v:CM}{b:Nat}{it:aJ}(h:vo w d v b it):
 w.cell? ⟨b,0,none⟩=some (.int .i64 it.rule)/\w.cell? ⟨b,1,none⟩=some (.int .i64 it.read)/\w.cell? ⟨b,2,none⟩=some (.int .i64 it.fr)/\w.cell? ⟨b,3,none⟩=some (.int .i64 it.upto):=by
 refine⟨?_,?_,?_,?_⟩<;>simp[World.cell?,h.1]
theorem Zm{w:World}{B nm:Nat}{d:Ad}{v:CM}{st:aL}{R:List Ru}(h:aC w B d v st nm)(hr:au w B d.rv R){n:Int}{p a b c e:Nat}(h0:0<=n)(h1:n<=1000)(h2:p<=1000)(hn:nm+1<=1000000)(hR:R.length<=40)
 (hS:∀j∈st.E (n,p),Small (bf ⟨a,b,c,e⟩ j)) (hI:st.I.length+40+(st.E (n,p)).length<=1000000) (hO:st.O.length+40+(st.E (n,p)).length<=1000000) (C9:(st.W (n,p)).length<=1000000):
 Calls Tryz.prog 147 #[.pointer (some ⟨d.ca,0,none⟩),.agg #[.int .i64 n,.int .i64 p],.agg #[.int .i64 a,.int .i64 b,.int .i64 c,.int .i64 e]] w fun r w'=>r= .returned (.tuple #[])/\∃v',aC w' B d v' (tC R (n,p) ⟨a,b,c,e⟩ st) (nm+1)/\Goes d v v' w w':=by
 obtain⟨st1,jI⟩:∃st1,(if st.W (n,p)=[] then eF R (n,p) R.length st else st)=st1:=⟨_,rfl⟩;obtain⟨LE,Al⟩:∃LE,st.E (n,p)=LE:=⟨_,rfl⟩;obtain⟨LW,tH⟩:∃LW,st.W (n,p)=LW:=⟨_,rfl⟩
 have hp1:Puts (fun _=>True) st st1:=by
  rw[<-jI];split
  ·exact Puts.begin fun _ _ _=>trivial
  ·exact Puts.refl _ _
 have hlen:st1.I.length<=st.I.length+40/\st1.O.length<=st.O.length+40:=by
  rw[<-jI];split
  ·have:=Qs R (n,p) st R.length;omega
  ·omega
 have HW1:Hid (st1.W (n,p)=LW):=by show st1.W (n,p)=LW;rw[hp1.W];exact tH
 have wS:Hid (st1.E (n,p)=LE):=by show st1.E (n,p)=LE;rw[hp1.E];exact Al
 have Ak:Hid ((if st.W (n,p)=[] then eF R (n,p) R.length st else st)=st1):=jI
 have hgoal:tC R (n,p) ⟨a,b,c,e⟩ st=onE ⟨a,b,c,e⟩ LE (gm (n,p) ⟨a,b,c,e⟩ st1):=by
  unfold tC;simp only[jI,Al]
 rw[hgoal];obtain⟨st2,Am⟩:∃st2,gm (n,p) ⟨a,b,c,e⟩ st1=st2:=⟨_,rfl⟩;have HE2:Hid (st2.E (n,p)=LE):=by show st2.E (n,p)=LE;rw[<-Am];exact wS.out
 have hI2:st2.I.length+LE.length<=1000000:=by
  rw[Al]at hI;have:st2.I.length=st1.I.length:=by rw[<-Am];rfl
  omega
 have hO2:st2.O.length+LE.length<=1000000:=by
  rw[Al]at hO;have:st2.O.length=st1.O.length:=by rw[<-Am];rfl
  omega
 have Qx:Hid (gm (n,p) ⟨a,b,c,e⟩ st1=st2):=Am;rw[Am];rw[Al]at hS hI hO;rw[tH]at C9;have k1:=(h.alloc (.cells #[.int .i64 n,.int .i64 p] 196)).alloc (.cells #[.int .i64 a,.int .i64 b,.int .i64 c,.int .i64 e] 198);have hL0:lH (((w.alloc (.cells #[.int .i64 n,.int .i64 p] 196)).alloc (.cells #[.int .i64 a,.int .i64 b,.int .i64 c,.int .i64 e] 198)).drew) d v w.heap.size n p 196:=(lH.mk h n p 196).goes (((Goes.refl d v _).alloc _).drew)
 have Qy:vo (((w.alloc (.cells #[.int .i64 n,.int .i64 p] 196)).alloc (.cells #[.int .i64 a,.int .i64 b,.int .i64 c,.int .i64 e] 198)).drew) d v (w.heap.size+1) ⟨a,b,c,e⟩:=by
  refine⟨?_,fun hk=>by have:=(h.kc hk).2;omega,by simp⟩;have:=heap_alloc_new (w.alloc (.cells #[.int .i64 n,.int .i64 p] 196)) (.cells #[.int .i64 a,.int .i64 b,.int .i64 c,.int .i64 e] 198);simp only[World.size_alloc]at this;exact this
 have c6:=(k1.cell (i:=6) rfl (by omega)).1;have l1:=Qv k1.drew (s:=(n,p)) h0 h1 h2 (by omega);unfold gH at l1;simp only at l1;have ho:=k1.own.own (.wt (n,p)) _ rfl;simp only[tH]at ho;obtain⟨wa,wk,hwv⟩:=bK ho;rw[hwv]at l1;have FW:Hid (v.VW (n,p)= .slice wa LW.length wk):=hwv;have gq:Hid (aC (((w.alloc (.cells #[.int .i64 n,.int .i64 p] 196)).alloc (.cells #[.int .i64 a,.int .i64 b,.int .i64 c,.int .i64 e] 198)).drew) B d v st nm):=k1.drew;have HL:Hid (lH (((w.alloc (.cells #[.int .i64 n,.int .i64 p] 196)).alloc (.cells #[.int .i64 a,.int .i64 b,.int .i64 c,.int .i64 e] 198)).drew) d v w.heap.size n p 196):=hL0;have Ao:Hid (vo (((w.alloc (.cells #[.int .i64 n,.int .i64 p] 196)).alloc (.cells #[.int .i64 a,.int .i64 b,.int .i64 c,.int .i64 e] 198)).drew) d v (w.heap.size+1) ⟨a,b,c,e⟩):=Qy;have hb1:Below w.heap.size w (((w.alloc (.cells #[.int .i64 n,.int .i64 p] 196)).alloc (.cells #[.int .i64 a,.int .i64 b,.int .i64 c,.int .i64 e] 198)).drew):=(((Below.refl _ _).alloc (Nat.le_refl _) _).alloc (by simp) _).drew;have HB:Hid (Goes d v v w (((w.alloc (.cells #[.int .i64 n,.int .i64 p] 196)).alloc (.cells #[.int .i64 a,.int .i64 b,.int .i64 c,.int .i64 e] 198)).drew)):=Goes.bP hb1;have HR:Hid (au (((w.alloc (.cells #[.int .i64 n,.int .i64 p] 196)).alloc (.cells #[.int .i64 a,.int .i64 b,.int .i64 c,.int .i64 e] 198)).drew) B d.rv R):=hr.below (h.nR (Goes.bP (d:=d) (v:=v) hb1));have HS:Hid (∀j∈LE,Small (bf ⟨a,b,c,e⟩ j)):=hS;have hempty:st.W (n,p)=[]↔LW.length=0:=by rw[tH];simp
 have Kn:Hid (st.W (n,p)=[]↔LW.length=0):=hempty;obtain⟨z,hz⟩:∃z,((LW.length:Int)==0)=z:=⟨_,rfl⟩;have HZ:Hid (z=true↔LW.length=0):=by show z=true↔LW.length=0;rw[<-hz];simp
 clear h k1 hS jI Am Al tH hp1 hgoal ho hwv hb1 hr hL0 Qy hempty
 go_enter Tryz.func147,Tryz.ntmps147
 go_wp2_with fail
 go_cut [15] from 7 (fun s15 wx=>s15= .bool z/\wx=((w.alloc (.cells #[.int .i64 n,.int .i64 p] 196)).alloc (.cells #[.int .i64 a,.int .i64 b,.int .i64 c,.int .i64 e] 198)).drew)
 case first=>
  go_region
  go_wp2_with fail
  go_meet
  case rel=>exact⟨rfl,rfl⟩
 case rest=>
  obtain⟨rfl,hwc⟩:=hcut;rw[<-hwc]at gq HL Ao HB HR;clear hwc l1 c6 hz;obtain⟨b0,b1⟩:=HL.out.cells
  go_upto_if 15 with fail
  go_cut [] from 7 (fun wx=> ∃iB,aC wx B d { v with ov:=iB } st1 nm/\Goes d v { v with ov:=iB } wc wx)
  case first=>
   cases z with
   |true=>
    have hE:st1=eF R (n,p) R.length st:=by rw[<-Ak.out,if_pos (Kn.out.2 (HZ.out.1 rfl))]
    have bg:=Qt gq.out HR.out (n:=n) (p:=p) hR h2 (by omega) (by omega);rw[<-hE]at bg;clear hE
    go_wp2_with (go_at_call 113;refine bg.mono ?_;rintro r w1 ⟨rfl,iB,h3,h4⟩)
    go_meet
    case rel=>exact⟨iB,h3,h4⟩
   |false=>
    have hne:¬st.W (n,p)=[]:=fun e=>by have:=HZ.out.2 (Kn.out.1 e);cases this
    have HE:Hid (st=st1):=by show st=st1;rw[<-Ak.out,if_neg hne]
    clear hne
    go_wp2_with fail
    go_meet
    case rel=>exact⟨v.ov,by rw[<-HE.out];exact gq.out,Goes.refl _ _ _⟩
  case rest=>
   obtain⟨iB,k2,g2⟩:=hcut;obtain⟨v2,hv2⟩:∃v2,({ v with ov:=iB }:CM)=v2:=⟨_,rfl⟩;have Ap:Hid (v2.VW (n,p)= .slice wa LW.length wk):=by show v2.VW (n,p)=_;rw[<-hv2];exact FW.out
   rw[hv2]at k2 g2;have HL2:Hid (lH wc d v2 w.heap.size n p 196):=HL.out.goes g2;have Ko:Hid (vo wc d v2 (w.heap.size+1) ⟨a,b,c,e⟩):=Ao.out.goes g2;have HB2:Hid (Goes d v v2 w wc):=HB.out.trans g2;clear hv2 g2 HL Ao HB HR gq FW Ak Kn HZ b0 b1 hI hO hlen;have c6:=(k2.cell (i:=6) rfl (by omega)).1;have k3:=k2.alloc (.cells #[.int .i64 a,.int .i64 b,.int .i64 c,.int .i64 e] 198);have d6:=(k3.cell (i:=6) rfl (by omega)).1;obtain⟨b0,b1⟩:=HL2.out.cells;obtain⟨q0,q1,q2,q3⟩:=Ko.out.cells;simp only at q0 q1 q2 q3;have b0':(wc.alloc (.cells #[.int .i64 a,.int .i64 b,.int .i64 c,.int .i64 e] 198)).cell? ⟨w.heap.size,0,none⟩=some (.int .i64 n):=(World.cell?_alloc_past _ _ _ HL2.out.2.2).trans b0;have b1':(wc.alloc (.cells #[.int .i64 a,.int .i64 b,.int .i64 c,.int .i64 e] 198)).cell? ⟨w.heap.size,1,none⟩=some (.int .i64 p):=(World.cell?_alloc_past _ _ _ HL2.out.2.2).trans b1;obtain⟨z5,w5,e5,g5,s5,CX⟩:=Zd k3.drew (s:=(n,p)) h0 h1 h2 (by omega);unfold gH at e5;simp only at e5;rw[Ap.out]at e5;have ho:=k3.own.own (.wt (n,p)) _ rfl;simp only[Ap.out,HW1.out]at ho;have hoff:(Value.slice wa LW.length wk).ownBlock≠some d.mw:=by have:=k3.off (.inr (.inl rfl)) (i:= .wt (n,p)) rfl;simpa [Ap.out] using this
   have dh:w5.ownsRow B 198 4 (.slice wa LW.length wk) LW.length (LW.flatMap gZ):=ho.drew.kept g5 (.inr hoff)
   have hnew:w5.heap[wc.heap.size]?=some (.cells #[.int .i64 a,.int .i64 b,.int .i64 c,.int .i64 e] 198):=by
    rw[g5.block wc.heap.size (by simp) (fun e=>by have:=k2.mF.lt;simp at e;omega)];exact heap_alloc_new _ _
   have CY:some d.mw≠(Value.slice wa LW.length wk).ownBlock:=fun e=>hoff e.symm;have uZ:d.mw<w5.heap.size:=by rw[s5];exact k3.mF.lt
   have hn1:LW.length+1<=maxLen:=by unfold maxLen;omega
   have hn2:(LW.length+1)*32<=140737488355328:=by omega
   have ak:B<=w5.heap.size:=by have:=k3.ge.2.1;omega
   have hs5:w5.heap.size=wc.heap.size+1:=by rw[s5];simp
   obtain⟨i0,hi0,hz0,hz1,hz2⟩:=info_parts Tryz.infoItm;have yM:Hid (aC ((wc.alloc (.cells #[.int .i64 a,.int .i64 b,.int .i64 c,.int .i64 e] 198)).drew) B d v2 st1 nm):=k3.drew;have ve:Hid (World.grownBy ((wc.alloc (.cells #[.int .i64 a,.int .i64 b,.int .i64 c,.int .i64 e] 198)).drew) w5 (some d.mw)):=g5;have HST:Hid (∀(w2:World) (val:Value),w2.heap[d.mw]?=w5.heap[d.mw]?->∃w3,(Instr.entryStore 189 (.map (some d.mw)) (.int .i64 z5) val).run Tryz.prog w2= .ok () w3/\MapAt Tryz.prog 196 gH w3 d.mw (nm+1) (eT (ig st1.W v2.VW) (n,p) val)/\w2.grownBy w3 (some d.mw)/\w3.heap.size=w2.heap.size):=CX;have vk:Hid (w5.heap.size=((wc.alloc (.cells #[.int .i64 a,.int .i64 b,.int .i64 c,.int .i64 e] 198)).drew).heap.size):=s5;clear k2 k3 ho g5 CX hoff s5
   go_wp2_with fail
   go_cut [] from 7 (fun wx=> ∃FX,aC wx B d { v2 with VW:=eB v2.VW (n,p) FX } st2 (nm+1)/\Goes d v2 { v2 with VW:=eB v2.VW (n,p) FX } wc wx)
   case first=>
    go_region_law
     ((refine step_append_lies _ (by rfl) _ _ _ (by rfl) B 198 i0 _ 4 32 Tryz.underlying191 hi0 hz0 hz1 hz2 rfl (by omega) (.slice wa LW.length wk) LW.length (LW.flatMap gZ) (by rfl) dh
        ⟨wc.heap.size,0,none⟩ 1 1 [.int .i64 a,.int .i64 b,.int .i64 c,.int .i64 e] (by rfl) (by rfl) (World.news_of_block (cs:= #[.int .i64 a,.int .i64 b,.int .i64 c,.int .i64 e]) (t:=198) (fr:=(0,0)) hnew) (by simp[Value.oneCell'])
        (by omega) hn1 hn2 ak (wc.heap.size+1) hs5 ?_;intro g cap w6 hown6 dO lI rq;obtain⟨w7,e7,m7,g7,s7⟩:=HST.out w6 (.slice (some ⟨g,0,none⟩) (LW.length+1) cap) (dO.block d.mw uZ CY)))
    all_goals
     go_wp2_with fail
     go_meet
     case rel=>
      have hat':∀g',(Value.slice (some ⟨g,0,none⟩) (LW.length+1) cap).ownBlock=some g'->(v2.VW (n,p)).ownBlock=some g'\/g'=((wc.alloc (.cells #[.int .i64 a,.int .i64 b,.int .i64 c,.int .i64 e] 198)).drew).heap.size:=fun g' hg'=>by
       obtain rfl:g=g':=by simpa [Value.ownBlock] using hg'
       rw[Ap.out];rcases lI with h5|h5
       ·exact .inl h5
       ·exact .inr (by simpa using h5)
      have r:=yM.out.gm (it:=⟨a,b,c,e⟩) ve.out vk.out (by rw[Ap.out];exact dO) (by rw[HW1.out];simpa [List.flatMap_append,gZ] using hown6) hat' g7 m7;rw[Qx.out]at r;exact⟨_,r.1,(Goes.bP (((Below.refl _ _).alloc (Nat.le_refl _) _).drew)).trans r.2⟩
   case rest=>
    obtain⟨FX,k6,g6⟩:=hcut;obtain⟨v6,hv6⟩:∃v6,({ v2 with VW:=eB v2.VW (n,p) FX }:CM)=v6:=⟨_,rfl⟩;rw[hv6]at k6 g6;have CZ:Hid (lH wc d v6 w.heap.size n p 196):=HL2.out.goes g6;have Zn:Hid (vo wc d v6 (w.heap.size+1) ⟨a,b,c,e⟩):=Ko.out.goes g6;have Km:Hid (Goes d v v6 w wc):=HB2.out.trans g6;clear hi0 hz0 hz1 hz2 dh hnew CY uZ hn1 hn2 ak hs5 yM ve HST vk e5 c6 d6 b0 b1 b0' b1' q0 q1 q2 q3 HL2 Ko HB2 Ap g6 hv6 Qx wS HW1;have jJ:Hid (aC wc B d v6 st2 (nm+1)):=k6;have c7:=(k6.cell (i:=7) rfl (by omega)).1;obtain⟨b0,b1⟩:=CZ.out.cells;have l6:=FU k6.drew (s:=(n,p)) h0 h1 h2 hn;unfold gH at l6;simp only at l6;have ho:=k6.own.own (.en (n,p)) _ rfl;simp only[HE2.out]at ho;obtain⟨ea,ek,hev⟩:=bK ho;rw[hev]at l6;have wR:Hid (v6.VE (n,p)= .slice ea LE.length ek):=hev;clear k6 ho hev
    go_wp2_with fail
    go_region
    go_wp2_with fail
    clear l6 c7 b0 b1
    go_loopw [37] (fun s wr=> ∃(k:Nat) (aA:Value),s= .int .i64 k/\k<=LE.length/\aC wr B d { v6 with ov:=aA } (onE ⟨a,b,c,e⟩ (LE.take k) st2) (nm+1)/\Goes d v6 { v6 with ov:=aA } wc wr) (fun s _=>LE.length-(intOf s).toNat)
    case atStart=>exact⟨0,v6.ov,rfl,Nat.zero_le _,jJ.out.drew,(Goes.refl _ _ _).drew⟩
    case round=>
     obtain⟨k,iB,rfl,hk,hC,hG⟩:=hrel;have HG:Hid (Goes d v6 { v6 with ov:=iB } wc wr):=hG;by_cases hlt:k<LE.length
     ·have hEk:(onE ⟨a,b,c,e⟩ (LE.take k) st2).E (n,p)=LE:=by rw[(Puts.onE (Q:=fun _=>True) (L:=LE.take k) (st:=st2) (it:=⟨a,b,c,e⟩) fun _ _=>trivial).E];exact HE2.out
      have ho:=hC.own.own (.en (n,p)) _ rfl;simp only[hEk]at ho;obtain⟨g,cap,hg,_,C8⟩:=ho.form (by omega);have hg':v6.VE (n,p)= .slice (some ⟨g,0,none⟩) LE.length cap:=hg;have hev:=wR.out;rw[hg']at hev;injection hev with Zo _ hek;subst Zo;subst hek;obtain⟨j,hj⟩:∃j,LE.getD k 0=j:=⟨_,rfl⟩;have q0:=Qp ho hg hlt hj;obtain⟨p0,p1,p2,p3⟩:=(Zn.out.goes hG).cells;simp only at p0 p1 p2 p3;have hmem:j∈LE:=by rw[<-hj];simp[List.getD,hlt]
      have hsm:=HS.out j hmem;have HE:Hid (onE ⟨a,b,c,e⟩ (LE.take (k+1)) st2=dV (onE ⟨a,b,c,e⟩ (LE.take k) st2) (bf ⟨a,b,c,e⟩ j)):=Zg hlt hj;have hlen:=Zi ⟨a,b,c,e⟩ (LE.take k) st2;rw[List.length_take,Nat.min_eq_left hk]at hlen;have on:=Kh hC (a:=a) (b:=b) (c:=c) (e:=e) (j:=j) hsm (by omega) (by omega);have i0:(0:Int)<=(k:Int):=Int.natCast_nonneg _;have i1:(k:Int)<(LE.length:Int):=by omega
      clear hC hG ho hg hg' hj hmem hsm hlen hEk
      go_wp2_with (go_at_call 148;refine on.mono ?_;rintro r w1 ⟨rfl,tJ,h3,h4⟩)
      go_roundw
      case rel=>exact⟨k+1,tJ,by go_num,by omega,by rw[HE.out];exact h3,HG.out.trans h4⟩
      case measure=>simp[intOf];omega
     ·obtain rfl:k=LE.length:=by omega
      rw[List.take_length]at hC;have HC:Hid (aC wr B d { v6 with ov:=iB } (onE ⟨a,b,c,e⟩ LE st2) (nm+1)):=hC;clear hC hG
      go_wp2_with fail
      go_end0
      exact⟨rfl,_,HC.out,Km.out.trans HG.out⟩
structure Fits(R:List Ru)(tok:List Int)(it:aJ):Prop where
 rule:it.rule<R.length
 read:it.read<=(R.getD it.rule (0,[])).2.length
 fr:it.fr<=30
 upto:it.upto<=30
 R40:R.length<=40
 r8:(R.getD it.rule (0,[])).2.length<=8
 l0:0<=(R.getD it.rule (0,[])).1
 l1:(R.getD it.rule (0,[])).1<=1000
 s0:∀s∈(R.getD it.rule (0,[])).2,0<=s.2/\s.2<=1000
 tok:tok.length<=30
theorem Zp{w:World}{B nm:Nat}{d:Ad}{v:CM}{st:aL}{R:List Ru}{tok:List Int}(h:aC w B d v st nm)(hr:au w B d.rv R)(ht:aP w B d.tv tok){a b c e:Nat}(hF:Fits R tok ⟨a,b,c,e⟩)(hn:nm+1<=1000000)
 (hI:st.I.length<=345960) (hO:st.O.length<=345960) (C9:∀s,(st.W s).length<=345960) (hEl:∀s,(st.E s).length<=345960) (hWs:∀s,∀it∈st.W s,Small (bf it e)) (Zq:∀s,∀j∈st.E s,Small (bf ⟨a,b,c,e⟩ j)):
 Calls Tryz.prog 114 #[.pointer (some ⟨d.ca,0,none⟩),.agg #[.int .i64 a,.int .i64 b,.int .i64 c,.int .i64 e]] w fun r w'=>r= .returned (.tuple #[])/\∃v',aC w' B d v' (iF R tok ⟨a,b,c,e⟩ st) (nm+1)/\Goes d v v' w w':=by
 obtain⟨f1,f2,f3,f4,f5,f6,f7,f8,f9,f10⟩:=hF;simp only at f1 f2 f3 f4 f5 f6 f7 f8 f9 f10;obtain⟨ra,rc,aG⟩:=hr.1;obtain⟨rb,ro,rc',qa,qc,hv,hrb,k1,k2,hqc,k3⟩:=hr.2 a f1;have hB:B<=w.heap.size:=by have:=h.ge.1;have:=h.mE.lt;omega
 obtain⟨⟨L,Rt⟩,hre⟩:∃x,R.getD a (0,[])=x:=⟨_,rfl⟩;rw[hre]at k1 k2 k3 f2 f6 f7 f8 f9 hqc;simp only at k1 k2 k3 f2 f6 f7 f8 f9 hqc;have Zr:R.length=R.length:=rfl;have hb1:Below w.heap.size w (w.alloc (.cells #[.int .i64 a,.int .i64 b,.int .i64 c,.int .i64 e] 198)):=(Below.refl _ _).alloc (Nat.le_refl _) _;have j1:=h.alloc (.cells #[.int .i64 a,.int .i64 b,.int .i64 c,.int .i64 e] 198);have j2:=j1.alloc (.cells #[.int .i64 0,.slice none 0 0] 91);have c2:=(j1.cell (i:=2) rfl (by omega)).1;have d2:=(j2.cell (i:=2) rfl (by omega)).1;rw[hv]at c2 d2
 have past:∀(o o':Obj) (x y:Nat),x<B->((w.alloc o).alloc o').cell? ⟨x,y,none⟩=w.cell? ⟨x,y,none⟩/\(w.alloc o).cell? ⟨x,y,none⟩=w.cell? ⟨x,y,none⟩:=fun o o' x y hx=>
  ⟨(World.cell?_alloc_past _ _ _ (by simp;omega)).trans (World.cell?_alloc_past _ _ _ (by omega)),World.cell?_alloc_past _ _ _ (by omega)⟩
 have x1:=((past (.cells #[.int .i64 a,.int .i64 b,.int .i64 c,.int .i64 e] 198) (.cells #[.int .i64 0,.slice none 0 0] 91) rb (ro+a*2) hrb).2).trans k1;have y1:=((past (.cells #[.int .i64 a,.int .i64 b,.int .i64 c,.int .i64 e] 198) (.cells #[.int .i64 0,.slice none 0 0] 91) rb (ro+a*2) hrb).1).trans k1;have k2':w.cell? ⟨rb,ro+a*2+1,none⟩=some (.slice qa Rt.length qc):=by rw[Nat.add_assoc];exact k2
 have x2:=((past (.cells #[.int .i64 a,.int .i64 b,.int .i64 c,.int .i64 e] 198) (.cells #[.int .i64 0,.slice none 0 0] 91) rb (ro+a*2+1) hrb).2).trans k2';have y2:=((past (.cells #[.int .i64 a,.int .i64 b,.int .i64 c,.int .i64 e] 198) (.cells #[.int .i64 0,.slice none 0 0] 91) rb (ro+a*2+1) hrb).1).trans k2';have i0:(0:Int)<=(a:Int):=Int.natCast_nonneg _;have i1:(a:Int)<(R.length:Int):=by omega
 obtain⟨rl,hrl⟩:∃rl,R.length=rl:=⟨_,rfl⟩;obtain⟨m,hm⟩:∃m,Rt.length=m:=⟨_,rfl⟩;have H:Hid (aC w B d v st nm):=h;have HR:Hid (au w B d.rv R):=hr;have HT:Hid (aP w B d.tv tok):=ht;have Zt:Hid (R.getD a (0,[])=(L,Rt)):=hre;have HM:Hid (Rt.length=m):=hm;have Qz:Hid (R.length=rl):=hrl;rw[hrl]at c2 d2 i1;rw[hm]at x2 y2 f2 f6;clear h hr ht j1 j2 hv hre past k1 k2 k2' aG hrl hm Zr hb1;have hj:∃W2,((w.alloc (.cells #[.int .i64 a,.int .i64 b,.int .i64 c,.int .i64 e] 198)).alloc (.cells #[.int .i64 L,.slice qa m qc] 91)).drew=W2:=⟨_,rfl⟩;obtain⟨W2,hW2⟩:=hj;have hbW:Below w.heap.size w W2:=by rw[<-hW2];exact(((Below.refl _ _).alloc (Nat.le_refl _) _).alloc (by simp) _).drew
 have u0:W2.cell? ⟨w.heap.size,0,none⟩=some (.int .i64 a):=by rw[<-hW2];simp[go_sem]
 have u1:W2.cell? ⟨w.heap.size,1,none⟩=some (.int .i64 b):=by rw[<-hW2];simp[go_sem]
 have u2:W2.cell? ⟨w.heap.size,2,none⟩=some (.int .i64 c):=by rw[<-hW2];simp[go_sem]
 have u3:W2.cell? ⟨w.heap.size,3,none⟩=some (.int .i64 e):=by rw[<-hW2];simp[go_sem]
 have u4:W2.cell? ⟨w.heap.size+1,0,none⟩=some (.int .i64 L):=by rw[<-hW2];simp[go_sem]
 have u5:W2.cell? ⟨w.heap.size+1,1,none⟩=some (.slice qa m qc):=by rw[<-hW2];simp[go_sem]
 have HW2:Hid (((w.alloc (.cells #[.int .i64 a,.int .i64 b,.int .i64 c,.int .i64 e] 198)).alloc (.cells #[.int .i64 L,.slice qa m qc] 91)).drew=W2):=hW2;have hs2:W2.heap.size=w.heap.size+2:=by rw[<-hW2];simp
 clear hW2;have Ab:Hid (Below w.heap.size w W2):=hbW;have dP:Hid (aC W2 B d v st nm):=H.out.below hbW
 have FY:Hid (iF R tok ⟨a,b,c,e⟩ st=if b=m then wP (L,c) e st else if (Rt.getD b (false,0)).1=false then tC R ((Rt.getD b (false,0)).2,e) ⟨a,b,c,e⟩ st else if e<tok.length/\tok.getD e 0=(Rt.getD b (false,0)).2 then dV st (bf ⟨a,b,c,e⟩ (e+1)) else st):=by
  show iF R tok ⟨a,b,c,e⟩ st=_;unfold iF;simp only[Zt.out,HM.out]
 clear hbW
 go_enter Tryz.func114,Tryz.ntmps114
 go_wp2_with fail
 go_cut [4] from 5 (fun s4 wx=>s4= .pointer (some ⟨w.heap.size+1,0,none⟩)/\wx=W2)
 case first=>
  go_region
  all_goals
   go_wp2_with fail
   go_meet
   case rel=>exact⟨by simp,HW2.out⟩
 case rest=>
  obtain⟨rfl,hwc⟩:=hcut;rw[hwc];clear hwc c2 d2 x1 x2 y1 y2 HW2;by_cases Da:b=m
  ·subst Da
   have en:=Zl dP.out (n:=L) (p:=c) (j:=e) f7 f8 (by omega) hn (by have:=hEl (L,c);omega) (hWs (L,c)) (by have:=C9 (L,c);omega) (by have:=C9 (L,c);omega);have HE:Hid (iF R tok ⟨a,b,c,e⟩ st=wP (L,c) e st):=by show iF R tok ⟨a,b,c,e⟩ st=_;rw[FY.out,if_pos rfl]
   clear k3 FY
   go_wp2_with (go_at_call 146;refine en.mono ?_;rintro r w1 ⟨rfl,v',h3,h4⟩)
   refine bodyPost_ret (v:= .tuple #[]) (results_none Tryz.results114 _ _ _) rfl ?_;exact⟨rfl,v',by rw[HE.out];exact h3,(Goes.bP Ab.out).trans h4⟩
  ·have hb:b<Rt.length:=by rw[HM.out];omega
   have afL:((b:Int)==(m:Int))=false:=by simp;omega
   obtain⟨sb,so,rfl,hsb,k4,k5⟩:=k3 b hb;have hmem:Rt.getD b (false,0)∈Rt:=by simp[List.getD,hb]
   have hsy:=f9 _ hmem;obtain⟨⟨t,s⟩,Kq⟩:∃x,Rt.getD b (false,0)=x:=⟨_,rfl⟩;rw[Kq]at k4 k5 hsy;simp only at k4 k5 hsy;have v4:W2.cell? ⟨sb,so+b*2,none⟩=some (.bool t):=(Ab.out.cell (by simp only;omega)).trans k4;have v5:W2.cell? ⟨sb,so+b*2+1,none⟩=some (.int .i64 s):=by rw[Nat.add_assoc];exact(Ab.out.cell (by simp only;omega)).trans k5
   have b0:(0:Int)<=(b:Int):=Int.natCast_nonneg _;have b1:(b:Int)<(m:Int):=by omega
   have HE:Hid (iF R tok ⟨a,b,c,e⟩ st=if t=false then tC R (s,e) ⟨a,b,c,e⟩ st else if e<tok.length/\tok.getD e 0=s then dV st (bf ⟨a,b,c,e⟩ (e+1)) else st):=by
    show iF R tok ⟨a,b,c,e⟩ st=_;rw[FY.out,if_neg Da,Kq]
   have HB3:Hid (Below w.heap.size w (W2.alloc (.cells #[.bool t,.int .i64 s] 116))):=Ab.out.alloc (by omega) _;have Db:∀(x y:Nat),x<W2.heap.size->(W2.alloc (.cells #[.bool t,.int .i64 s] 116)).cell? ⟨x,y,none⟩=W2.cell? ⟨x,y,none⟩:=fun x y hx=>World.cell?_alloc_past _ _ _ hx;have q0:=(Db w.heap.size 0 (by omega)).trans u0;have q1:=(Db w.heap.size 1 (by omega)).trans u1;have q2:=(Db w.heap.size 2 (by omega)).trans u2;have q3:=(Db w.heap.size 3 (by omega)).trans u3;have k6:=dP.out.alloc (.cells #[.bool t,.int .i64 s] 116);have jJ:Hid (aC (W2.alloc (.cells #[.bool t,.int .i64 s] 116)) B d v st nm):=k6;have hBw:=H.out.nR (Goes.bP (d:=d) (v:=v) HB3.out);clear k3 k4 k5 hmem Kq FY Db f9;cases t with
   |false=>
    have wt:=Zm k6 (HR.out.below hBw) (n:=s) (p:=e) (a:=a) (b:=b) (c:=c) (e:=e) hsy.1 hsy.2 (by omega) hn f5 (Zq (s,e)) (by have:=hEl (s,e);omega) (by have:=hEl (s,e);omega) (by have:=C9 (s,e);omega);have HE2:Hid (iF R tok ⟨a,b,c,e⟩ st=tC R (s,e) ⟨a,b,c,e⟩ st):=by show iF R tok ⟨a,b,c,e⟩ st=_;rw[HE.out,if_pos rfl]
    clear k6 hBw HE
    go_wp2_with (go_at_call 147;refine wt.mono ?_;rintro r w1 ⟨rfl,v',h3,h4⟩)
    refine bodyPost_ret (v:= .tuple #[]) (results_none Tryz.results114 _ _ _) rfl ?_;exact⟨rfl,v',by rw[HE2.out];exact h3,(Goes.bP HB3.out).trans h4⟩
   |true=>
    have c3:=(k6.cell (i:=3) rfl (by omega)).1;obtain⟨ta,tc,dW⟩:=HT.out.1;rw[dW]at c3;have HT3:Hid (aP (W2.alloc (.cells #[.bool true,.int .i64 s] 116)) B (.slice ta tok.length tc) tok):=by rw[dW]at HT;exact HT.out.below hBw
    clear k6 hBw dW;by_cases Kr:e<tok.length
    ·obtain⟨tb,to_,QA,hte,htb,x1⟩:=HT3.out.2 e Kr
     injection hte with h5 _ h6;subst h5;subst h6;obtain⟨x,hx⟩:∃x,tok.getD e 0=x:=⟨_,rfl⟩;rw[hx]at x1 HE;obtain⟨tl,htl⟩:∃tl,tok.length=tl:=⟨_,rfl⟩;rw[htl]at c3 Kr;have e0:(0:Int)<=(e:Int):=Int.natCast_nonneg _;have e1:(e:Int)<(tl:Int):=by omega
     have e2:e<tok.length:=by omega
     by_cases hxs:x=s
     ·subst hxs
      have HE2:Hid (iF R tok ⟨a,b,c,e⟩ st=dV st (bf ⟨a,b,c,e⟩ (e+1))):=by show iF R tok ⟨a,b,c,e⟩ st=_;rw[HE.out,if_neg (by simp),if_pos ⟨e2,rfl⟩]
      have on:∀nq,Calls Tryz.prog 148 #[.pointer (some ⟨d.ca,0,none⟩),.agg #[.int .i64 a,.int .i64 b,.int .i64 c,.int .i64 e],.int .i64 ((e:Int)+1)] ((W2.alloc (.cells #[.bool true,.int .i64 x] 116)).drewN nq) fun r w'=>r= .returned (.tuple #[])/\∃aA,aC w' B d { v with ov:=aA } (dV st (bf ⟨a,b,c,e⟩ (e+1))) nm/\Goes d v { v with ov:=aA } ((W2.alloc (.cells #[.bool true,.int .i64 x] 116)).drewN nq) w':=fun nq=>
       Kh (jJ.out.below (below_drewN (Below.refl _ _) nq)) (a:=a) (b:=b) (c:=c) (e:=e) (j:=e+1) ⟨by simp[bf];omega,by simp[bf];omega,by simp[bf];omega,by simp[bf];omega⟩ (by omega) (by omega)
      clear hx HE HT3 htl e2
      go_wp2_with fail
      go_big_quiet (fail)
      go_wp2_with (go_at_call 148;refine(on _).mono ?_;rintro r w1 ⟨rfl,v',h3,h4⟩)
      go_end0
      exact⟨rfl,_,by rw[HE2.out];exact h3.mono (Nat.le_succ _),(Goes.bP (below_drewN HB3.out _)).trans h4⟩
     ·have hxs':(x==s)=false:=by simpa using hxs
      have HE2:Hid (iF R tok ⟨a,b,c,e⟩ st=st):=by show iF R tok ⟨a,b,c,e⟩ st=_;rw[HE.out,if_neg (by simp),if_neg (fun h=>hxs h.2)]
      clear hx HE HT3 htl e2
      go_wp2_with fail
      go_big_quiet (fail)
      go_wp2_with fail
      go_end0
      exact⟨rfl,_,by rw[HE2.out];exact(jJ.out.below (below_drewN (Below.refl _ _) _)).mono (Nat.le_succ _),Goes.bP (below_drewN HB3.out _)⟩
    ·have HE2:Hid (iF R tok ⟨a,b,c,e⟩ st=st):=by show iF R tok ⟨a,b,c,e⟩ st=_;rw[HE.out,if_neg (by simp),if_neg (fun h=>Kr h.1)]
     have e1:decide ((e:Int)<(tok.length:Int))=false:=decide_eq_false (by omega);clear HE HT3
     go_wp2_with fail
     go_big_quiet (fail)
     go_wp2_with fail
     go_end0
     exact⟨rfl,_,by rw[HE2.out];exact(jJ.out.below (below_drewN (Below.refl _ _) _)).mono (Nat.le_succ _),Goes.bP (below_drewN HB3.out _)⟩
end Go.Proofs.YtblkkhfdeaaidaaGreatDoor
