import Derived.Test.YtpkmpkphfflpjaaGreatSetsGrowAndSetsStill
import Derived.Test.YtpkmpkphfflpjaaGreatLfpAndRef3Math
import Derived.Test.YtpkmpkphfflpjaaGreatTkTabAndSetsPut
set_option maxHeartbeats 3200000
set_option maxRecDepth 100000
namespace Go.Proofs.YtpkmpkphfflpjaaGreat
open Go.RowKit
def oM:Iy->Option Ix
 | .null=>some .null
 | .gr=>none
 | .f n=>some (.f n)
 | .g n=>some (.g n)
def tabs(Nu:List Bool)(Fi Fo:List (List Bool)):Xs
 | .null=>Nu
 | .gr=>[true]
 | .f n=>Fi.getD n []
 | .g n=>Fo.getD n []
section
variable{w:World}{B sb T N:Nat}{nv fv gv:Value}{vf vg:Nat->Value}{Nu:List Bool}{Fi Fo:List (List Bool)}
theorem Ox(gb:Nat)(i:Iy)(x:Ix)(hx:oM i=some x):(aL T N nv vf vg gb).P (tabs Nu Fi Fo) i=bT sb T N N N nv fv gv vf vg Nu Fi Fo x:=by
 cases i with
 |gr=>cases hx
 |null=>cases hx;rfl
 |f n=>cases hx;simp only[dP.P,aL,di,bT,tabs];split<;>rfl
 |g n=>cases hx;simp only[dP.P,aL,di,bT,tabs];split<;>rfl
theorem aeb(h:au w B (bT sb T N N N nv fv gv vf vg Nu Fi Fo))(hB:B<=w.heap.size):Bt (w.alloc (.cells #[.bool true] 4)) B (aL T N nv vf vg w.heap.size) (tabs Nu Fi Fo):=by
 have row:∀i x r,oM i=some x->(aL T N nv vf vg w.heap.size).P (tabs Nu Fi Fo) i=some r->bT sb T N N N nv fv gv vf vg Nu Fi Fo x=some r:=fun i x r hx hr=>(Ox (sb:=sb) (fv:=fv) (gv:=gv) w.heap.size i x hx).symm.trans hr;have gr:∀r,(aL T N nv vf vg w.heap.size).P (tabs Nu Fi Fo) .gr=some r->r=⟨.slice (some ⟨w.heap.size,0,none⟩) 1 1,4,1,1,[.bool true]⟩:=fun r hr=>by cases hr;rfl
 have JL:∀i,oM i=none->i= .gr:=fun i hi=>by cases i<;>first|rfl|cases hi
 refine⟨fun i r hr=> ?_,fun i j a b hij ha hb g h1 h2=> ?_⟩
 ·cases hx:oM i with
  |some x=>exact(h.own x r (row i x r hx hr)).alloc _
  |none=>
   obtain rfl:=JL i hx;obtain rfl:=gr r hr;have:=World.ownsRow_lit (base:=B) (e:=4) (size:=1) w #[.bool true] 1 hB (by unfold maxLen;omega) rfl;simpa using this
 ·cases hx:oM i with
  |some x=>
   have l1:=(h.lt (row i x a hx ha) h1).2;cases hy:oM j with
   |some y=>
    refine h.apart x y a b (fun e=>hij ?_) (row i x a hx ha) (row j y b hy hb) g h1 h2;subst e;cases i<;>cases j<;>simp[oM]at hx hy<;>subst hx<;>simp_all
   |none=>
    obtain rfl:=JL j hy;obtain rfl:=gr b hb;simp only[Value.ownBlock,Option.some.injEq]at h2;omega
  |none=>
   obtain rfl:=JL i hx;obtain rfl:=gr a ha;simp only[Value.ownBlock,Option.some.injEq]at h1;cases hy:oM j with
   |some y=>
    have l1:=(h.lt (row j y b hy hb) h2).2;omega
   |none=>exact hij (JL j hy).symm
theorem VS(h:au w B (bT sb T N N N nv fv gv vf vg Nu Fi Fo)){x:Ix}{r:Row}(hx:bT sb T N N N nv fv gv vf vg Nu Fi Fo x=some r)(hn:∀i,oM i≠some x){g:Nat}(hg:r.v.ownBlock=some g):¬(aL T N nv vf vg w.heap.size).K g:=by
 rintro ⟨i,n,hd,hb⟩;cases hi:oM i with
 |some y=>
  have hP:(aL T N nv vf vg w.heap.size).P (tabs Nu Fi Fo) i=some ⟨(aL T N nv vf vg w.heap.size).V i,4,1,n,(tabs Nu Fi Fo i).map Value.bool⟩:=dP.yC hd;rw[Ox (sb:=sb) (fv:=fv) (gv:=gv) _ i y hi]at hP;exact h.apart y x _ _ (fun e=>hn i (e▸hi)) hP hx g hb hg
 |none=>
  cases i<;>simp[oM]at hi;have:=(h.lt hx hg).2;simp only[aL,Value.ownBlock,Option.some.injEq]at hb;omega
theorem aec(h:au w B (bT sb T N N N nv fv gv vf vg Nu Fi Fo))(o:Obj):ku (w.alloc o) (aL T N nv vf vg w.heap.size).K N fv vf:=by
 have hh:w.ownsRow B 81 1 fv N ((List.range N).map vf):=h.own .fh _ rfl;refine⟨aY hh,fun n hn=> ?_⟩;obtain⟨g,cap,hv,_,hlt⟩:=hh.form (by omega);refine⟨g,cap,hv,VS h (x:= .fh) rfl (fun i=>by cases i<;>simp[oM]) (by simp only;rw[hv];rfl),?_⟩;rw[World.cell?_alloc_past _ _ _ hlt];rw[hv]at hh;rw[hh.cellAt n (by omega)];simp[hn]
theorem aed(h:au w B (bT sb T N N N nv fv gv vf vg Nu Fi Fo))(o:Obj):ku (w.alloc o) (aL T N nv vf vg w.heap.size).K N gv vg:=by
 have hh:w.ownsRow B 81 1 gv N ((List.range N).map vg):=h.own .gh _ rfl;refine⟨aY hh,fun n hn=> ?_⟩;obtain⟨g,cap,hv,_,hlt⟩:=hh.form (by omega);refine⟨g,cap,hv,VS h (x:= .gh) rfl (fun i=>by cases i<;>simp[oM]) (by simp only;rw[hv];rfl),?_⟩;rw[World.cell?_alloc_past _ _ _ hlt];rw[hv]at hh;rw[hh.cellAt n (by omega)];simp[hn]
theorem aee{i:Iy}{m:Nat}(hi:i≠ .gr):bit (tabs (List.replicate N false) (List.replicate N (List.replicate T false)) (List.replicate N (List.replicate (T+1) false))) i m=false:=by
 have iZ:∀(n k:Nat),(List.replicate n false).getD k false=false:=fun n k=>by
  by_cases h:k<n
  ·simp[List.getD,h]
  ·simp[List.getD,List.getElem?_eq_none (show (List.replicate n false).length<=k by simp;omega)]
 have VT:∀(n q k j:Nat),((List.replicate n (List.replicate q false)).getD k []).getD j false=false:=fun n q k j=>by
  by_cases h:k<n
  ·have:(List.replicate n (List.replicate q false)).getD k []=List.replicate q false:=by simp[List.getD,h]
   rw[this];exact iZ _ _
  ·have:(List.replicate n (List.replicate q false)).getD k []=[]:=by simp[List.getD,List.getElem?_eq_none (show (List.replicate n (List.replicate q false)).length<=k by simp;omega)]
   rw[this];simp
 cases i with
 |gr=>exact absurd rfl hi
 |null=>exact iZ _ _
 |f n=>exact VT _ _ _ _
 |g n=>exact VT _ _ _ _
theorem aef:tabs Nu Fi (set2 Fo 0 T)=if 0<Fo.length then bH (tabs Nu Fi Fo) (.g 0) T true else tabs Nu Fi Fo:=by
 funext i
 cases i with
 |g n=>
  simp only[tabs];rw[Dc];by_cases h:0<Fo.length
  ·rw[if_pos h]
   by_cases hn:n=0
   ·subst hn;rw[if_pos ⟨rfl,h⟩];simp[bH,tabs]
   ·rw[if_neg (fun e=>hn e.1)];simp[bH,tabs,hn]
  ·rw[if_neg h,if_neg (fun e=>h e.2)];rfl
 |_=>split<;>simp[tabs,bH]
theorem aeg{R:List Ru}(hf:cO T N R):u7 T N R (tabs (List.replicate N false) (List.replicate N (List.replicate T false)) (set2 (List.replicate N (List.replicate (T+1) false)) 0 T)):=by
 have h1:=hf.some;have e:=aef (T:=T) (Nu:=List.replicate N false) (Fi:=List.replicate N (List.replicate T false)) (Fo:=List.replicate N (List.replicate (T+1) false));rw[if_pos (by simp;omega)]at e;rw[e];have hlen:(tabs (List.replicate N false) (List.replicate N (List.replicate T false)) (List.replicate N (List.replicate (T+1) false)) (.g 0)).length=T+1:=by simp[tabs,List.getD,show 0<N by omega]
 have hb:∀i m,bit (bH (tabs (List.replicate N false) (List.replicate N (List.replicate T false)) (List.replicate N (List.replicate (T+1) false))) (.g 0) T true) i m=if i= .g 0/\m=T then true else bit (tabs (List.replicate N false) (List.replicate N (List.replicate T false)) (List.replicate N (List.replicate (T+1) false))) i m:=fun i m=>iW (by omega)
 refine⟨fun i n hd=> ?_,fun i n m hd hm hbt=> ?_,fun hz=> ?_,by rw[hb];simp⟩
 ·rw[rU]
  cases i with
  |null=>cases hd;simp[tabs]
  |gr=>cases hd;rfl
  |f q=>simp only[di]at hd;split at hd<;>cases hd;rename_i hq;simp[tabs,List.getD,hq]
  |g q=>simp only[di]at hd;split at hd<;>cases hd;rename_i hq;simp[tabs,List.getD,hq]
 ·rw[hb]at hbt
  by_cases c:i= .g 0/\m=T
  ·obtain⟨rfl,rfl⟩:=c
   exact jo (C9 hf _ _ _) _ (.inl ⟨rfl,rfl⟩)
  ·rw[if_neg c]at hbt
   by_cases hg:i= .gr
   ·subst hg;trivial
   ·rw[aee hg]at hbt;cases hbt
 ·rw[hb,if_neg (by simp)]at hz
  simp[bit,tabs]at hz
end
theorem Oy{T N:Nat}{R:List Ru}(h:aZ T N R=true):cO T N R/\∀q,q<R.length->uZ T N (R.getD q (0,[]))/\(R.getD q (0,[])).2.length<=8:=by
 obtain⟨_,h1,_,_,h5⟩:=kM h
 have mem:∀r∈R,0<=r.1/\r.1<(N:Int)/\∀s∈r.2,0<=s.2/\s.2<if s.1 then (T:Int) else (N:Int):=fun r hr=>by
  obtain⟨q,hq,rfl⟩:=List.getElem_of_mem hr;have e:R.getD q (0,[])=R[q]:=by simp[List.getD,hq]
  have:=h5 q hq;rw[e]at this;exact⟨this.1,this.2.1,this.2.2.2⟩
 refine⟨⟨fun r hr=>⟨(mem r hr).1,(mem r hr).2.1⟩,fun r hr s hs hb=> ?_,fun r hr s hs hb=> ?_,h1⟩,fun q hq=>⟨⟨⟨(h5 q hq).1,(h5 q hq).2.1⟩,(h5 q hq).2.2.2⟩,(h5 q hq).2.2.1⟩⟩
 ·have:=(mem r hr).2.2 s hs;rw[hb]at this;simpa using this
 ·have:=(mem r hr).2.2 s hs;rw[hb]at this;simpa using this
theorem aeh{w:World}{T N:Nat}{ra:Option Addr}{rl rc:Nat}(hT:T<=8)(hN:N<=12):
 Calls Tryz.prog 50 #[.agg #[.int .i64 T,.int .i64 N,.slice ra rl rc]] w fun e w'=> ∃nv fv gv vf vg sb,e= .returned (.agg #[nv,fv,gv])/\Below w.heap.size w w'/\
  au w' (w.heap.size+2) (bT sb T N N N nv fv gv vf vg (List.replicate N false) (List.replicate N (List.replicate T false)) (List.replicate N (List.replicate (T+1) false))):=by
 have Bg:=Ad N (by omega);have VU:=Ad T (by omega);have JM:=Ad (T+1) (by omega)
 go_enter Tryz.func50,Tryz.ntmps50
 go_wp2_with fail
 have HS:=Yr w T N (by unfold maxLen;omega) (.cells #[.int .i64 T,.int .i64 N,.slice ra rl rc] 24) (.cells #[.slice none 0 0,.slice none 0 0,.slice none 0 0] 84)
 have boxes:∀wr,Below (w.heap.size+2) ((w.alloc (.cells #[.int .i64 T,.int .i64 N,.slice ra rl rc] 24)).alloc (.cells #[.slice none 0 0,.slice none 0 0,.slice none 0 0] 84)) wr->Below w.heap.size w wr/\wr.cell? ⟨w.heap.size,0,none⟩=some (.int .i64 T)/\wr.cell? ⟨w.heap.size,1,none⟩=some (.int .i64 N)/\wr.cell? ⟨w.heap.size,2,none⟩=some (.slice ra rl rc):=fun wr hB=>
  ⟨(((Below.refl _ _).alloc (Nat.le_refl _) _).alloc (by simp) _).trans (hB.mono (by omega)),(hB.cell (by simp)).trans (by simp[go_sem]),(hB.cell (by simp)).trans (by simp[go_sem]),(hB.cell (by simp)).trans (by simp[go_sem])⟩
 have Co:Hid (∀wr,Below (w.heap.size+2) ((w.alloc (.cells #[.int .i64 T,.int .i64 N,.slice ra rl rc] 24)).alloc (.cells #[.slice none 0 0,.slice none 0 0,.slice none 0 0] 84)) wr->Below w.heap.size w wr/\wr.cell? ⟨w.heap.size,0,none⟩=some (.int .i64 T)/\wr.cell? ⟨w.heap.size,1,none⟩=some (.int .i64 N)/\wr.cell? ⟨w.heap.size,2,none⟩=some (.slice ra rl rc)):=boxes;clear boxes Bg
 go_loopw [10] (fun i wr=> ∃m:Nat,i= .int .i64 m/\m<=N/\SR ((w.alloc (.cells #[.int .i64 T,.int .i64 N,.slice ra rl rc] 24)).alloc (.cells #[.slice none 0 0,.slice none 0 0,.slice none 0 0] 84)) (w.heap.size+2) (w.heap.size+1+1+1) T N m m (List.replicate N false) (List.replicate m (List.replicate T false)) (List.replicate m (List.replicate (T+1) false)) wr)
  (fun i _=>N-(intOf i).toNat)
 case atStart=>exact⟨0,rfl,Nat.zero_le _,HS⟩
 case round=>
  clear HS;obtain⟨m,rfl,hmN,hB,hle,Aw,JN,nv,fv,gv,vf,vg,hO⟩:=hrel;have HB:Hid (Below (w.heap.size+2) ((w.alloc (.cells #[.int .i64 T,.int .i64 N,.slice ra rl rc] 24)).alloc (.cells #[.slice none 0 0,.slice none 0 0,.slice none 0 0] 84)) wr):=hB;have HO:Hid (au wr (w.heap.size+2) (bT (w.heap.size+1+1+1) T N m m nv fv gv vf vg (List.replicate N false) (List.replicate m (List.replicate T false)) (List.replicate m (List.replicate (T+1) false)))):=hO;obtain⟨_,b0,b1,_⟩:=Co.out wr hB;have hsb:w.heap.size+1+1+1<wr.heap.size:=World.block_lt_of_cell? wr _ hO.fields.1;clear hB hO;by_cases hlt:m<N
  ·obtain⟨fa,fc,rfl⟩:∃a c,fv= .slice a m c:=aY (HO.out.own .fh _ rfl)
   obtain⟨ga,gc,rfl⟩:∃a c,gv= .slice a m c:=aY (HO.out.own .gh _ rfl)
   go_upto_region 5 with fail
   go_cut [] from 11 to 29 (fun wx=>SR ((w.alloc (.cells #[.int .i64 T,.int .i64 N,.slice ra rl rc] 24)).alloc (.cells #[.slice none 0 0,.slice none 0 0,.slice none 0 0] 84)) (w.heap.size+2) (w.heap.size+1+1+1) T N (m+1) m (List.replicate N false) (List.replicate (m+1) (List.replicate T false)) (List.replicate m (List.replicate (T+1) false)) wx)
   case first=>
    obtain⟨i0,hi0,hz0,hz1,hz2⟩:=info_parts Tryz.infoBools;obtain⟨s0,s1,s2,sf⟩:=HO.out.fields;obtain⟨t0,t1,t2,tf⟩:=(HO.out.alloc (.cells (madeCells #[.bool false] T) 4)).fields;have hO2:=(HO.out.alloc (.cells (madeCells #[.bool false] T) 4)).alloc (.cells #[.slice (some ⟨wr.heap.size,0,none⟩) T T] 81);obtain⟨q0,q1,q2,qf⟩:=hO2.fields;have FJ:((wr.alloc (.cells (madeCells #[.bool false] T) 4)).alloc (.cells #[.slice (some ⟨wr.heap.size,0,none⟩) T T] 81)).drew.ownsRow (w.heap.size+2) 81 1 (.slice fa m fc) m ((List.range m).map vf):=hO2.own .fh _ rfl;have c0:(wr.alloc (.cells (madeCells #[.bool false] T) 4)).cell? ⟨w.heap.size,0,none⟩=some (.int .i64 T):=by rw[World.cell?_alloc_past _ _ _ (by omega)];exact b0
    have FK:(Value.slice fa m fc).ownBlock≠some (w.heap.size+1+1+1):=fun e=>HO.out.apart .fh .st _ _ (by simp) rfl rfl _ e rfl
    have hnb:((wr.alloc (.cells (madeCells #[.bool false] T) 4)).alloc (.cells #[.slice (some ⟨wr.heap.size,0,none⟩) T T] 81)).drew.heap[wr.heap.size+1]?=some (.cells #[.slice (some ⟨wr.heap.size,0,none⟩) T T] 81 (0,0)):=by
     show ((wr.alloc (.cells (madeCells #[.bool false] T) 4)).alloc (.cells #[.slice (some ⟨wr.heap.size,0,none⟩) T T] 81)).heap[wr.heap.size+1]?=_;simpa using heap_alloc_new (wr.alloc (.cells (madeCells #[.bool false] T) 4)) (.cells #[.slice (some ⟨wr.heap.size,0,none⟩) T T] 81)
    have Oz:Hid (((wr.alloc (.cells (madeCells #[.bool false] T) 4)).alloc (.cells #[.slice (some ⟨wr.heap.size,0,none⟩) T T] 81)).drew.heap[wr.heap.size+1]?=some (.cells #[.slice (some ⟨wr.heap.size,0,none⟩) T T] 81 (0,0))):=hnb;clear hnb hO2 s0 s2 t0 t2 q0 q2 JM
    go_region_law
     ((refine step_append_lies _ (by rfl) _ _ _ (by rfl) (w.heap.size+2) 81 i0 _ 1 24 Tryz.underlying82 hi0 hz0 hz1 hz2 rfl (by omega) (.slice fa m fc) m ((List.range m).map vf) (by rfl) FJ
        ⟨wr.heap.size+1,0,none⟩ 1 1 [.slice (some ⟨wr.heap.size,0,none⟩) T T] (by rfl) (by rfl) (World.news_of_block (cs:= #[.slice (some ⟨wr.heap.size,0,none⟩) T T]) (t:=81) (fr:=(0,0)) Oz.out) (by simp[Value.oneCell'])
        (by omega) (by unfold maxLen;omega) (by omega) (by simp;omega) (wr.heap.size+2) (by simp) ?_;intro g1 uw w1 hown1 hgrow1 Jy hlt1
       have d1:=(hgrow1.cell_far ⟨w.heap.size+1+1+1,1,none⟩ (by simp;omega) (Ne.symm FK)).trans q1;have d2:=(hgrow1.frozen_far ⟨w.heap.size+1+1+1,1,none⟩ (by simp;omega) (Ne.symm FK)).trans (qf 1)))
    all_goals
     go_wp2_with fail
     go_meet
     case rel=>
      obtain⟨x1,x2⟩:=Qj (sb:=w.heap.size+1+1+1) (j:=1) (v:= .slice (some ⟨g1,0,none⟩) (m+1) uw) HB.out hle hgrow1 (fun k hk=>(FJ.lt k hk).1) (by omega)
      refine⟨x1,x2,by simp,by simp,_,_,_,_,_,by
       have:=HO.out.Yp (by simp) hle (by unfold maxLen;omega) hgrow1 hown1 (by simpa using Jy);rw[List.replicate_succ']
       exact this⟩
   case rest=>
    clear HB HO b0 b1 hle Aw JN hsb;obtain⟨hB,hle,Aw,JN,nv,fv,gv,vf,vg,hO⟩:=hcut;have HB:Hid (Below (w.heap.size+2) ((w.alloc (.cells #[.int .i64 T,.int .i64 N,.slice ra rl rc] 24)).alloc (.cells #[.slice none 0 0,.slice none 0 0,.slice none 0 0] 84)) wc):=hB;have HO:Hid (au wc (w.heap.size+2) (bT (w.heap.size+1+1+1) T N (m+1) m nv fv gv vf vg (List.replicate N false) (List.replicate (m+1) (List.replicate T false)) (List.replicate m (List.replicate (T+1) false)))):=hO;obtain⟨_,b0,b1,_⟩:=Co.out wc hB;have hsb:w.heap.size+1+1+1<wc.heap.size:=World.block_lt_of_cell? wc _ hO.fields.1;clear hB hO;obtain⟨ga,gc,rfl⟩:∃a c,gv= .slice a m c:=aY (HO.out.own .gh _ rfl);obtain⟨i0,hi0,hz0,hz1,hz2⟩:=info_parts Tryz.infoBools;obtain⟨s0,s1,s2,sf⟩:=HO.out.fields;obtain⟨t0,t1,t2,tf⟩:=(HO.out.alloc (.cells (madeCells #[.bool false] (T+1)) 4)).fields;have hO2:=(HO.out.alloc (.cells (madeCells #[.bool false] (T+1)) 4)).alloc (.cells #[.slice (some ⟨wc.heap.size,0,none⟩) (T+1) (T+1)] 81);obtain⟨q0,q1,q2,qf⟩:=hO2.fields;have FJ:((wc.alloc (.cells (madeCells #[.bool false] (T+1)) 4)).alloc (.cells #[.slice (some ⟨wc.heap.size,0,none⟩) (T+1) (T+1)] 81)).drew.ownsRow (w.heap.size+2) 81 1 (.slice ga m gc) m ((List.range m).map vg):=hO2.own .gh _ rfl;have c0:(wc.alloc (.cells (madeCells #[.bool false] (T+1)) 4)).cell? ⟨w.heap.size,0,none⟩=some (.int .i64 T):=by rw[World.cell?_alloc_past _ _ _ (by omega)];exact b0
    have FK:(Value.slice ga m gc).ownBlock≠some (w.heap.size+1+1+1):=fun e=>HO.out.apart .gh .st _ _ (by simp) rfl rfl _ e rfl
    have hnb:((wc.alloc (.cells (madeCells #[.bool false] (T+1)) 4)).alloc (.cells #[.slice (some ⟨wc.heap.size,0,none⟩) (T+1) (T+1)] 81)).drew.heap[wc.heap.size+1]?=some (.cells #[.slice (some ⟨wc.heap.size,0,none⟩) (T+1) (T+1)] 81 (0,0)):=by
     show ((wc.alloc (.cells (madeCells #[.bool false] (T+1)) 4)).alloc (.cells #[.slice (some ⟨wc.heap.size,0,none⟩) (T+1) (T+1)] 81)).heap[wc.heap.size+1]?=_;simpa using heap_alloc_new (wc.alloc (.cells (madeCells #[.bool false] (T+1)) 4)) (.cells #[.slice (some ⟨wc.heap.size,0,none⟩) (T+1) (T+1)] 81)
    have Oz:Hid (((wc.alloc (.cells (madeCells #[.bool false] (T+1)) 4)).alloc (.cells #[.slice (some ⟨wc.heap.size,0,none⟩) (T+1) (T+1)] 81)).drew.heap[wc.heap.size+1]?=some (.cells #[.slice (some ⟨wc.heap.size,0,none⟩) (T+1) (T+1)] 81 (0,0))):=hnb;have afR:∀u:World,(Instr.makeSlice 81 (.int .i64 ((T:Int)+1)) (.int .i64 ((T:Int)+1))).run Tryz.prog u= .ok (.slice (some ⟨u.heap.size,0,none⟩) (T+1) (T+1)) (u.alloc (.cells (madeCells #[.bool false] (T+1)) 4)):=fun u=>by simpa using JM u
    have hw:IntKind.i64.wrap ((T:Int)+1)=(T:Int)+1:=IntWalk.i64_in _ (by omega);clear hnb hO2 s0 s1 t0 t1 q0 q1 VU JM
    go_wp2_with fail
    go_region_law
     ((refine step_append_lies _ (by rfl) _ _ _ (by rfl) (w.heap.size+2) 81 i0 _ 1 24 Tryz.underlying82 hi0 hz0 hz1 hz2 rfl (by omega) (.slice ga m gc) m ((List.range m).map vg) (by rfl) FJ
        ⟨wc.heap.size+1,0,none⟩ 1 1 [.slice (some ⟨wc.heap.size,0,none⟩) (T+1) (T+1)] (by rfl) (by rfl) (World.news_of_block (cs:= #[.slice (some ⟨wc.heap.size,0,none⟩) (T+1) (T+1)]) (t:=81) (fr:=(0,0)) Oz.out) (by simp[Value.oneCell'])
        (by omega) (by unfold maxLen;omega) (by omega) (by simp;omega) (wc.heap.size+2) (by simp) ?_;intro g1 uw w1 hown1 hgrow1 Jy hlt1
       have d1:=(hgrow1.cell_far ⟨w.heap.size+1+1+1,2,none⟩ (by simp;omega) (Ne.symm FK)).trans q2;have d2:=(hgrow1.frozen_far ⟨w.heap.size+1+1+1,2,none⟩ (by simp;omega) (Ne.symm FK)).trans (qf 2)))
    all_goals
     go_wp2_with fail
     go_roundw
     case rel=>
      obtain⟨x1,x2⟩:=Qj (sb:=w.heap.size+1+1+1) (j:=2) (v:= .slice (some ⟨g1,0,none⟩) (m+1) uw) HB.out hle hgrow1 (fun k hk=>(FJ.lt k hk).1) (by omega)
      refine⟨m+1,by go_num,by omega,x1,x2,by simp,by simp,_,_,_,_,_,by
       have:=HO.out.Yq (by simp) hle (by unfold maxLen;omega) hgrow1 hown1 (by simpa using Jy);rw[List.replicate_succ' (n:=m) (a:=List.replicate (T+1) false)]
       exact this⟩
     case measure=>simp[intOf];omega
  ·have VW:m=N:=by omega
   have vQ:Hid (SR ((w.alloc (.cells #[.int .i64 T,.int .i64 N,.slice ra rl rc] 24)).alloc (.cells #[.slice none 0 0,.slice none 0 0,.slice none 0 0] 84)) (w.heap.size+2) (w.heap.size+1+1+1) T N N N (List.replicate N false) (List.replicate N (List.replicate T false)) (List.replicate N (List.replicate (T+1) false)) wr):=by
    subst VW;exact⟨HB.out,hle,Aw,JN,nv,fv,gv,vf,vg,HO.out⟩
   clear VU JM HB HO hle Aw JN hsb hmN VW b0;obtain⟨hB,hle,vL,aei,nv,fv,gv,vf,vg,hO⟩:=vQ.out;have HB:Hid (Below (w.heap.size+2) ((w.alloc (.cells #[.int .i64 T,.int .i64 N,.slice ra rl rc] 24)).alloc (.cells #[.slice none 0 0,.slice none 0 0,.slice none 0 0] 84)) wr):=hB;have HO:Hid (au wr (w.heap.size+2) (bT (w.heap.size+1+1+1) T N N N nv fv gv vf vg (List.replicate N false) (List.replicate N (List.replicate T false)) (List.replicate N (List.replicate (T+1) false)))):=hO;obtain⟨s0,s1,s2,sf⟩:=hO.fields;obtain⟨na,nc,rfl⟩:∃a c,nv= .slice a N c:=aY (hO.own .null _ rfl);obtain⟨fa,fc,rfl⟩:∃a c,fv= .slice a N c:=aY (hO.own .fh _ rfl);obtain⟨ga,gc,rfl⟩:∃a c,gv= .slice a N c:=aY (hO.own .gh _ rfl);have r0:wr.cell? ⟨w.heap.size+1,0,none⟩=some (.slice none 0 0):=(hB.cell (by simp)).trans (by simp[go_sem]);have r1:wr.cell? ⟨w.heap.size+1,1,none⟩=some (.slice none 0 0):=(hB.cell (by simp)).trans (by simp[go_sem]);have r2:wr.cell? ⟨w.heap.size+1,2,none⟩=some (.slice none 0 0):=(hB.cell (by simp)).trans (by simp[go_sem]);have rf:∀o,wr.frozen? ⟨w.heap.size+1,o,none⟩=false:=fun o=>(hB.frozen (by simp)).trans (by simp[go_sem]);have HX:Hid (Below w.heap.size w wr):=(Co.out wr hB).1;clear hB hO vL aei vQ
   go_wp2_with fail
   refine bodyPost_ret (v:= .agg #[.slice na N nc,.slice fa N fc,.slice ga N gc]) (by simp[results,Tryz.results50,go_sem,r0,r1,r2]) rfl ⟨_,_,_,vf,vg,w.heap.size+1+1+1,rfl,?_,?_⟩
   ·exact((HX.out.setCell (by simp) _).setCell (by simp) _).setCell (by simp) _
   ·exact((HO.out.tQ (by simp) _).tQ (by simp) _).tQ (by simp) _
structure Ready(w:World)(B T N sx:Nat)(rv nv fv gv:Value)(vf vg:Nat->Value)(R:List Ru)(wx:World):Prop where
 below:Below w.heap.size w wx
 size:B<=wx.heap.size
 base:w.heap.size+2<=B
 res:∀o,o<3->wx.cell? ⟨w.heap.size+1,o,none⟩=some (.slice none 0 0)
 zP:∀o,wx.frozen? ⟨w.heap.size+1,o,none⟩=false
 fB:∀g c,fv= .slice (some ⟨g,0,none⟩) N c->B<=g
 gB:∀g c,gv= .slice (some ⟨g,0,none⟩) N c->B<=g
 st:∃X,u7 T N R X/\Bt (wx.alloc (.cells #[.bool true] 4)) B (aL T N nv vf vg wx.heap.size) X/\Env (wx.alloc (.cells #[.bool true] 4)) B T N (aL T N nv vf vg wx.heap.size).K w.heap.size sx rv nv fv gv vf vg R
theorem aej{w w2 w3:World}{T N sb g0 c0:Nat}{rv nv fv gv:Value}{vf vg:Nat->Value}{R:List Ru}(hf:cO T N R)(hr:aD w w.heap.size rv R)
 (hB2:Below (w.heap.size+2) ((w.alloc (.cells #[.int .i64 T,.int .i64 N,rv] 24)).alloc (.cells #[.slice none 0 0,.slice none 0 0,.slice none 0 0] 84)) w2)
 (hB3:Below w2.heap.size w2 w3)
 (hO:au w3 (w2.heap.size+2) (bT sb T N N N nv fv gv vf vg (List.replicate N false) (List.replicate N (List.replicate T false)) (List.replicate N (List.replicate (T+1) false))))
 (hv:vg 0= .slice (some ⟨g0,0,none⟩) (T+1) c0):
 Ready w (w2.heap.size+2) T N w3.heap.size rv nv fv gv vf vg R ((w3.setCell ⟨g0,T,none⟩ (.bool true)).alloc (.cells #[nv,fv,gv] 84)).drew:=by
 have Yv:=hf.some;have hs2:w.heap.size+2<=w2.heap.size:=by have:=hB2.size;simp at this;omega
 have hsb:=World.block_lt_of_cell? w3 _ hO.fields.1;have hst:=(hO.own .st _ rfl).lt sb rfl;have IU:=hO.Yo (by simp) (n:=0) (by omega) hv T;have hg0:=(hO.own (.g 0) _ (by simp[bT,show 0<N by omega];rfl)).lt g0 (by simp only;rw[hv];rfl);have hBw:Below w.heap.size w w2:=(((Below.refl _ _).alloc (Nat.le_refl _) _).alloc (by simp) _).trans (hB2.mono (by omega));have hB4:Below w2.heap.size w2 ((w3.setCell ⟨g0,T,none⟩ (.bool true)).alloc (.cells #[nv,fv,gv] 84)).drew:=((hB3.setCell (by simp only;omega) _).alloc (by have:=hB3.size;simp;omega) _).drew;have ay:Below (w.heap.size+2) ((w.alloc (.cells #[.int .i64 T,.int .i64 N,rv] 24)).alloc (.cells #[.slice none 0 0,.slice none 0 0,.slice none 0 0] 84)) ((w3.setCell ⟨g0,T,none⟩ (.bool true)).alloc (.cells #[nv,fv,gv] 84)).drew:=hB2.trans (hB4.mono hs2)
 have hsz:((w3.setCell ⟨g0,T,none⟩ (.bool true)).alloc (.cells #[nv,fv,gv] 84)).drew.heap.size=w3.heap.size+1:=by
  show ((w3.setCell ⟨g0,T,none⟩ (.bool true)).alloc (.cells #[nv,fv,gv] 84)).heap.size=_;simp
 have hle:w2.heap.size+2<=((w3.setCell ⟨g0,T,none⟩ (.bool true)).alloc (.cells #[nv,fv,gv] 84)).drew.heap.size:=by rw[hsz];omega
 have hO2:au ((w3.setCell ⟨g0,T,none⟩ (.bool true)).alloc (.cells #[nv,fv,gv] 84)).drew (w2.heap.size+2) _:=(IU.alloc (.cells #[nv,fv,gv] 84)).drew;obtain⟨wx,hwx⟩:∃wx,((w3.setCell ⟨g0,T,none⟩ (.bool true)).alloc (.cells #[nv,fv,gv] 84)).drew=wx:=⟨_,rfl⟩
 have xO:∀o v,(#[nv,fv,gv]:Array Value)[o]?=some v->wx.cell? ⟨w3.heap.size,o,none⟩=some v:=fun o v hv=>by
  rw[<-hwx];show ((w3.setCell ⟨g0,T,none⟩ (.bool true)).alloc (.cells #[nv,fv,gv] 84)).cell? _=_;have:=World.cell?_alloc_new (w3.setCell ⟨g0,T,none⟩ (.bool true)) #[nv,fv,gv] 84 o;simp only[World.size_setCell]at this;rw[this];exact hv
 rw[hwx]at hB4 ay hsz hle hO2⊢;have lU:=aeb hO2 hle;have geK:∀b,(aL T N nv vf vg wx.heap.size).K b->w2.heap.size+2<=b:=fun b hb=>Bt.ge lU hb;have VX:Below w.heap.size w wx:=hBw.trans (hB4.mono (by omega));refine⟨VX,hle,by omega,fun o ho=>(ay.cell (by simp)).trans ?_,fun o=>(ay.frozen (by simp)).trans (by simp[go_sem]),fun g c qF=> ?_,fun g c hgv=> ?_,tabs _ _ _,aeg hf,lU,?_⟩
 ·rcases o with _|_|_|o
  ·simp[go_sem]
  ·simp[go_sem]
  ·simp[go_sem]
  ·omega
 ·exact((hO.own .fh _ rfl).lt g (by simp only;rw[qF];rfl)).1
 ·exact((hO.own .gh _ rfl).lt g (by simp only;rw[hgv];rfl)).1
 ·have past:∀b o,b<wx.heap.size->(wx.alloc (.cells #[.bool true] 4)).cell? ⟨b,o,none⟩=wx.cell? ⟨b,o,none⟩:=fun b o hb=>World.cell?_alloc_past _ _ _ hb
  refine⟨?_,?_,?_,?_,fun hK=> ?_,fun hK=> ?_,?_,aec hO2 _,aed hO2 _⟩
  ·rw[past _ _ (by omega)];exact(ay.cell (by simp)).trans (by simp[go_sem])
  ·rw[past _ _ (by omega)];exact xO 0 nv rfl
  ·rw[past _ _ (by omega)];exact xO 1 fv rfl
  ·rw[past _ _ (by omega)];exact xO 2 gv rfl
  ·have:=geK _ hK;omega
  ·obtain⟨i,n,hd,hb⟩:=hK
   cases hx:oM i with
   |some x=>
    have hP:(aL T N nv vf vg wx.heap.size).P (tabs (List.replicate N false) (List.replicate N (List.replicate T false)) (List.replicate N (List.replicate (T+1) false))) i=some ⟨(aL T N nv vf vg wx.heap.size).V i,4,1,n,_⟩:=dP.yC hd;rw[Ox (sb:=sb) (fv:=fv) (gv:=gv) _ i x hx]at hP;have:=(hO.lt hP hb).2;omega
   |none=>
    cases i<;>simp[oM]at hx;simp only[aL,Value.ownBlock,Option.some.injEq]at hb;omega
  ·exact((hr.below VX).below ((Below.refl _ _).alloc (by omega) _)).mono (by omega)
theorem ku.setOther{w:World}{K:Nat->Prop}{N B:Nat}{fv:Value}{vs:Nat->Value}(h:ku w K N fv vs)(hB:∀g c,fv= .slice (some ⟨g,0,none⟩) N c->B<=g){a:Addr}(ha:a.block<B)(u:Value):ku (w.setCell a u) K N fv vs:=
 ⟨h.1,fun n hn=>by
   obtain⟨g,c,h1,h2,h3⟩:=h.2 n hn;have:=hB g c h1
   exact⟨g,c,h1,h2,(dH (.inl (by simp only;omega))).trans h3⟩⟩
theorem aek{w:World}{T N:Nat}{rv:Value}{R:List Ru}(hr:aD w w.heap.size rv R)(hm:aZ T N R=true):
 Calls Tryz.prog 31 #[.agg #[.int .i64 T,.int .i64 N,rv]] w fun e w'=> ∃nv fv gv vf vg,e= .returned (.tuple #[.agg #[nv,fv,gv],.int .i64 0])/\Below w.heap.size w w'/\
  ∃gb B Y,w.heap.size<=B/\u7 T N R Y/\bit Y .gr 0=false/\Bt w' B (aL T N nv vf vg gb) Y/\ku w' (aL T N nv vf vg gb).K N fv vf/\ku w' (aL T N nv vf vg gb).K N gv vg:=by
 obtain⟨hT,hN1,hN,hRl,_⟩:=kM hm;obtain⟨hfi,Bf⟩:=Oy hm;obtain⟨ra,rc,bW⟩:=hr.1;subst bW;have may:=sQ (T:=T) (N:=N) ((hr.boxed (.cells #[.int .i64 T,.int .i64 N,.slice ra R.length rc] 24)).boxed (.cells #[.slice none 0 0,.slice none 0 0,.slice none 0 0] 84));rw[hm]at may;have HR:Hid (aD w w.heap.size (.slice ra R.length rc) R):=hr;have HF:Hid (cO T N R):=hfi;have HQ:Hid (∀q,q<R.length->uZ T N (R.getD q (0,[]))/\(R.getD q (0,[])).2.length<=8):=Bf;clear hr hm hfi Bf
 go_enter Tryz.func31,Tryz.ntmps31
 go_wp2_with
  (first
   |(go_at_call 13;refine may.mono ?_;rintro e w2 ⟨rfl,hB2⟩
     have b0:w2.cell? ⟨w.heap.size,0,none⟩=some (.int .i64 T):=(hB2.cell (by simp;omega)).trans (by simp[go_sem]);have b1:w2.cell? ⟨w.heap.size,1,none⟩=some (.int .i64 N):=(hB2.cell (by simp;omega)).trans (by simp[go_sem]);have b2:w2.cell? ⟨w.heap.size,2,none⟩=some (.slice ra R.length rc):=(hB2.cell (by simp;omega)).trans (by simp[go_sem]);have hs2:w.heap.size+2<=w2.heap.size:=by have:=hB2.size;simp at this;omega
     have HB2:Hid (Below (w.heap.size+2) ((w.alloc (.cells #[.int .i64 T,.int .i64 N,.slice ra R.length rc] 24)).alloc (.cells #[.slice none 0 0,.slice none 0 0,.slice none 0 0] 84)) w2):=hB2.mono (by simp)
     clear hB2)
   |(go_at_call 50;refine(aeh hT hN).mono ?_;rintro e w3 ⟨nv,fv,gv,vf,vg,sb,rfl,hB3,hO3⟩
     obtain⟨na,nc,rfl⟩:∃a c,nv= .slice a N c:=aY (hO3.own .null _ rfl);obtain⟨fa,fc,rfl⟩:∃a c,fv= .slice a N c:=aY (hO3.own .fh _ rfl);have HB3:Hid (Below w2.heap.size w2 w3):=hB3;have HO3:Hid (au w3 (w2.heap.size+2) (bT sb T N N N (.slice na N nc) (.slice fa N fc) gv vf vg (List.replicate N false) (List.replicate N (List.replicate T false)) (List.replicate N (List.replicate (T+1) false)))):=hO3;obtain⟨gg,gc,hgv,_,ael⟩:=hO3.form (i:= .gh) rfl (by simp only;omega);simp only at hgv;subst hgv;obtain⟨g0,c0,hg0,_,aem⟩:=hO3.form (i:= .g 0) (r:=⟨vg 0,4,1,T+1,((List.replicate N (List.replicate (T+1) false)).getD 0 []).map Value.bool⟩) (by simp[bT,show 0<N by omega]) (by simp only;omega);simp only at hg0;have k0:=(hO3.own .gh _ rfl).cellAt 0 (by simp only;omega);have k1:=hO3.own (.g 0) _ (by simp[bT,show 0<N by omega];rfl);simp only[hg0]at k1;have k2:=k1.cellAt T (by omega);have k3:=k1.frozenAt T;have d0:=(hB3.cell (p:=⟨w.heap.size,0,none⟩) (by simp only;omega)).trans b0;have hs3:=hB3.size;have VY:Hid (vg 0= .slice (some ⟨g0,0,none⟩) (T+1) c0):=hg0
     have pR:Hid (w3.cell? ⟨gg,0,none⟩=some (vg 0)):=by
      show w3.cell? ⟨gg,0,none⟩=some (vg 0);rw[k0];simp[show 0<N by omega]
     have fC:Hid (∃x,w3.cell? ⟨g0,T,none⟩=some (.bool x)):=by
      show ∃x,w3.cell? ⟨g0,T,none⟩=some (.bool x);rw[k2];exact⟨false,by simp⟩
     clear hB3 hO3 k1 k0 k2))
 have j0:(0:Int)<=(T:Int):=Int.natCast_nonneg _;have j1:(T:Int)<(T:Int)+1:=by omega
 have j2:0<N:=by omega
 have hg0:=VY.out;have k0:=pR.out;obtain⟨x,k2⟩:=fC.out;have m0:(w3.alloc (.cells #[.slice na N nc,.slice fa N fc,.slice (some ⟨gg,0,none⟩) N gc] 84)).cell? ⟨gg,0,none⟩=some (vg 0):=by rw[World.cell?_alloc_past _ _ _ ael];exact k0
 have m1:(w3.alloc (.cells #[.slice na N nc,.slice fa N fc,.slice (some ⟨gg,0,none⟩) N gc] 84)).cell? ⟨w.heap.size,0,none⟩=some (.int .i64 T):=by rw[World.cell?_alloc_past _ _ _ (by omega)];exact d0
 have m2:(w3.alloc (.cells #[.slice na N nc,.slice fa N fc,.slice (some ⟨gg,0,none⟩) N gc] 84)).cell? ⟨g0,T,none⟩=some (.bool x):=by rw[World.cell?_alloc_past _ _ _ aem];exact k2
 clear b0 b1 b2 d0 k0
 go_cut [] from 11 to 22 (fun wx=>Ready w (w2.heap.size+2) T N w3.heap.size (.slice ra R.length rc) (.slice na N nc) (.slice fa N fc) (.slice (some ⟨gg,0,none⟩) N gc) vf vg R wx)
 case first=>
  refine yB 7 (by kernel_rfl) (by kernel_rfl) ?_;simp only[List.take_succ_cons,List.take_zero,List.drop_succ_cons,List.drop_zero]
  repeat still_step
  refine wpStill_nil ?_
  go_wp2_with fail
  go_meet
  case rel=>exact aej HF.out HR.out HB2.out HB3.out HO3.out VY.out
 case rest=>
  obtain⟨X,hA,lU,hE⟩:=hcut.st;have VZ:=aea lU hcut.size hE HF.out HQ.out hT hRl hA;have HC:Hid (Ready w (w2.heap.size+2) T N w3.heap.size (.slice ra R.length rc) (.slice na N nc) (.slice fa N fc) (.slice (some ⟨gg,0,none⟩) N gc) vf vg R wc):=hcut;have V3:Hid (Bt (wc.alloc (.cells #[.bool true] 4)) (w2.heap.size+2) (aL T N (.slice na N nc) vf vg wc.heap.size) X):=lU;have HE:Hid (Env (wc.alloc (.cells #[.bool true] 4)) (w2.heap.size+2) T N (aL T N (.slice na N nc) vf vg wc.heap.size).K w.heap.size w3.heap.size (.slice ra R.length rc) (.slice na N nc) (.slice fa N fc) (.slice (some ⟨gg,0,none⟩) N gc) vf vg R):=hE;have z2:wc.cell? ⟨w.heap.size,2,none⟩=some (.slice ra R.length rc):=(World.cell?_alloc_past _ _ _ (by have:=hcut.size;have:=hcut.base;omega)).symm.trans hE.g2;clear hcut lU hE hA m0 m1 m2 k2 k3 hg0
  go_wp2_with
   (go_at_call 51;refine VZ.mono ?_;rintro e w5 ⟨rfl,Y,Es,hgY,ay,bL⟩
    have n0:=bL.cell HE.out.sK HE.out.s0;have n1:=bL.cell HE.out.sK HE.out.s1;have n2:=bL.cell HE.out.sK HE.out.s2;have JO:¬(aL T N (.slice na N nc) vf vg wc.heap.size).K (w.heap.size+1):=fun hK=>by have:=Bt.ge V3.out hK;omega
    have hrl:w.heap.size+1<wc.heap.size:=by have:=HC.out.size;omega
    have r0:=bL.cell (p:=⟨w.heap.size+1,0,none⟩) JO ((World.cell?_alloc_past _ _ _ hrl).trans (HC.out.res 0 (by omega)));have r1:=bL.cell (p:=⟨w.heap.size+1,1,none⟩) JO ((World.cell?_alloc_past _ _ _ hrl).trans (HC.out.res 1 (by omega)));have r2:=bL.cell (p:=⟨w.heap.size+1,2,none⟩) JO ((World.cell?_alloc_past _ _ _ hrl).trans (HC.out.res 2 (by omega)));have hal:Below wc.heap.size wc (wc.alloc (.cells #[.bool true] 4)):=(Below.refl _ _).alloc (Nat.le_refl _) _;have rf:∀o,w5.frozen? ⟨w.heap.size+1,o,none⟩=false:=fun o=>(bL.frozen JO (by simp;omega)).trans ((hal.frozen hrl).trans (HC.out.zP o));have HX:Hid (Below w.heap.size w w5):=(HC.out.below.trans (hal.mono (by omega))).trans (bL.below (fun b hb=>by have:=Bt.ge V3.out hb;omega) (by simp;omega));have HY:Hid (u7 T N R Y/\bit Y .gr 0=false/\Bt w5 (w2.heap.size+2) (aL T N (.slice na N nc) vf vg wc.heap.size) Y/\ku w5 (aL T N (.slice na N nc) vf vg wc.heap.size).K N (.slice fa N fc) vf/\ku w5 (aL T N (.slice na N nc) vf vg wc.heap.size).K N (.slice (some ⟨gg,0,none⟩) N gc) vg):=⟨Es,hgY,ay,HE.out.hF.kept bL,HE.out.hG.kept bL⟩
    clear Es hgY ay bL VZ hal z2)
  refine bodyPost_ret (v:= .tuple #[.agg #[.slice na N nc,.slice fa N fc,.slice (some ⟨gg,0,none⟩) N gc],.int .i64 0]) (by simp[results,Tryz.results31,go_sem,r0,r1,r2]) rfl ⟨_,_,_,vf,vg,rfl,?_,wc.heap.size,w2.heap.size+2,Y,by omega,HY.out.1,HY.out.2.1,?_,?_,?_⟩
  ·exact((HX.out.setCell (by simp) _).setCell (by simp) _).setCell (by simp) _
  ·exact((au.tQ HY.out.2.2.1 (by simp;omega) _).tQ (by simp;omega) _).tQ (by simp;omega) _
  ·exact((HY.out.2.2.2.1.setOther (B:=w2.heap.size+2) HC.out.fB (by simp;omega) _).setOther HC.out.fB (by simp;omega) _).setOther HC.out.fB (by simp;omega) _
  ·exact((HY.out.2.2.2.2.setOther (B:=w2.heap.size+2) HC.out.gB (by simp;omega) _).setOther HC.out.gB (by simp;omega) _).setOther HC.out.gB (by simp;omega) _
theorem OA{X Y:List Bool}(hl:X.length=Y.length)(h:∀i,i<X.length->(X.getD i false=true↔Y.getD i false=true)):X=Y:=by
 refine List.ext_getElem hl fun i h1 h2=> ?_;have:=h i h1;simp[List.getD,h1,h2]at this;exact this
theorem V4{X Y:List (List Bool)}(hl:X.length=Y.length)(h:∀i,i<X.length->X.getD i []=Y.getD i []):X=Y:=by
 refine List.ext_getElem hl fun i h1 h2=> ?_;have:=h i h1;simpa [List.getD,h1,h2] using this
section
variable{w:World}{B T N gb:Nat}{nv fv gv:Value}{vf vg:Nat->Value}{R:List Ru}{Y:Xs}
theorem V5{c:dP Iy}{i:Iy}{n:Nat}(h:Bt w B c Y)(hd:c.dom i=some n):qQ w (c.V i) (Y i):=Yt (h.own hd)
theorem V6(h:Bt w B (aL T N nv vf vg gb) Y):qQ w nv (Y .null):=V5 (c:=aL T N nv vf vg gb) (i:= .null) (n:=N) h rfl
theorem aen(h:Bt w B (aL T N nv vf vg gb) Y)(hF:ku w (aL T N nv vf vg gb).K N fv vf):wH w fv ((List.range N).map fun n=>Y (.f n)):=by
 refine⟨by simpa using hF.1,fun i hi=> ?_⟩;simp only[List.length_map,List.length_range]at hi;obtain⟨g,c,h1,_,h3⟩:=hF.2 i hi;refine⟨g,0,c,vf i,by simpa using h1,by rw[Nat.zero_add];exact h3,?_⟩;have e:((List.range N).map fun n=>Y (.f n)).getD i []=Y (.f i):=by simp[List.getD,hi]
 rw[e];exact V5 (c:=aL T N nv vf vg gb) (i:= .f i) (n:=T) h (by simp[aL,di,hi])
theorem aeo(hf:cO T N R)(hA:u7 T N R Y)(hg:bit Y .gr 0=false):
 Y .null=dO R N/\((List.range N).map fun n=>Y (.f n))=jg R (dO R N) T N/\((List.range N).map fun n=>Y (.g n))=Gt R (dO R N) (jg R (dO R N) T N) T N:=by
 obtain⟨l1,l2,l3⟩:=ad4 hf hA.eG hA.snd (hA.held hg) hA.fin;obtain⟨n1,n2⟩:=KF hf;obtain⟨f1,f2⟩:=KG hf n2;obtain⟨g1,g2⟩:=Yu hf n2 f2;have sN:=hA.eG .null N rfl;have sF:∀n,n<N->(Y (.f n)).length=T:=fun n hn=>hA.eG (.f n) T (by simp[di,hn]);have sG:∀n,n<N->(Y (.g n)).length=T+1:=fun n hn=>hA.eG (.g n) (T+1) (by simp[di,hn]);refine⟨OA (by omega) fun i hi=> ?_,V4 (by simp[f1.1]) fun i hi=> ?_,V4 (by simp[g1.1]) fun i hi=> ?_⟩
 ·have h1:=l1 i (by omega)
  have h2:=n2 (i:Int);unfold mh at h2;simp only[Int.toNat_natCast]at h2;exact h1.trans (h2.symm.trans ⟨fun h=>h.2,fun h=>⟨Int.natCast_nonneg _,h⟩⟩)
 ·simp only[List.length_map,List.length_range]at hi
  have e:((List.range N).map fun n=>Y (.f n)).getD i []=Y (.f i):=by simp[List.getD,hi]
  rw[e];refine OA (by rw[sF i hi,f1.2 i hi]) fun t ht=> ?_;rw[sF i hi]at ht;have h1:=l2 i t hi ht;have h2:=f2 t ht (i:Int);unfold eO at h2;simp only[Int.toNat_natCast]at h2;exact h1.trans (h2.symm.trans ⟨fun h=>h.2,fun h=>⟨Int.natCast_nonneg _,h⟩⟩)
 ·simp only[List.length_map,List.length_range]at hi
  have e:((List.range N).map fun n=>Y (.g n)).getD i []=Y (.g i):=by simp[List.getD,hi]
  rw[e];refine OA (by rw[sG i hi,g1.2 i hi]) fun t ht=> ?_;rw[sG i hi]at ht;have h1:=l3 i t hi ht;have h2:=g2 t ht (i:Int);unfold eO at h2;simp only[Int.toNat_natCast]at h2;exact h1.trans (h2.symm.trans ⟨fun h=>h.2,fun h=>⟨Int.natCast_nonneg _,h⟩⟩)
end
def Cq(w:World)(T N:Nat)(rv nv fv wv:Value):fD:=⟨w.heap.size+1+1,w.heap.size,w.heap.size+1,T,N,rv,nv,fv,wv⟩
def Cr:dF:=⟨.slice none 0 0,fun _=> .slice none 0 0,.slice none 0 0,[]⟩
theorem aep(w:World)(T N:Nat)(rv nv fv wv:Value):
 aA w (((w.alloc (.map #[] 0)).alloc (.map #[] 0)).alloc (.cells #[.int .i64 T,.int .i64 N,rv,nv,fv,wv,.slice none 0 0,.map (some w.heap.size),.map (some (w.heap.size+1)),.slice none 0 0] 93)) (Cq w T N rv nv fv wv) Cr (bF T []) 0 ⟨fun _=>0,[],0⟩:=by
 have m1:=TP w Tryz.prog 135 qE;have m2:=TP (w.alloc (.map #[] 0)) Tryz.prog 137 oG;simp only[World.size_alloc]at m2;have eL:(fun _=>none)=uU (fun _=>0):=by funext x;simp[uU]
 refine⟨⟨fun i r hr=> ?_,fun i j x y hij hx hy g h1 h2=> ?_⟩,((m1.alloc _).alloc _).congr (ab2 T).symm,(m2.alloc _).congr eL,by simp only[Cq];omega,by simp only[Cq];omega,(((Below.refl _ _).alloc (Nat.le_refl _) _).alloc (by simp) _).alloc (by simp;omega) _⟩
 ·cases i with
  |ma=>
   simp only[iQ,Option.some.injEq]at hr;subst hr;have:=World.ownsRow_lit (base:=w.heap.size) (e:=93) (size:=10) ((w.alloc (.map #[] 0)).alloc (.map #[] 0)) #[.int .i64 T,.int .i64 N,rv,nv,fv,wv,.slice none 0 0,.map (some w.heap.size),.map (some (w.heap.size+1)),.slice none 0 0] 1 (by simp;omega) (by unfold maxLen;omega) rfl;simp only[World.size_alloc]at this;exact this
  |st=>simp only[iQ,Option.some.injEq]at hr;subst hr;exact World.ownsRow_nil _ _ _ _
  |op=>simp only[iQ,Option.some.injEq]at hr;subst hr;exact World.ownsRow_nil _ _ _ _
  |it k=>simp[iQ,Cr]at hr
 ·cases i<;>cases j<;>simp only[iQ,Cr,Option.some.injEq,List.length_nil,Nat.not_lt_zero,if_false,reduceCtorEq]at hx hy<;>subst hx<;>subst hy<;>first|exact hij rfl|(cases h2;done)|(cases h1;done)
theorem all_zero{T N:Nat}{R:List Ru}(K:Nat):0<(ak T N R K).2.length/\(ak T N R K).2.getD 0 bG=Cl R fun i=>i=(R.length,0):=by
 obtain⟨E,hE⟩:=Nl (T:=T) (N:=N) (R:=R) 0 K (Nat.zero_le _);have h0:(ak T N R 0).2=[Cl R fun i=>i=(R.length,0)]:=rfl;rw[hE,h0];exact⟨by simp,by simp[List.getD]⟩
theorem aer{w:World}{T N:Nat}{rv nv fv wv:Value}{R:List Ru}(hm:aZ T N R=true)(hr:aD w w.heap.size rv R)(hn:qQ w nv (dO R N))(hfi:wH w fv (jg R (dO R N) T N)):jQ w (Cq w T N rv nv fv wv) R (dO R N) (jg R (dO R N) T N):=by
 obtain⟨hT,hN1,hN,hRl,h5⟩:=kM hm;obtain⟨hf,h8⟩:=Oy hm;obtain⟨n1,n2⟩:=KF hf;obtain⟨f1,f2⟩:=KG hf n2;refine⟨hr,hn,hfi,n1,f1.1,f1.2,hT,⟨hN1,hN⟩,hRl,fun q hq=>(h8 q hq).2,fun r hr s hs=> ?_⟩;unfold aJ at hs;split at hs
 ·simp only[List.mem_singleton]at hs
  subst hs;exact⟨fun h=>(nomatch h),fun _=>⟨by simp,by simp[Cq];omega⟩⟩
 ·have hm':R.getD r (0,[])∈R:=by simp[List.getD,show r<R.length by omega]
  exact⟨fun h=>hf.term _ hm' _ hs h,fun h=>hf.name _ hm' _ hs h⟩
theorem V7{w:World}{T N:Nat}{rv:Value}{R:List Ru}(hr:aD w w.heap.size rv R)(hm:aZ T N R=true):
 Calls Tryz.prog 15 #[.agg #[.int .i64 T,.int .i64 N,rv]] w fun e w'=>
  (e= .returned (.tuple #[.agg #[.slice none 0 0,.slice none 0 0],.int .i64 1])/\Below w.heap.size w w'/\More T N R 150)\/
  ∃K cv gv,e= .returned (.tuple #[.agg #[cv,gv],.int .i64 0])/\Below w.heap.size w w'/\Whole T N R K/\K<=150/\∀w'':World,(∀b,w.heap.size<=b->b<w'.heap.size->w''.heap[b]?=w'.heap[b]?)->TabAt w'' cv gv (fU T N R K) (lY T N R K):=by
 obtain⟨ra,rc,bW⟩:=hr.1;subst bW;have hr1:=(hr.boxed (.cells #[.int .i64 T,.int .i64 N,.slice ra R.length rc] 24)).boxed (.cells #[.slice none 0 0,.slice none 0 0] 44);have sets:=aek (T:=T) (N:=N) hr1 hm;have HR1:Hid (aD ((w.alloc (.cells #[.int .i64 T,.int .i64 N,.slice ra R.length rc] 24)).alloc (.cells #[.slice none 0 0,.slice none 0 0] 44)) ((w.alloc (.cells #[.int .i64 T,.int .i64 N,.slice ra R.length rc] 24)).alloc (.cells #[.slice none 0 0,.slice none 0 0] 44)).heap.size (.slice ra R.length rc) R):=hr1;have HM:Hid (aZ T N R=true):=hm;have HB0:Hid (Below w.heap.size w ((w.alloc (.cells #[.int .i64 T,.int .i64 N,.slice ra R.length rc] 24)).alloc (.cells #[.slice none 0 0,.slice none 0 0] 44))):=((Below.refl _ _).alloc (Nat.le_refl _) _).alloc (by simp) _;clear hr hm hr1;have hmm:= @run_makeMap Tryz.prog
 go_enter Tryz.func15,Tryz.ntmps15
 go_upto_region 5 with
  (go_at_call 31;refine sets.mono ?_;rintro e w2 ⟨nv,fv,gv,vf,vg,rfl,hB2,gb,B,Y,hBB,hA,hg,lU,hF,hG⟩
   obtain⟨na,nc,vv⟩:=(V6 lU).1;obtain⟨fa,fc,qF⟩:=hF.1;obtain⟨ga,gc,hgv⟩:=hG.1;have hN':nv= .slice na N nc:=by rw[vv,hA.eG .null N rfl]
   clear vv;subst hN';subst qF;subst hgv;have hs2:w.heap.size+2<=w2.heap.size:=by have:=hB2.size;simp at this;omega
   have x0:w2.cell? ⟨w.heap.size+1,0,none⟩=some (.slice none 0 0):=(hB2.cell (by simp)).trans (by simp[go_sem]);have x1:w2.cell? ⟨w.heap.size+1,1,none⟩=some (.slice none 0 0):=(hB2.cell (by simp)).trans (by simp[go_sem]);have xf0:w2.frozen? ⟨w.heap.size+1,0,none⟩=false:=(hB2.frozen (by simp)).trans (by simp[go_sem]);have xf1:w2.frozen? ⟨w.heap.size+1,1,none⟩=false:=(hB2.frozen (by simp)).trans (by simp[go_sem]);have b0:w2.cell? ⟨w.heap.size,0,none⟩=some (.int .i64 T):=(hB2.cell (by simp;omega)).trans (by simp[go_sem]);have b1:w2.cell? ⟨w.heap.size,1,none⟩=some (.int .i64 N):=(hB2.cell (by simp;omega)).trans (by simp[go_sem]);have b2:w2.cell? ⟨w.heap.size,2,none⟩=some (.slice ra R.length rc):=(hB2.cell (by simp;omega)).trans (by simp[go_sem]);have HR2:Hid (aD w2 w2.heap.size (.slice ra R.length rc) R):=(HR1.out.below hB2).mono hB2.size;have HD1:Hid (qQ w2 (.slice na N nc) (Y .null)):=V6 lU;have HD2:Hid (wH w2 (.slice fa N fc) ((List.range N).map fun n=>Y (.f n))):=aen lU hF;have HE:Hid (Y .null=dO R N/\((List.range N).map fun n=>Y (.f n))=jg R (dO R N) T N/\((List.range N).map fun n=>Y (.g n))=Gt R (dO R N) (jg R (dO R N) T N) T N):=aeo (Oy HM.out).1 hA hg;have HB2:Hid (Below w.heap.size w w2):=HB0.out.trans (hB2.mono (by simp;omega));have hal:Below w2.heap.size w2 (w2.alloc (.cells #[.slice na N nc,.slice fa N fc,.slice ga N gc] 84)):=(Below.refl _ _).alloc (Nat.le_refl _) _;have y0:=(hal.cell (p:=⟨w.heap.size,0,none⟩) (by simp only;omega)).trans b0;have y1:=(hal.cell (p:=⟨w.heap.size,1,none⟩) (by simp only;omega)).trans b1;have y2:=(hal.cell (p:=⟨w.heap.size,2,none⟩) (by simp only;omega)).trans b2
   clear hB2 hal hBB hA hg lU hF hG sets b0 b1 b2)
 clear hmm y0 y1 y2;obtain⟨W3,hW3⟩:∃W,w2.alloc (.cells #[.slice na N nc,.slice fa N fc,.slice ga N gc] 84)=W:=⟨_,rfl⟩;have hs3:W3.heap.size=w2.heap.size+1:=by rw[<-hW3];simp
 have hB3:Below w2.heap.size w2 W3:=by rw[<-hW3];exact(Below.refl _ _).alloc (Nat.le_refl _) _
 have hst:=aep W3 T N (.slice ra R.length rc) (.slice na N nc) (.slice fa N fc) (.slice ga N gc);have E:=aer (wv:= .slice ga N gc) HM.out ((HR2.out.below hB3).mono (by omega)) (by have:=HD1.out;rw[HE.out.1]at this;exact this.same (iT hB3)) (by have:=HD2.out;rw[HE.out.2.1]at this;exact this.same (iT hB3))
 have Cs:Hid (∀wq,Below W3.heap.size W3 wq->wq.cell? ⟨w.heap.size+1,0,none⟩=some (.slice none 0 0)/\wq.cell? ⟨w.heap.size+1,1,none⟩=some (.slice none 0 0)/\wq.frozen? ⟨w.heap.size+1,0,none⟩=false/\wq.frozen? ⟨w.heap.size+1,1,none⟩=false/\Below w.heap.size w wq):=fun wq hb=>by
  have hb2:Below w2.heap.size w2 wq:=hB3.trans (hb.mono (by omega));exact⟨(hb2.cell (p:=⟨w.heap.size+1,0,none⟩) hs2).trans x0,(hb2.cell (p:=⟨w.heap.size+1,1,none⟩) hs2).trans x1,(hb2.frozen (p:=⟨w.heap.size+1,0,none⟩) hs2).trans xf0,(hb2.frozen (p:=⟨w.heap.size+1,1,none⟩) hs2).trans xf1,HB2.out.trans (hb2.mono (by omega))⟩
 have hfr:∀n,((jg R (dO R N) T N).getD n []).length<=T:=fun n=>by
  by_cases hn:n<N
  ·exact Nat.le_of_eq (E.zF n hn)
  ·have:(jg R (dO R N) T N).length=N:=E.xL
   simp[List.getD,List.getElem?_eq_none (show (jg R (dO R N) T N).length<=n by omega)]
 obtain⟨d,hd⟩:∃d,Cq W3 T N (.slice ra R.length rc) (.slice na N nc) (.slice fa N fc) (.slice ga N gc)=d:=⟨_,rfl⟩;have hT:d.T=T:=by rw[<-hd];rfl
 have hN:d.N=N:=by rw[<-hd];rfl
 have hma:d.ma=w2.heap.size+1+1+1:=by rw[<-hd];show W3.heap.size+1+1=_;rw[hs3]
 rw[hd]at hst E;rw[hW3];rw[hs3]at hst;obtain⟨W4,gD⟩:∃W,(((W3.alloc (.map #[] 0)).alloc (.map #[] 0)).alloc (.cells #[.int .i64 T,.int .i64 N,.slice ra R.length rc,.slice na N nc,.slice fa N fc,.slice ga N gc,.slice none 0 0,.map (some (w2.heap.size+1)),.map (some (w2.heap.size+1+1)),.slice none 0 0] 93))=W:=⟨_,rfl⟩;rw[gD]at hst⊢;subst hT;subst hN;have HST:Hid (aA W3 W4 d Cr (bF d.T []) 0 ⟨fun _=>0,[],0⟩):=hst;have JQ:Hid (jQ W3 d R (dO R d.N) (jg R (dO R d.N) d.T d.N)):=E;have HFR:Hid (∀n,((jg R (dO R d.N) d.T d.N).getD n []).length<=d.T):=hfr;have fs:=adq E hst rfl;rw[hma]at fs;have V8:Hid (d.ma=w2.heap.size+1+1+1):=hma;clear hW3 gD hB3 hd hst E hfr hma x0 x1 xf0 xf1 HR1 HR2 HD1 HD2 HE HB0 HB2;have V9:Hid (W3.heap.size=w2.heap.size+1):=hs3;clear hs3;by_cases hmore:More d.T d.N R 150
 ·have Wh:Calls Tryz.prog 32 #[.pointer (some ⟨w2.heap.size+1+1+1,0,none⟩)] W4 fun e w5=>e= .returned (.bool false)/\Below W3.heap.size W4 w5:=fs.mono fun e w5 h=>by
   rcases h with⟨h1,_,h2⟩|⟨_,K,v',ng,h3,h4⟩
   ·exact⟨h1,h2⟩
   ·refine absurd hmore (Jb (K:=K) ?_ (by rw[<-h4];exact h3.few))
    unfold Whole;rw[<-h3.s.len];exact h4
  clear fs
  go_wp2_with
   (go_at_call 32;refine Wh.mono ?_;rintro e w5 ⟨rfl,ay⟩
    obtain⟨x0,x1,xf0,xf1,hb5⟩:=Cs.out w5 (HST.out.since.trans ay);have bV:Hid (Below w.heap.size w w5):=hb5
    clear hb5 ay Wh)
  refine bodyPost_ret (v:= .tuple #[.agg #[.slice none 0 0,.slice none 0 0],.int .i64 1]) (by simp[results,Tryz.results15,go_sem,x0,x1]) rfl (.inl ⟨rfl,(bV.out.setCell (by simp) _).setCell (by simp) _,hmore⟩)
 ·have fsF:Calls Tryz.prog 32 #[.pointer (some ⟨w2.heap.size+1+1+1,0,none⟩)] W4 fun e w5=>e= .returned (.bool true)/\∃K v' ng,F1 W3 W4 d Cr ⟨fun _=>0,[],0⟩ R K v' ng w5/\v'.OL.length=K:=fs.mono fun e w5 h=>by
   rcases h with⟨_,h1,_⟩|h
   ·exact absurd h1 hmore
   ·exact h
  clear fs
  go_wp2_with
   (first
    |(go_at_call 32;refine fsF.mono ?_;rintro e w5 ⟨rfl,K,v',ng,hF1,hK⟩
      have hz:=all_zero (T:=d.T) (N:=d.N) (R:=R) K;obtain⟨OB,hW⟩:=adU hF1.s hK (⟨by show 0<v'.OL.length;rw[hF1.s.len];exact hz.1,((hF1.s.iZ 0 (by rw[hF1.s.len];exact hz.1)).mem _).2 (by rw[hz.2];exact Cl.base rfl)⟩) JQ.out.sym;have pQ:ng<=10000000:=by have:=hF1.ng;have:=hF1.few;have:=hF1.le;omega
      have fl:=acY JQ.out hF1.m OB hF1.few pQ;rw[V8.out]at fl;have FL:Hid (F1 W3 W4 d Cr ⟨fun _=>0,[],0⟩ R K v' ng w5/\v'.OL.length=K):=⟨hF1,hK⟩;have JR:Hid (kG d.T d.N R v'.OL (ak d.T d.N R K).1 (ak d.T d.N R K).2/\Whole d.T d.N R K):=⟨OB,hW⟩
      clear hF1 hK hz OB hW)
    |(go_at_call 33;refine fl.mono ?_;rintro e w6 ⟨rfl,bI,st',kI,hL6,qG⟩
      have tab:=adO (v:={ v' with ov:=bI }) JQ.out kI FL.out.1.s FL.out.1.few pQ hL6.c hL6.lk (fun k hk n hn=>adR JR.out.1 hk hn) (fun k hk n hn=>adS JR.out.1 hk hn);rw[V8.out]at tab;have HL6:Hid (Fj d.T d.N R v'.OL (ak d.T d.N R K).1 (ak d.T d.N R K).2 (dO R d.N) (jg R (dO R d.N) d.T d.N) st'):=hL6;have eT:Hid (aA W3 w6 d { v' with ov:=bI } (bF d.T (ak d.T d.N R K).1) ng st'):=kI
      clear kI hL6 qG fl)
    |(go_at_call 34;refine tab.mono ?_;rintro e w7 ⟨cv,gv,rfl,uX,bD⟩
      obtain⟨x0,x1,xf0,xf1,dK⟩:=Cs.out w7 (eT.out.since.trans (bD.mono eT.out.le));have nM:Hid (Below w.heap.size w w7):=dK
      have HT7:Hid (∀w'':World,(∀b,w6.heap.size<=b->b<w7.heap.size->w''.heap[b]?=w7.heap[b]?)->TabAt w'' cv gv (fU d.T d.N R K) (lY d.T d.N R K)):=fun w'' hw=>by
       have h9:=uX w'' hw;obtain⟨e1,e2⟩:=adT JQ.out.hN.1 JR.out.1 FL.out.2 HFR.out HL6.out;rw[<-e1,<-e2];exact h9
      obtain⟨ca,cc,hcv⟩:=(uX w7 (fun _ _ _=>rfl)).cells.1;obtain⟨Wi,Wj,hgv⟩:=(uX w7 (fun _ _ _=>rfl)).goto.1;simp only[List.length_map,List.length_range]at hcv hgv;subst hcv;subst hgv
      clear dK bD uX))
  refine bodyPost_ret (v:= .tuple #[.agg #[.slice ca v'.OL.length cc,.slice Wi v'.OL.length Wj],.int .i64 0]) (by simp[results,Tryz.results15,go_sem,x0,x1]) rfl (.inr ⟨K,.slice ca v'.OL.length cc,.slice Wi v'.OL.length Wj,rfl,(nM.out.setCell (by simp) _).setCell (by simp) _,JR.out.2,by rw[<-FL.out.2];exact FL.out.1.few,fun w'' hw=>HT7.out _ fun b hb hlt=> ?_⟩);have h6:=eT.out.le;rw[V9.out]at h6;rw[hw b (by omega) (by simpa using hlt),Below.heap_setCell _ _ _ _ (by simp only;omega),Below.heap_setCell _ _ _ _ (by simp only;omega)]
theorem aes{w:World}{T N:Nat}{rv:Value}{R:List Ru}(hr:aD w w.heap.size rv R)(hm:aZ T N R=true):
 Calls Tryz.prog 15 #[.agg #[.int .i64 T,.int .i64 N,rv]] w fun e w'=>
  (e= .returned (.tuple #[.agg #[.slice none 0 0,.slice none 0 0],.int .i64 1])/\Below w.heap.size w w'/\More T N R 150)\/
  ∃K cv gv,e= .returned (.tuple #[.agg #[cv,gv],.int .i64 0])/\Below w.heap.size w w'/\Whole T N R K/\K<=150/\TabAt w' cv gv (fU T N R K) (lY T N R K):=by
 refine(V7 hr hm).mono fun e w' h=> ?_;rcases h with h|⟨K,cv,gv,h1,h2,h3,h4,h5⟩
 ·exact .inl h
 ·exact .inr ⟨K,cv,gv,h1,h2,h3,h4,h5 w' fun _ _ _=>rfl⟩
end Go.Proofs.YtpkmpkphfflpjaaGreat
