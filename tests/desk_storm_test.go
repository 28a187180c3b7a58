package tests

import (
	"slices"
	"strconv"
	"testing"

	"loop.example/g00567/impl"
)

// An author writes scripts for the cluster of a storm, and checks every act and every script.
type author struct {
	*storm
	start  impl.Cluster // where the script began
	script []impl.Act
	useful []int
	voted  map[[2]int]int // the vote of each honest replica in each view
}

func newAuthor(s *storm) *author {
	return &author{storm: s, start: s.c, voted: map[[2]int]int{}}
}

// act adds an act to the script; one that would be too long is ended before.
func (s *author) act(a impl.Act) {
	s.t.Helper()
	if len(s.script) == 200 {
		s.end()
	}
	lost := s.w.lost
	wantOk := s.w.act(a)
	got, ok := impl.Do(s.c, a)
	if ok != wantOk || !sameCluster(got, s.w.cluster()) {
		s.t.Fatalf("%v of %v:\ngot  %v %v,\nwant %v %v", a, s.c, got, ok, s.w.cluster(), wantOk)
	}
	if a.Kind != impl.AcFlush {
		if wrong := wrongLinks(s.c, got, deedOf(a), ok); wrong != "" {
			s.t.Fatalf("%v of %v:\n%v: %s", a, s.c, got, wrong)
		}
	}
	wantAgreement(s.t, got)
	s.wantOneVote(got)
	if wrong := twoFaced(got); wrong != "" {
		s.t.Fatalf("%v of %v:\n%v: %s", a, s.c, got, wrong)
	}
	s.see(actWords[a.Kind]+" "+strconv.FormatBool(ok), true)
	s.see("lost", s.w.lost > lost)
	if ok {
		s.useful = append(s.useful, len(s.script))
	}
	s.script = append(s.script, a)
	s.c = got
}

func (s *author) acts(l ...impl.Act) {
	s.t.Helper()
	for _, a := range l {
		s.act(a)
	}
}

// end plays the script as a whole and in two parts, and begins another.
func (s *author) end() {
	s.t.Helper()
	wantScript(s.t, s.start, s.script, s.c, s.useful)
	at := s.next(len(s.script) + 1)
	half, n, ok := impl.Run(s.start, s.script[:at])
	rest, m, okRest := impl.Run(half, s.script[at:])
	if !ok || !okRest || n+m != len(s.useful) || !sameCluster(rest, s.c) {
		s.t.Fatalf("%v with %v divided at %v:\n%v %v %v", s.start, s.script, at, rest, n, m)
	}
	wantAgreement(s.t, half)
	lies := 0
	for _, a := range s.script {
		if a.Kind == impl.AcLie {
			lies++
		}
	}
	if got := impl.Lies(s.script); got != lies {
		s.t.Fatal(s.script, got)
	}
	s.see("script", true)
	s.see("full script", len(s.script) == 200)
	s.start, s.script, s.useful = s.c, nil, nil
}

// wantOneVote checks that nobody honest ever has another vote in a view than before, or sends another.
func (s *author) wantOneVote(c impl.Cluster) {
	s.t.Helper()
	want := func(id int, v impl.Vote) {
		at := [2]int{id, v.View}
		if old, ok := s.voted[at]; ok && old != v.Val {
			s.t.Fatalf("%v: %d voted for %d and %d in view %d", c, id, old, v.Val, v.View)
		}
		s.voted[at] = v.Val
	}
	for id, r := range c.Reps {
		if c.Bad[id] {
			continue
		}
		for _, v := range r.Voted {
			want(id, v)
		}
		for to := range c.N {
			for _, m := range onLink(c, id, to) {
				if m.Kind == impl.MsVote {
					want(id, impl.Vote{View: m.View, Val: m.Val})
				}
			}
		}
	}
}

// twoFaced tells where an honest replica has heard from another one what that has not recorded as its own, or nothing.
func twoFaced(c impl.Cluster) string {
	for _, to := range impl.Honest(c) {
		for _, from := range impl.Honest(c) {
			if !heardTruly(c.Reps[to], c.Reps[from]) {
				return strconv.Itoa(to) + " has heard something else from " + strconv.Itoa(from)
			}
		}
	}
	return ""
}

func heardTruly(to, from impl.Rep) bool {
	for i, x := range tallies(&to) {
		for _, b := range x.L {
			if b.From == from.Id && !slices.Contains(tallies(&from)[i].L, b) {
				return false
			}
		}
	}
	for _, h := range to.Heard {
		for _, r := range h.L {
			if r.From == from.Id && !slices.ContainsFunc(reportsFor(from, h.View), func(own impl.Report) bool { return sameReport(own, r) }) {
				return false
			}
		}
	}
	return true
}

// something is any act. The faulty lie more often than not, and a replica may run out of time at once.
func (s *author) something() {
	s.t.Helper()
	from, to := s.somewhere()
	switch k := s.next(200); {
	case k < 120:
		s.act(deliver(from, to))
	case k < 132:
		s.act(linkAct(impl.AcLose+s.next(2), from, to))
	case k < 142:
		s.act(linkAct(impl.AcLater, from, to))
	case k < 150:
		s.act(tick(from))
	case k < 153:
		s.acts(slices.Repeat([]impl.Act{tick(from)}, s.w.reps[from].Left)...)
	case k < 154:
		s.act(flush)
	case len(s.liars) > 0:
		liar := s.liars[s.next(len(s.liars))]
		s.lieTo(liar, (liar+1+s.next(s.w.n-1))%s.w.n)
	}
}

func (s *author) lieTo(from, to int) {
	s.t.Helper()
	if s.next(20) == 0 {
		s.act(lieOf(from, to, []byte{byte(s.next(6)), byte(s.next(11)), byte(s.next(70)), 0, byte(s.next(2)), byte(s.next(2))}))
		return
	}
	s.act(lie(from, to, s.falsehood(from, to)))
}

// growingSets are sets of as many faulty replicas as there may be, from none on, with other ones for each i.
func growingSets(n, i int) [][]int {
	first, second := i%n, (i%n+1+i/n%(n-1))%n
	return [][]int{nil, {first}, {first, second}}[:weakOf(n)]
}

// Whatever scripts deliver, lose, duplicate, reorder or lie, and whoever ticks: promises 7, 8 and 11 after every act.
func TestStormsOfScripts(t *testing.T) {
	t.Parallel()
	next, seen := recurrence(), map[string]int{}
	for i := range 40 {
		for _, n := range []int{4, 7} {
			for _, faulty := range growingSets(n, i) {
				s := newAuthor(newStorm(t, next, seen, n, faulty...))
				for k := range 60 * n {
					s.something()
					if k%30 == 29 {
						s.look()
					}
				}
				s.end()
				s.wantCounts()
			}
		}
	}
	t.Log(seen)
	for _, word := range actWords {
		wantSeen(t, seen, 20, word+" true", word+" false")
	}
	wantSeen(t, seen, 100, "script", "full script")
	wantSeen(t, seen, 20, "decided partly", "decided 10", "decided 11", "two values of a view", "ready in view 0", "ready in view 1", "votes after a quorum")
}

// At first the links are full of what honest replicas say, so that much of what they send is lost.
func TestScriptsWithFullLinks(t *testing.T) {
	t.Parallel()
	seen := map[string]int{}
	for _, faulty := range [][]int{nil, {0}, {2}} {
		s := newAuthor(newStorm(t, recurrence(), seen, 4, faulty...))
		for _, id := range impl.Honest(s.c) {
			s.acts(tick(id), tick(id), tick(id))
		}
		for _, at := range linksOf(4) {
			for len(onLink(s.c, at[0], at[1])) > 0 && len(onLink(s.c, at[0], at[1])) < 80 {
				s.act(linkAct(impl.AcTwice, at[0], at[1]))
			}
		}
		for k := range 400 {
			s.calmly(10)
			if k%5 == 0 && len(faulty) > 0 {
				s.lieTo(faulty[0], (faulty[0]+1+k/5%3)%4)
			}
		}
		s.end()
		s.wantCounts()
	}
	t.Log(seen)
	wantSeen(t, seen, 20, "lost", "deliver true", "tick true", "lie true")
	wantSeen(t, seen, 1, "twice false", "later false")
}

// One replica alone has decided 5; whatever the faulty say for 6 in a script, that remains.
func TestScriptsAgainstADecision(t *testing.T) {
	t.Parallel()
	for _, x := range []struct {
		n                   int
		liars, fives, sixes []int
	}{
		{4, []int{0}, []int{1, 2}, []int{3}},
		{7, []int{0, 6}, []int{1, 2, 3}, []int{4, 5}},
	} {
		for i, m := range falseReports(x.n) {
			s := newAuthor(parted(t, x.n, x.liars, x.fives, x.sixes))
			for _, to := range impl.Honest(s.c) {
				s.act(lie(0, to, proposing(x.n, 6)))
				for _, from := range x.liars {
					s.acts(lie(from, to, m), lie(from, to, voting(x.n, 6)), lie(from, to, readying(x.n, 6)), lie(from, to, deciding(6)))
				}
			}
			s.vals = []int{5, 6, 6}
			if i%2 == 1 {
				for range 100 {
					s.something()
				}
			}
			s.act(flush)
			s.end()
			got, _ := wantFair(t, s.c, 60)
			wantAgreement(t, got)
			if val, ok := impl.Verdict(got); !ok || val != 5 {
				t.Error(x, i, val, got)
			}
		}
	}
}

// The same from there on with anything else that may happen.
func TestStormsOfScriptsAgainstADecision(t *testing.T) {
	t.Parallel()
	next, seen := recurrence(), map[string]int{}
	for range 25 {
		for _, n := range []int{4, 7} {
			liars, fives, sixes := []int{0}, []int{1, 2}, []int{3}
			if n == 7 {
				liars, fives, sixes = []int{0, 6}, []int{1, 2, 3}, []int{4, 5}
			}
			s := newAuthor(parted(t, n, liars, fives, sixes))
			s.next, s.seen, s.vals = next, seen, []int{6, 6, 5}
			for range 60 * n {
				s.something()
			}
			s.look()
			s.end()
			for _, id := range impl.Honest(s.c) {
				if done := s.c.Reps[id].Done; done != 0 && done != 5 {
					t.Fatal(s.c)
				}
			}
		}
	}
	t.Log(seen)
	wantSeen(t, seen, 5, "decided 5", "votes after a quorum", "decided partly")
}

// calmly is an act that loses nothing and does not lie. With more haste there are more ticks.
func (s *author) calmly(haste int) {
	s.t.Helper()
	from, to := s.somewhere()
	switch k := s.next(20 + haste); {
	case k < 14:
		s.act(deliver(from, to))
	case k < 19:
		s.act(linkAct(impl.AcLater, from, to))
	case k < 20:
		s.act(linkAct(impl.AcTwice, from, to))
	default:
		s.act(tick(from))
	}
}

// gather brings the undecided into the latest view, and delivers everything.
func (s *author) gather() {
	s.t.Helper()
	to := impl.Latest(s.c)
	for _, id := range impl.Honest(s.c) {
		for r := s.c.Reps[id]; r.View < to && r.Done == 0; r = s.c.Reps[id] {
			s.act(tick(id))
		}
	}
	s.act(flush)
}

// If the faulty are silent and nothing is lost, the honest decide from any one view up to 4, however a script brought them there.
func TestFairAfterScripts(t *testing.T) {
	t.Parallel()
	next, seen := recurrence(), map[string]int{}
	for i := range 60 {
		for _, n := range []int{4, 7} {
			for _, faulty := range growingSets(n, i) {
				s := newAuthor(newStorm(t, next, seen, n, faulty...))
				haste := next(120)
				for range 8 + next(14*n) {
					s.calmly(haste)
				}
				s.gather()
				s.end()
				view, ok := inOneView(s.c)
				s.see("apart", !ok)
				if seen["lost"] > 0 || !impl.Quiet(s.c) {
					t.Fatal(s.c, "something was lost or is left")
				}
				if !ok || view > 4 {
					continue
				}
				s.see("together in view "+strconv.Itoa(view), true)
				s.see("together and undecided", impl.Decided(s.c) == 0)
				got, count := wantFair(t, s.c, 60)
				if count == -1 || impl.Decided(got) != n-len(faulty) {
					t.Fatal(s.c, view, count, got)
				}
				wantAgreement(t, got)
			}
		}
	}
	t.Log(seen)
	wantSeen(t, seen, 5, "together in view 0", "together in view 1", "together in view 2", "together in view 3", "together in view 4", "together and undecided")
}

// Fair is a script of flushes and ticks, as long as it is short enough for one.
func TestFairAsAScript(t *testing.T) {
	for _, n := range []int{4, 7} {
		for _, faulty := range faultySets(n) {
			want, count := wantFair(t, started(t, n, faulty...), 60)
			l := []impl.Act{flush}
			for range count {
				for id := range n {
					l = append(l, tick(id))
				}
				l = append(l, flush)
			}
			got, _, ok := impl.Run(started(t, n, faulty...), l)
			wantCluster(t, got, ok, want, true)
		}
	}
}

// A faulty leader proposes 5 to two replicas and 6 to the third, and votes for 5 with the two: one of them decides it, alone.
// In the next view its honest leader must come back to 5, whatever the faulty one reports.
func TestScriptOfADividedView(t *testing.T) {
	c := started(t, 4, 0)
	l := []impl.Act{
		lie(0, 1, proposing(0, 5)), lie(0, 2, proposing(0, 5)), lie(0, 3, proposing(0, 6)),
		deliver(0, 1), deliver(0, 2), deliver(0, 3), // each votes
		linkAct(impl.AcLose, 1, 3), linkAct(impl.AcLose, 2, 3), linkAct(impl.AcLose, 3, 1), linkAct(impl.AcLose, 3, 2),
		lie(0, 1, voting(0, 5)), lie(0, 2, voting(0, 5)),
		deliver(0, 1), deliver(0, 2), deliver(1, 2), deliver(2, 1), // 1 and 2 are locked on 5
		lie(0, 1, readying(0, 5)), deliver(0, 1), deliver(2, 1), // 1 decides
		linkAct(impl.AcLose, 1, 2), linkAct(impl.AcLose, 1, 2), linkAct(impl.AcLose, 1, 3), linkAct(impl.AcLose, 1, 3), linkAct(impl.AcLose, 2, 3),
	}
	c, n, ok := impl.Run(c, l)
	if !ok || n != len(l) {
		t.Fatal(n, len(l), impl.Useful(c, l))
	}
	want := "liar 0\nreplica 1 view 0 bound 0:5 decided 5\nreplica 2 view 0 bound 0:5\nreplica 3 view 0\nlink 1 0 3\nlink 2 0 2\nlink 3 0 1\n"
	if got := string(impl.ClusterText(c)); got != want {
		t.Fatalf("got %q, want %q", got, want)
	}
	six := lie(0, 1, report(1, lockOn(0, 6), votes(0, 6)...))
	l = []impl.Act{
		tick(2), tick(2), tick(2), tick(3), tick(3), tick(3), // both report to 1, the leader of view 1
		six, lie(0, 2, deciding(6)), lie(0, 3, voting(1, 6)), lie(0, 3, readying(1, 6)), flush,
	}
	wantUseful := everybody(len(l))
	after, useful := oneByOne(c, l)
	if !slices.Equal(useful, wantUseful) {
		t.Fatal(useful)
	}
	wantScript(t, c, l, after, wantUseful)
	if got := string(impl.ClusterText(after)); got != "liar 0\nreplica 1 view 1 bound 1:5 decided 5\nreplica 2 view 1 bound 1:5 decided 5\nreplica 3 view 1 bound 1:5 decided 5\n" {
		t.Fatalf("%q", got)
	}
}
