package tests

import (
	"slices"
	"strconv"
	"testing"

	"loop.example/g00567/impl"
)

// unanimous tells where the honest replicas do not do what promises 7 and 8 say of them, or nothing.
func unanimous(c impl.Cluster) string {
	decided := 0
	for id, r := range c.Reps {
		if c.Bad[id] || r.Done == 0 {
			continue
		}
		if decided != 0 && r.Done != decided {
			return "different decisions"
		}
		decided = r.Done
	}
	for id, r := range c.Reps {
		if c.Bad[id] {
			continue
		}
		for _, q := range readyQuorums(r) {
			if r.Done != q.Val {
				return strconv.Itoa(id) + " decided otherwise than by its ready messages"
			}
			if wrong := forsaken(c, q); wrong != "" {
				return wrong
			}
		}
		if wrong := doubleVote(c, id); wrong != "" {
			return wrong
		}
	}
	return ""
}

// readyQuorums returns the views and values of which r has recorded a strong quorum of ready messages.
func readyQuorums(r impl.Rep) []impl.Vote {
	var l []impl.Vote
	for _, b := range r.Readies.L {
		q := impl.Vote{View: b.View, Val: b.Val}
		if countIn(r.Readies, b.View, b.Val) >= strongOf(r.N) && !slices.Contains(l, q) {
			l = append(l, q)
		}
	}
	return l
}

// forsaken tells of an honest replica that has a vote or a lock against a quorum of ready messages.
func forsaken(c impl.Cluster, q impl.Vote) string {
	for id, r := range c.Reps {
		if c.Bad[id] {
			continue
		}
		if r.Lock != noLock && r.Lock.View >= q.View && r.Lock.Val != q.Val {
			return strconv.Itoa(id) + " is locked on another value"
		}
		for _, v := range r.Voted {
			if v.View > q.View && v.Val != q.Val {
				return strconv.Itoa(id) + " voted for another value"
			}
		}
	}
	return ""
}

// doubleVote tells of a vote of an honest replica on its way that is not the one that it recorded.
func doubleVote(c impl.Cluster, from int) string {
	for to := range c.N {
		for _, m := range onLink(c, from, to) {
			if m.Kind != impl.MsVote {
				continue
			}
			val, ok := impl.VotedIn(c.Reps[from], m.View)
			if told, recorded := impl.Told(c.Reps[from].Votes, m.View, from); !ok || !recorded || val != m.Val || told != m.Val {
				return strconv.Itoa(from) + " sent " + strconv.Itoa(to) + " a vote that it did not record"
			}
		}
	}
	return ""
}

// wrongLinks tells where an event did not change the links as promise 11 says, or nothing.
func wrongLinks(before, after impl.Cluster, d deed, ok bool) string {
	if !ok {
		if !sameCluster(before, after) {
			return "changed without effect"
		}
		return ""
	}
	sender := map[string]int{"deliver": d.to, "tick": d.from}
	var added []impl.Msg
	for _, at := range linksOf(before.N) {
		old, now := onLink(before, at[0], at[1]), onLink(after, at[0], at[1])
		if d.what != "tick" && at == [2]int{d.from, d.to} {
			if wrong := wrongLink(old, now, d); wrong != "" {
				return wrong
			}
			continue
		}
		if len(now) < len(old) || !sameMsgs(now[:len(old)], old) {
			return "another link lost messages"
		}
		from, sends := sender[d.what]
		if len(now) > len(old) && (!sends || from != at[0] || before.Bad[from]) {
			return "another link gained messages"
		}
		if l := now[len(old):]; len(l) > len(added) {
			added = l
		}
	}
	return wrongShares(before, after, d, added)
}

func wrongLink(old, now []impl.Msg, d deed) string {
	var want []impl.Msg
	switch d.what {
	case "deliver", "lose":
		want = old[1:]
	case "twice":
		want = slices.Concat(old, old[:1])
	case "later":
		want = slices.Concat(old[1:], old[:1])
	case "lie":
		if len(now) != len(old)+1 || !slices.Equal(bytesOf(now[len(old)]), d.said) {
			return "another lie than was told"
		}
		want = slices.Concat(old, now[len(old):])
	}
	if !sameMsgs(now, want) {
		return "the link is not as it should be"
	}
	return ""
}

// wrongShares tells whether all links of the replica that sends got the same, as far as they had room.
func wrongShares(before, after impl.Cluster, d deed, added []impl.Msg) string {
	from := map[string]int{"deliver": d.to, "tick": d.from}[d.what]
	for to := range before.N {
		if to == from || len(added) == 0 {
			continue
		}
		old, now := onLink(before, from, to), onLink(after, from, to)
		if !sameMsgs(now[len(old):], added[:min(len(added), 80-len(old))]) {
			return "not all were sent the same"
		}
	}
	return ""
}

// A storm is a cluster in which anything may happen.
type storm struct {
	t     *testing.T
	next  func(int) int
	c     impl.Cluster
	w     *world
	liars []int
	vals  []int // what the liars spread, the first to the even and the second to the odd replicas
	apart int   // a replica with which little is exchanged, if it is one
	seen  map[string]int
}

func newStorm(t *testing.T, next func(int) int, seen map[string]int, n int, faulty ...int) *storm {
	t.Helper()
	c := started(t, n, faulty...)
	leader := 10 + next(3)
	vals := []int{leader, leader + 1, 60}
	return &storm{t: t, next: next, c: c, w: worldOf(c), liars: faulty, vals: vals, apart: next(n + 2), seen: seen}
}

// step does a deed, and checks what promises 7, 8 and 11 say of it.
func (s *storm) step(d deed) {
	s.t.Helper()
	lost := s.w.lost
	wantOk := s.w.do(d)
	got, ok := d.do(s.c)
	if ok != wantOk || !sameCluster(got, s.w.cluster()) {
		s.t.Fatalf("%v of %v:\ngot  %v %v,\nwant %v %v", d, s.c, got, ok, s.w.cluster(), wantOk)
	}
	if wrong := wrongLinks(s.c, got, d, ok); wrong != "" {
		s.t.Fatalf("%v of %v:\n%v: %s", d, s.c, got, wrong)
	}
	if wrong := unanimous(got); wrong != "" || !impl.Agreed(got) || !impl.ClusterOk(got) {
		s.t.Fatalf("%v of %v:\n%v: %s", d, s.c, got, wrong)
	}
	s.see(d.what+" "+strconv.FormatBool(ok), true)
	s.see("lost", s.w.lost > lost)
	s.c = got
}

func (s *storm) see(what string, yes bool) {
	if yes {
		s.seen[what]++
	}
}

// wantCounts checks the functions that count against the world.
func (s *storm) wantCounts() {
	s.t.Helper()
	waiting, decided, latest := 0, 0, -1
	var honest []int
	for id, r := range s.w.reps {
		split := make([]int, s.w.n)
		for to := range s.w.n {
			split[to] = len(s.w.way[[2]int{id, to}])
			waiting += split[to]
		}
		if got := impl.Split(s.c, id); !slices.Equal(got, split) {
			s.t.Fatal(s.c, "Split", id, got)
		}
		if s.w.bad[id] {
			continue
		}
		honest = append(honest, id)
		latest = max(latest, r.View)
		if r.Done != 0 {
			decided++
		}
	}
	if impl.Waiting(s.c) != waiting || impl.Quiet(s.c) != (waiting == 0) || impl.Decided(s.c) != decided || impl.Latest(s.c) != latest || !slices.Equal(impl.Honest(s.c), honest) {
		s.t.Fatal(s.c, impl.Waiting(s.c), impl.Quiet(s.c), impl.Decided(s.c), impl.Latest(s.c), impl.Honest(s.c))
	}
}

// somewhere is a link, most often one with messages and not of the replica apart.
func (s *storm) somewhere() (int, int) {
	from, to := 0, 1
	for range 12 {
		from = s.next(s.w.n)
		to = (from + 1 + s.next(s.w.n-1)) % s.w.n
		if len(s.w.way[[2]int{from, to}]) > 0 && from != s.apart && to != s.apart {
			break
		}
	}
	return from, to
}

func (s *storm) anything() {
	s.t.Helper()
	from, to := s.somewhere()
	switch k := s.next(100); {
	case k < 62:
		s.step(deed{"deliver", from, to, nil})
	case k < 66:
		s.step(deed{"lose", from, to, nil})
	case k < 70:
		s.step(deed{"twice", from, to, nil})
	case k < 76:
		s.step(deed{"later", from, to, nil})
	case k < 80:
		s.step(deed{"tick", from, 0, nil})
	case k < 82:
		for range s.w.reps[from].Left { // up to the next view
			s.step(deed{"tick", from, 0, nil})
		}
	default:
		s.lie()
	}
}

func (s *storm) lie() {
	s.t.Helper()
	if len(s.liars) == 0 {
		return
	}
	from := s.liars[s.next(len(s.liars))]
	to := (from + 1 + s.next(s.w.n-1)) % s.w.n
	if s.next(20) == 0 {
		s.step(deed{"lie", from, to, []byte{byte(s.next(6)), byte(s.next(11)), byte(s.next(70)), 0, byte(s.next(2)), byte(s.next(2))}})
		return
	}
	m := s.falsehood(from, to)
	s.see("lie of "+strconv.Itoa(m.Kind), true)
	s.step(deed{"lie", from, to, bytesOf(m)})
}

// falsehood is what may lead to into deciding otherwise than its neighbours.
func (s *storm) falsehood(from, to int) impl.Msg {
	val := s.vals[to%2]
	if s.next(4) == 0 {
		val = s.vals[s.next(len(s.vals))]
	}
	view := min(9, s.w.reps[to].View+s.next(3)/2)
	switch k := s.next(12); {
	case k < 3:
		for led := view; led <= 9; led++ {
			if led%s.w.n == from {
				return proposing(led, val)
			}
		}
		return proposing(view, val)
	case k < 6:
		return voting(view, val)
	case k < 8:
		return readying(view, val)
	case k < 9:
		return deciding(val)
	}
	return s.falseReport(max(view, 1), val)
}

// falseReport speaks for val: with votes for it, and without a lock or with one on it.
func (s *storm) falseReport(view, val int) impl.Msg {
	m := reporting(view)
	if s.next(3) == 0 {
		m.Lock = lockOn(s.next(view), val)
	}
	for at := range view {
		if s.next(4) != 0 {
			m.Votes = append(m.Votes, impl.Vote{View: at, Val: val})
		}
	}
	return m
}

// look notes what the storm has come to.
func (s *storm) look() {
	decided, undecided, late := 0, 0, 0
	vals := map[impl.Vote]bool{}
	views := map[int]bool{}
	for id, r := range s.c.Reps {
		if s.c.Bad[id] {
			continue
		}
		if r.Done != 0 {
			decided++
			s.see("decided "+strconv.Itoa(r.Done), true)
		} else {
			undecided++
		}
		for _, v := range r.Voted {
			vals[v] = true
		}
		for _, q := range readyQuorums(r) {
			s.see("ready in view "+strconv.Itoa(q.View), true)
			for _, other := range s.c.Reps {
				if !s.c.Bad[other.Id] && len(other.Voted) > 0 && other.Voted[len(other.Voted)-1].View > q.View {
					late++
				}
			}
		}
	}
	for v := range vals {
		s.see("two values of a view", views[v.View])
		views[v.View] = true
	}
	s.see("decided", decided > 0)
	s.see("decided partly", decided > 0 && undecided > 0)
	s.see("votes after a quorum", late > 0)
}

// wantSeen checks that the storms came to what they were made for.
func wantSeen(t *testing.T, seen map[string]int, least int, all ...string) {
	t.Helper()
	for _, what := range all {
		if seen[what] < least {
			t.Error(what, "was seen", seen[what], "times")
		}
	}
}

func TestStorms(t *testing.T) {
	next, seen := recurrence(), map[string]int{}
	for i := range 60 {
		for _, n := range []int{4, 7} {
			for count := 0; count < weakOf(n); count++ {
				faulty := []int{i % n, (i%n + 1 + i/n%(n-1)) % n}[:count]
				s := newStorm(t, next, seen, n, faulty...)
				for k := range 60 * n {
					s.anything()
					if k%30 == 29 {
						s.look()
					}
				}
				s.wantCounts()
			}
		}
	}
	t.Log(seen)
	wantSeen(t, seen, 100, "deliver true", "deliver false", "lose true", "lose false", "twice true", "twice false", "later true", "later false", "tick true", "tick false", "lie true", "lie false")
	wantSeen(t, seen, 100, "lie of 0", "lie of 1", "lie of 2", "lie of 3", "lie of 4")
	wantSeen(t, seen, 30, "decided partly", "decided 10", "decided 11", "two values of a view", "ready in view 0", "ready in view 1", "votes after a quorum")
}

// At first every link of an honest replica is full, so that much of what they send is lost.
func TestStormsWithFullLinks(t *testing.T) {
	next, seen := recurrence(), map[string]int{}
	for _, faulty := range [][]int{nil, {0}, {2}} {
		s := newStorm(t, next, seen, 4, faulty...)
		for _, at := range linksOf(4) {
			if s.c.Bad[at[0]] {
				continue
			}
			s.ticksInto(1, at[0])
			for len(onLink(s.c, at[0], at[1])) < 80 {
				s.step(deed{"twice", at[0], at[1], nil})
			}
		}
		for range 800 {
			s.anything()
		}
		s.wantCounts()
	}
	t.Log(seen)
	wantSeen(t, seen, 20, "lost", "deliver true", "tick true", "lie true")
	wantSeen(t, seen, 1, "twice false", "later false", "lie false")
}

// A storm is also the stage of a scenario, as every step of it is checked.
func scene(t *testing.T, n int, faulty ...int) *storm {
	t.Helper()
	return newStorm(t, recurrence(), map[string]int{}, n, faulty...)
}

func (s *storm) lies(from, to int, l ...impl.Msg) {
	s.t.Helper()
	for _, m := range l {
		s.step(deed{"lie", from, to, bytesOf(m)})
	}
}

// all does the same on a link until it has no message.
func (s *storm) all(what string, from, to int) {
	s.t.Helper()
	for len(onLink(s.c, from, to)) > 0 {
		s.step(deed{what, from, to, nil})
	}
}

func (s *storm) allAmong(what string, from, to []int) {
	s.t.Helper()
	for _, a := range from {
		for _, b := range to {
			if a != b {
				s.all(what, a, b)
			}
		}
	}
}

// quiet delivers until there are no messages.
func (s *storm) quiet() {
	s.t.Helper()
	for !impl.Quiet(s.c) {
		s.allAmong("deliver", everybody(s.w.n), everybody(s.w.n))
	}
}

func everybody(n int) []int {
	var l []int
	for id := range n {
		l = append(l, id)
	}
	return l
}

func (s *storm) ticksInto(view, id int) {
	s.t.Helper()
	for s.c.Reps[id].View < view {
		if s.c.Reps[id].Done != 0 {
			s.t.Fatal(s.c.Reps[id], "is decided and stays where it is")
		}
		s.step(deed{"tick", id, 0, nil})
	}
}

func TestClusterDecides(t *testing.T) {
	for _, n := range []int{4, 7} {
		for _, faulty := range faultySets(n) {
			if slices.Contains(faulty, 0) {
				continue
			}
			s := scene(t, n, faulty...)
			s.quiet()
			for _, id := range impl.Honest(s.c) {
				if s.c.Reps[id].Done != 10 {
					t.Error(n, faulty, s.c.Reps[id])
				}
			}
			if impl.Decided(s.c) != n-len(faulty) || impl.Waiting(s.c) != 0 || impl.Latest(s.c) != 0 {
				t.Error(n, faulty, impl.Decided(s.c), impl.Waiting(s.c), impl.Latest(s.c))
			}
		}
	}
}

// parted is a cluster whose faulty leader proposed 5 to some and 6 to the others. The first are locked on 5, and replica 1 alone
// decided it. All others but the faulty are in the next view of that leader, and only their reports of it are on the way.
func parted(t *testing.T, n int, liars, fives, sixes []int) *storm {
	t.Helper()
	s := scene(t, n, liars...)
	honest := append(slices.Clone(fives), sixes...)
	for _, to := range fives {
		s.lies(0, to, proposing(0, 5))
	}
	for _, to := range sixes {
		s.lies(0, to, proposing(0, 6))
	}
	for _, from := range liars {
		for _, to := range fives {
			s.lies(from, to, voting(0, 5))
		}
		s.lies(from, 1, readying(0, 5))
	}
	s.allAmong("deliver", liars, honest)
	s.allAmong("deliver", fives, fives)
	s.allAmong("deliver", fives, fives) // the ready messages that the votes led to
	s.allAmong("lose", honest, everybody(n))
	for _, id := range honest {
		if id == 1 {
			continue
		}
		s.ticksInto(n, id)
		for to := range n {
			for len(onLink(s.c, id, to)) > 1 {
				s.step(deed{"lose", id, to, nil})
			}
		}
	}
	if r := s.c.Reps[1]; r.Done != 5 || impl.Decided(s.c) != 1 || s.c.Reps[2].Lock != lockOn(0, 5) || s.c.Reps[sixes[0]].Lock != noLock {
		t.Fatal(s.c)
	}
	return s
}

// falseReports are what liars may say to have 6 voted for in the view.
func falseReports(view int) []impl.Msg {
	var all []impl.Vote
	for at := range view {
		all = append(all, impl.Vote{View: at, Val: 6})
	}
	return []impl.Msg{
		reporting(view),
		report(view, noLock, votes(0, 6)...),
		report(view, noLock, all...),
		report(view, lockOn(0, 6), votes(0, 6)...),
		report(view, lockOn(view-1, 6), all...),
		report(view, lockOn(view-1, 7), all...),
	}
}

func TestLiesAgainstADecision(t *testing.T) {
	for _, x := range []struct {
		n                   int
		liars, fives, sixes []int
	}{
		{4, []int{0}, []int{1, 2}, []int{3}},
		{7, []int{0, 6}, []int{1, 2, 3}, []int{4, 5}},
	} {
		honest := append(slices.Clone(x.fives), x.sixes...)
		for i, m := range falseReports(x.n) {
			for _, val := range []int{6, 5, 9} {
				s := parted(t, x.n, x.liars, x.fives, x.sixes)
				for _, to := range honest {
					s.lies(0, to, proposing(x.n, val))
					for _, from := range x.liars {
						s.lies(from, to, m, voting(x.n, 6), readying(x.n, 6), deciding(6))
					}
				}
				s.quiet()
				for _, id := range honest {
					r := s.c.Reps[id]
					if len(impl.HeardFrom(r, x.n)) != x.n || r.View != x.n {
						t.Fatal(r)
					}
					if voted, ok := impl.VotedIn(r, x.n); ok != (val == 5) || ok && (voted != 5 || r.Done != 5) {
						t.Error(i, val, r)
					}
				}
			}
		}
	}
}

// What the faulty say alone decides nothing, however often it comes.
func TestLiarsDecideNothing(t *testing.T) {
	for _, n := range []int{4, 7} {
		for _, liars := range faultySets(n)[1:] {
			s := scene(t, n, liars...)
			s.allAmong("lose", everybody(n), everybody(n))
			for _, from := range liars {
				for _, to := range impl.Honest(s.c) {
					for range 2 {
						s.lies(from, to, voting(0, 9), readying(0, 9), readying(3, 9), deciding(9), reporting(9))
					}
					s.step(deed{"twice", from, to, nil})
				}
			}
			s.quiet()
			for _, id := range impl.Honest(s.c) {
				if r := s.c.Reps[id]; r.Done != 0 || r.Lock != noLock || r.View != 0 {
					t.Error(n, liars, r)
				}
			}
		}
	}
}
