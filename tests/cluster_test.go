package tests

import (
	"math"
	"slices"
	"testing"

	"loop.example/g00567/impl"
)

func TestMaxQueue(t *testing.T) {
	if impl.MaxQueue != 80 {
		t.Error(impl.MaxQueue)
	}
}

// faultySets returns every set of replicas that may be faulty.
func faultySets(n int) [][]int {
	l := [][]int{nil}
	for a := range n {
		l = append(l, []int{a})
		for b := a + 1; n == 7 && b < n; b++ {
			l = append(l, []int{a, b})
		}
	}
	return l
}

func TestClusterNew(t *testing.T) {
	for _, n := range []int{4, 7} {
		for _, faulty := range faultySets(n) {
			want := idleCluster(n, 0, faulty...)
			for id := range n {
				want.Reps[id].Own = 10 + id
			}
			want.Reps[0].Voted, want.Reps[0].Props, want.Reps[0].Votes = votes(0, 10), tally(0, 0, 10), tally(0, 0, 10)
			for to := 1; to < n && !want.Bad[0]; to++ {
				setLink(&want, 0, to, []impl.Msg{proposing(0, 10), voting(0, 10)})
			}
			c, ok := impl.ClusterNew(ownsOf(n), flagsOf(n, faulty...))
			wantCluster(t, c, ok, want, true)
			if !impl.ClusterOk(c) {
				t.Error(n, faulty)
			}
		}
	}
}

func TestClusterNewWithTheLeastAndTheGreatestValues(t *testing.T) {
	for _, n := range []int{4, 7} {
		owns := slices.Repeat([]int{1}, n)
		for at := range owns {
			owns[at] = 60
			c, ok := impl.ClusterNew(owns, flagsOf(n))
			if !ok || onLink(c, 0, 1)[0].Val != owns[0] {
				t.Fatal(n, owns, c, ok)
			}
			for id, r := range c.Reps {
				if r.Own != owns[id] {
					t.Error(n, owns, r)
				}
			}
		}
	}
}

func TestClusterNewRefuses(t *testing.T) {
	refused := func(owns []int, bad []bool) {
		t.Helper()
		if c, ok := impl.ClusterNew(owns, bad); ok || !zeroCluster(c) {
			t.Error(owns, bad, c, ok)
		}
	}
	for _, n := range []int{4, 7} {
		for at := range n {
			for _, own := range []int{math.MinInt, -1, 0, 61, 256 + 9, math.MaxInt} {
				owns := ownsOf(n)
				owns[at] = own
				refused(owns, flagsOf(n))
				refused(owns, flagsOf(n, at))
			}
		}
		for size := range 9 {
			if size != n {
				refused(ownsOf(n), make([]bool, size))
				refused(ownsOf(size), make([]bool, n))
			}
		}
		refused(ownsOf(n), make([]bool, 1<<20))
		refused(ownsOf(1<<16), make([]bool, n))
	}
	for size := range 15 {
		if size != 4 && size != 7 {
			refused(ownsOf(size), make([]bool, size))
		}
	}
	refused(nil, nil)
	refused(ownsOf(1<<16), make([]bool, 1<<16))
}

func TestClusterNewWithTooManyFaulty(t *testing.T) {
	for _, n := range []int{4, 7} {
		assignments(n, 1, func(of []int) {
			var faulty []int
			for id, bad := range of {
				if bad == 1 {
					faulty = append(faulty, id)
				}
			}
			c, ok := impl.ClusterNew(ownsOf(n), flagsOf(n, faulty...))
			if ok != (len(faulty) < weakOf(n)) || ok != impl.ClusterOk(c) || !ok && !zeroCluster(c) {
				t.Error(n, faulty, c, ok)
			}
		})
	}
}

// validClusters are clusters at the edges of what is valid, by what they show.
func validClusters() map[string]impl.Cluster {
	all := map[string]impl.Cluster{}
	for name, base := range map[string]impl.Cluster{
		"4": busyCluster(4), "4 with a faulty one": busyCluster(4, 0), "7": busyCluster(7), "7 with a faulty one": busyCluster(7, 6), "7 with two": busyCluster(7, 0, 3),
	} {
		n := base.N
		for what, change := range map[string]func(*impl.Cluster){
			"as it is":                func(c *impl.Cluster) {},
			"idle":                    func(c *impl.Cluster) { *c = idleCluster(n, 0) },
			"idle at last":            func(c *impl.Cluster) { *c = idleCluster(n, 9, n-1) },
			"empty queues, not nil":   func(c *impl.Cluster) { c.Net = slices.Repeat([][]impl.Msg{{}}, n*n) },
			"different decisions":     func(c *impl.Cluster) { c.Reps[1].Done, c.Reps[2].Done = 7, 60 },
			"a decided faulty leader": func(c *impl.Cluster) { c.Bad, c.Reps[0].Done = flagsOf(n, 0), 9 },
			"full links": func(c *impl.Cluster) {
				for _, at := range linksOf(n) {
					setLink(c, at[0], at[1], numbered(80))
				}
			},
			"one full link": func(c *impl.Cluster) { c.Net = make([][]impl.Msg, n*n); setLink(c, n-1, n-2, numbered(80)) },
		} {
			all[name+", "+what] = changedCluster(base, change)
		}
	}
	return all
}

func TestClusterOk(t *testing.T) {
	for name, c := range validClusters() {
		if !impl.ClusterOk(c) {
			t.Error(name)
		}
	}
	for name, c := range invalidClusters() {
		if impl.ClusterOk(c) {
			t.Error(name)
		}
	}
}

func TestClusterOkWithValidParts(t *testing.T) {
	all := map[int][]impl.Rep{4: nil, 7: nil}
	for _, r := range validReps() {
		all[r.N] = append(all[r.N], r)
	}
	for n, reps := range all {
		for _, faulty := range [][]int{nil, {0}, {n - 1}} {
			for _, r := range reps {
				c := idleCluster(n, 3, faulty...)
				c.Reps[r.Id] = r
				if !impl.ClusterOk(c) {
					t.Error(n, faulty, r)
				}
			}
		}
	}
	for i, m := range validMsgs() {
		c := idleCluster(4, 3, 0)
		at := linksOf(4)[i%12]
		setLink(&c, at[0], at[1], []impl.Msg{m})
		if !impl.ClusterOk(c) {
			t.Error(m)
		}
	}
}

func TestClusterOkAtTheEdges(t *testing.T) {
	for _, n := range []int{4, 7} {
		for faulty := range n + 1 {
			for flags := n - 1; flags <= n+1; flags++ {
				c := idleCluster(n, 0)
				c.Bad = append(slices.Repeat([]bool{true}, faulty), make([]bool, n+1)...)[:flags]
				if got := impl.ClusterOk(c); got != (flags == n && faulty < weakOf(n)) {
					t.Error(n, faulty, flags, got)
				}
			}
		}
		for _, at := range linksOf(n) {
			for _, count := range []int{0, 1, 79, 80, 81, 82, 160} {
				c := idleCluster(n, 0)
				setLink(&c, at[0], at[1], numbered(count))
				if got := impl.ClusterOk(c); got != (count <= 80) {
					t.Error(n, at, count, got)
				}
			}
		}
	}
}

// lengthCluster has so many messages on each link; some of its replicas act on what they hear.
func lengthCluster(n, count int, faulty ...int) impl.Cluster {
	c := idleCluster(n, 0, faulty...)
	all := append([]impl.Msg{report(2, lockOn(1, 5), votes(0, 5, 1, 5)...), deciding(9), proposing(0, 7)}, numbered(80)...)
	for i, at := range linksOf(n) {
		l := slices.Concat(all[i%3:], all[:i%3])
		setLink(&c, at[0], at[1], cloneMsgs(l[:count]))
	}
	return c
}

// Each event at each link of each length, written out: the link itself, and all others.
func TestLinksAfterEvents(t *testing.T) {
	said := report(9, lockOn(8, 60), votes(0, 1, 8, 60)...)
	for _, count := range []int{0, 1, 2, 3, 79, 80} {
		for n, faulty := range map[int][]int{4: {3}, 7: {0, 5}} {
			c := lengthCluster(n, count, faulty...)
			for _, at := range linksOf(n) {
				from, to := at[0], at[1]
				l := onLink(c, from, to)
				wantLink := func(d deed, change bool, after ...impl.Msg) {
					t.Helper()
					want := cloneCluster(c)
					if change {
						setLink(&want, from, to, after)
					}
					got, ok := d.do(c)
					wantCluster(t, got, ok, want, change)
				}
				some := count > 0
				wantLink(deed{"lose", from, to, nil}, some, l[min(1, count):]...)
				wantLink(deed{"twice", from, to, nil}, some && count < 80, slices.Concat(l, l[:min(1, count)])...)
				wantLink(deed{"later", from, to, nil}, some && count < 80, slices.Concat(l[min(1, count):], l[:min(1, count)])...)
				if c.Bad[to] {
					wantLink(deed{"deliver", from, to, nil}, some, l[min(1, count):]...)
				}
				if c.Bad[from] {
					wantLink(deed{"lie", from, to, bytesOf(said)}, count < 80, slices.Concat(l, []impl.Msg{said})...)
				}
				wantDeed(t, c, deed{"deliver", from, to, nil})
			}
		}
	}
}

func TestLaterOnALinkWithOneMessage(t *testing.T) {
	c := idleCluster(4, 0)
	setLink(&c, 2, 1, []impl.Msg{exampleReport()})
	got, ok := impl.Later(c, 2, 1)
	wantCluster(t, got, ok, c, true)
}

// Later takes as many steps as there are messages to lead back.
func TestLaterAllAround(t *testing.T) {
	c := idleCluster(7, 0)
	setLink(&c, 6, 5, numbered(79))
	got, ok := c, false
	for i := range 79 {
		got, ok = impl.Later(got, 6, 5)
		l := numbered(79)
		setLink(&c, 6, 5, slices.Concat(l[i+1:], l[:i+1]))
		wantCluster(t, got, ok, c, true)
	}
}

func TestLinksFillUp(t *testing.T) {
	c := idleCluster(4, 0, 2)
	setLink(&c, 2, 0, numbered(1))
	for i := range 100 {
		for _, d := range []deed{{"lie", 2, 1, bytesOf(voting(i%10, 1+i%60))}, {"twice", 2, 0, nil}} {
			before := len(onLink(c, d.from, d.to))
			var ok bool
			c, ok = wantDeed(t, c, d)
			if after := len(onLink(c, d.from, d.to)); ok != (before < 80) || after != min(80, before+1) {
				t.Fatal(i, d, before, after)
			}
		}
	}
}

func TestDeliver(t *testing.T) {
	c := started(t, 4, 3)
	c, ok := impl.Deliver(c, 0, 1)
	want := started(t, 4, 3)
	want.Reps[1].Voted, want.Reps[1].Props, want.Reps[1].Votes = votes(0, 10), tally(0, 0, 10), tally(1, 0, 10)
	setLink(&want, 0, 1, []impl.Msg{voting(0, 10)})
	for _, to := range []int{0, 2, 3} {
		setLink(&want, 1, to, []impl.Msg{voting(0, 10)})
	}
	wantCluster(t, c, ok, want, true)

	c, ok = impl.Deliver(c, 0, 3) // a faulty replica
	setLink(&want, 0, 3, []impl.Msg{voting(0, 10)})
	wantCluster(t, c, ok, want, true)

	c, ok = impl.Deliver(c, 0, 1)
	want.Reps[1].Votes = tally(0, 0, 10, 1, 0, 10)
	setLink(&want, 0, 1, nil)
	wantCluster(t, c, ok, want, true)

	c, ok = impl.Deliver(c, 0, 1) // no message
	wantCluster(t, c, ok, want, false)
	c, ok = impl.Deliver(c, 3, 1)
	wantCluster(t, c, ok, want, false)
}

// The message counts as one of the other end of its link, whoever it speaks for.
func TestDeliverFromALiar(t *testing.T) {
	c := idleCluster(4, 0, 2)
	setLink(&c, 2, 1, []impl.Msg{proposing(0, 9), proposing(2, 9), voting(0, 9)})
	for range 3 {
		c, _ = impl.Deliver(c, 2, 1)
	}
	want := idleCluster(4, 0, 2)
	want.Reps[1].Props, want.Reps[1].Votes = tally(2, 2, 9), tally(2, 0, 9)
	wantCluster(t, c, true, want, true)
}

func TestDeliverToFaultyReplicas(t *testing.T) {
	for _, n := range []int{4, 7} {
		for _, faulty := range faultySets(n)[1:] {
			c := busyCluster(n, faulty...)
			for _, to := range faulty {
				for from := range n {
					for from != to && len(onLink(c, from, to)) > 0 {
						want := cloneCluster(c)
						setLink(&want, from, to, onLink(want, from, to)[1:])
						got, ok := impl.Deliver(c, from, to)
						wantCluster(t, got, ok, want, true)
						c = got
					}
				}
			}
		}
	}
}

func TestTickOfACluster(t *testing.T) {
	for _, n := range []int{4, 7} {
		c := started(t, n, 2)
		want := cloneCluster(c)
		for _, left := range []int{2, 1} {
			for id := range n {
				got, ok := impl.Tick(c, id)
				if id != 2 {
					want.Reps[id].Left = left
				}
				wantCluster(t, got, ok, want, id != 2)
				c = got
			}
		}
		c, ok := impl.Tick(c, 3)
		want.Reps[3].View, want.Reps[3].Left, want.Reps[3].Heard = 1, 4, []impl.Heard{heard(1, reported(3, noLock))}
		for to := range n {
			if to != 3 {
				setLink(&want, 3, to, append(onLink(want, 3, to), reporting(1)))
			}
		}
		wantCluster(t, c, ok, want, true)
	}
}

func TestTickOfFaultyReplicas(t *testing.T) {
	for _, n := range []int{4, 7} {
		for _, faulty := range faultySets(n) {
			c := busyCluster(n, faulty...)
			for id := range n {
				got, ok := wantDeed(t, c, deed{"tick", id, 0, nil})
				if ok == c.Bad[id] || c.Bad[id] != sameCluster(got, c) {
					t.Error(n, faulty, id, ok)
				}
			}
		}
	}
}

// readyAndDone is a cluster in which 1 sends a ready and a done message on the vote that comes from 3.
func readyAndDone() impl.Cluster {
	c := idleCluster(4, 0)
	r := &c.Reps[1]
	r.Voted, r.Props = votes(0, 5), tally(0, 0, 5)
	r.Votes, r.Readies = tally(1, 0, 5, 2, 0, 5), tally(2, 0, 5, 3, 0, 5)
	setLink(&c, 3, 1, []impl.Msg{voting(0, 5), deciding(6)})
	return c
}

func TestTransmittingToFullLinks(t *testing.T) {
	sent := []impl.Msg{readying(0, 5), deciding(5)}
	for _, has := range [][3]int{{80, 80, 80}, {80, 79, 78}, {79, 78, 80}, {78, 80, 79}, {0, 80, 0}, {79, 79, 0}} {
		c := readyAndDone()
		for i, to := range []int{0, 2, 3} {
			setLink(&c, 1, to, numbered(has[i]))
		}
		want := cloneCluster(c)
		r := &want.Reps[1]
		r.Votes, r.Readies, r.Dones = tally(1, 0, 5, 2, 0, 5, 3, 0, 5), tally(1, 0, 5, 2, 0, 5, 3, 0, 5), tally(1, 0, 5)
		r.Lock, r.Done = lockOn(0, 5), 5
		setLink(&want, 3, 1, []impl.Msg{deciding(6)})
		for i, to := range []int{0, 2, 3} {
			setLink(&want, 1, to, append(numbered(has[i]), sent[:min(2, 80-has[i])]...))
		}
		got, ok := impl.Deliver(c, 3, 1)
		wantCluster(t, got, ok, want, true)
	}
}

// A leader that enters its view sends four messages at once; of these, each link gets as many as it has room for.
func TestTickTransmitsToFullLinks(t *testing.T) {
	sent := []impl.Msg{reporting(1), proposing(1, 9), voting(1, 9), readying(1, 9)}
	for _, n := range []int{4, 7} {
		others := strongOf(n) - 1
		c := idleCluster(n, 0, 3)
		r := &c.Reps[1]
		r.Left = 1
		r.Votes.L = viewTally(1, 9, 0, 9, 9, 9).L[:others]
		r.Heard = []impl.Heard{heard(1, unboundReports(0, 2, 3, 4)[:others]...)}
		for to := range n {
			if to != 1 {
				setLink(&c, 1, to, numbered(80-to))
			}
		}
		got, ok := impl.Tick(c, 1)
		want := cloneCluster(c)
		want.Reps[1], _ = impl.RepTick(c.Reps[1])
		for to := range n {
			if to != 1 {
				setLink(&want, 1, to, append(numbered(80-to), sent[:min(to, 4)]...))
			}
		}
		wantCluster(t, got, ok, want, true)
	}
}

func TestLie(t *testing.T) {
	for _, n := range []int{4, 7} {
		for _, faulty := range faultySets(n)[1:] {
			c := busyCluster(n, faulty...)
			for i, m := range []impl.Msg{exampleReport(), reporting(9), proposing(0, 1), voting(9, 60), readying(3, 7), deciding(4)} {
				for _, from := range faulty {
					to := (from + 1 + i%(n-1)) % n
					want := changedCluster(c, func(c *impl.Cluster) { setLink(c, from, to, append(onLink(*c, from, to), m)) })
					got, ok := impl.Lie(c, from, to, bytesOf(m))
					wantCluster(t, got, ok, want, true)
					c = got
				}
			}
		}
	}
}

func TestLieOfHonestReplicas(t *testing.T) {
	for _, n := range []int{4, 7} {
		for _, faulty := range faultySets(n) {
			c := busyCluster(n, faulty...)
			for _, at := range linksOf(n) {
				for _, b := range [][]byte{bytesOf(voting(0, 5)), nil, {9}} {
					got, ok := impl.Lie(c, at[0], at[1], b)
					if !c.Bad[at[0]] && (ok || !zeroCluster(got)) {
						t.Fatal(n, faulty, at, b, got, ok)
					}
				}
			}
		}
	}
}

func TestLieOfNoMessage(t *testing.T) {
	c := busyCluster(4, 2)
	full := changedCluster(c, func(c *impl.Cluster) { setLink(c, 2, 0, numbered(80)) })
	good := bytesOf(exampleReport())
	for _, b := range [][]byte{nil, {}, {0}, good[:9], append(slices.Clone(good), 0), {1, 0, 0, 0, 0, 0}, {1, 10, 5, 0, 0, 0}, {5, 0, 5, 0, 0, 0}, {4, 1, 5, 0, 0, 0}, {1, 0, 61, 0, 0, 0}, make([]byte, 1<<20)} {
		for _, base := range []impl.Cluster{c, full} {
			got, ok := impl.Lie(base, 2, 0, b)
			wantCluster(t, got, ok, base, false)
		}
	}
	got, ok := impl.Lie(full, 2, 0, good)
	wantCluster(t, got, ok, full, false)
	got, ok = impl.Lie(full, 2, 1, good)
	wantCluster(t, got, ok, changedCluster(full, func(c *impl.Cluster) { setLink(c, 2, 1, append(onLink(*c, 2, 1), exampleReport())) }), true)
}

// Every message can be sent as a lie, and nothing else.
func TestLieOfEveryMessage(t *testing.T) {
	c := idleCluster(4, 0, 0)
	for _, m := range validMsgs() {
		got, ok := impl.Lie(c, 0, 3, bytesOf(m))
		if !ok || !sameMsgs(onLink(got, 0, 3), []impl.Msg{m}) || len(impl.OnLink(got, 0, 3)) != 1 {
			t.Fatal(m, got, ok)
		}
	}
}

func TestEventsWithoutSuchReplicas(t *testing.T) {
	said := bytesOf(voting(0, 5))
	for _, n := range []int{4, 7} {
		c := busyCluster(n, 1)
		isReplica := func(id int) bool { return 0 <= id && id < n }
		for _, from := range someIds {
			if got, ok := impl.Tick(c, from); ok != (isReplica(from) && from != 1) || zeroCluster(got) == isReplica(from) {
				t.Error(n, "tick", from, ok)
			}
			for _, to := range someIds {
				for _, what := range allDeeds {
					isLink := isReplica(from) && isReplica(to) && from != to && (what != "lie" || from == 1)
					got, ok := deed{what, from, to, said}.do(c)
					if what != "tick" && (ok != isLink || zeroCluster(got) == isLink) {
						t.Error(n, what, from, to, ok)
					}
				}
			}
		}
	}
}

// A full or an empty link does not matter where there is no such link.
func TestWhichConditionComesFirst(t *testing.T) {
	for _, c := range []impl.Cluster{idleCluster(4, 0, 1), lengthCluster(4, 80, 1)} {
		for _, d := range []deed{
			{"deliver", 1, 1, nil}, {"lose", 4, 0, nil}, {"twice", 0, -1, nil}, {"later", 2, 2, nil}, {"tick", 4, 0, nil}, {"tick", -1, 0, nil},
			{"lie", 0, 1, nil}, {"lie", 2, 3, []byte{9}}, {"lie", 1, 1, nil}, {"lie", 1, 4, nil}, {"lie", -1, 0, bytesOf(voting(0, 5))},
		} {
			if got, ok := d.do(c); ok || !zeroCluster(got) {
				t.Error(d, got, ok)
			}
		}
	}
}

// A tick is of From alone.
func TestTickOfEachReplica(t *testing.T) {
	for _, n := range []int{4, 7} {
		for id := range n {
			c := idleCluster(n, 5)
			got, ok := impl.Tick(c, id)
			c.Reps[id].Left--
			wantCluster(t, got, ok, c, true)
		}
	}
}

func TestInvalidClusters(t *testing.T) {
	said := bytesOf(voting(0, 5))
	for name, c := range invalidClusters() {
		for _, at := range [][2]int{{0, 1}, {1, 0}, {2, 3}, {3, 1}, {1, 2}, {1, 1}, {-1, 0}, {0, 6}} {
			for _, what := range allDeeds {
				if got, ok := (deed{what, at[0], at[1], said}).do(c); ok || !zeroCluster(got) {
					t.Fatal(name, what, at, ok)
				}
			}
			if l := impl.OnLink(c, at[0], at[1]); len(l) != 0 {
				t.Error(name, "OnLink", at, l)
			}
			if l := impl.Split(c, at[0]); len(l) != 0 {
				t.Error(name, "Split", at, l)
			}
		}
		if impl.Agreed(c) || impl.Quiet(c) || impl.Decided(c) != 0 || impl.Waiting(c) != 0 || len(impl.Honest(c)) != 0 || impl.Latest(c) != -1 {
			t.Error(name, impl.Agreed(c), impl.Quiet(c), impl.Decided(c), impl.Waiting(c), impl.Honest(c), impl.Latest(c))
		}
	}
}

func TestAgreedAndDecided(t *testing.T) {
	for n, cases := range map[int][]struct {
		faulty  []int
		done    []int
		agreed  bool
		decided int
	}{
		4: {
			{nil, []int{0, 0, 0, 0}, true, 0},
			{nil, []int{0, 0, 0, 7}, true, 1},
			{nil, []int{7, 7, 7, 7}, true, 4},
			{nil, []int{7, 0, 0, 7}, true, 2},
			{nil, []int{7, 0, 0, 8}, false, 2},
			{nil, []int{0, 1, 60, 0}, false, 2},
			{nil, []int{7, 7, 7, 6}, false, 4},
			{nil, []int{6, 7, 7, 7}, false, 4},
			{[]int{3}, []int{7, 7, 7, 6}, true, 3},
			{[]int{0}, []int{6, 7, 7, 7}, true, 3},
			{[]int{0}, []int{6, 7, 7, 8}, false, 3},
			{[]int{2}, []int{0, 0, 6, 0}, true, 0},
		},
		7: {
			{nil, []int{0, 5, 0, 5, 0, 0, 5}, true, 3},
			{nil, []int{5, 5, 5, 5, 5, 5, 9}, false, 7},
			{[]int{0, 6}, []int{8, 5, 5, 5, 5, 5, 9}, true, 5},
			{[]int{0, 6}, []int{8, 0, 0, 0, 0, 0, 9}, true, 0},
			{[]int{0, 6}, []int{8, 0, 4, 0, 5, 0, 9}, false, 2},
			{[]int{1}, []int{0, 3, 0, 0, 0, 4, 5}, false, 2},
		},
	} {
		for _, x := range cases {
			c := idleCluster(n, 2, x.faulty...)
			for id, val := range x.done {
				c.Reps[id].Done = val
			}
			if impl.Agreed(c) != x.agreed || impl.Decided(c) != x.decided {
				t.Error(x, impl.Agreed(c), impl.Decided(c))
			}
		}
	}
}

func TestHonest(t *testing.T) {
	for _, n := range []int{4, 7} {
		for _, faulty := range faultySets(n) {
			var want []int
			for id := range n {
				if !slices.Contains(faulty, id) {
					want = append(want, id)
				}
			}
			if got := impl.Honest(idleCluster(n, 0, faulty...)); !slices.Equal(got, want) {
				t.Error(n, faulty, got)
			}
		}
	}
}

func TestLatest(t *testing.T) {
	for n, cases := range map[int][]struct {
		faulty, views []int
		want          int
	}{
		4: {{nil, []int{0, 0, 0, 0}, 0}, {nil, []int{9, 0, 1, 2}, 9}, {nil, []int{0, 0, 1, 2}, 2}, {[]int{0}, []int{9, 3, 1, 2}, 3}, {[]int{3}, []int{0, 0, 0, 7}, 0}, {[]int{2}, []int{4, 5, 4, 4}, 5}},
		7: {{[]int{0, 6}, []int{9, 0, 1, 2, 8, 3, 9}, 8}, {[]int{2, 4}, []int{1, 1, 9, 1, 9, 1, 0}, 1}, {nil, []int{1, 1, 1, 9, 1, 1, 0}, 9}},
	} {
		for _, x := range cases {
			c := idleCluster(n, 0, x.faulty...)
			for id, view := range x.views {
				c.Reps[id] = idle(n, id, view)
			}
			if got := impl.Latest(c); got != x.want {
				t.Error(x, got)
			}
		}
	}
}

func TestWaitingQuietSplitAndOnLink(t *testing.T) {
	for _, n := range []int{4, 7} {
		for _, faulty := range [][]int{nil, {0}} {
			for _, count := range []int{0, 1, 5, 80} {
				c := lengthCluster(n, count, faulty...)
				if impl.Waiting(c) != count*n*(n-1) || impl.Quiet(c) != (count == 0) {
					t.Error(n, count, impl.Waiting(c), impl.Quiet(c))
				}
				for from := range n {
					want := slices.Repeat([]int{count}, n)
					want[from] = 0
					if got := impl.Split(c, from); !slices.Equal(got, want) {
						t.Error(n, count, from, got)
					}
				}
			}
			for i, at := range linksOf(n) {
				c := idleCluster(n, 3, faulty...)
				setLink(&c, at[0], at[1], numbered(1+i))
				for k, other := range linksOf(n) {
					want := 0
					if k == i {
						want = 1 + i
					}
					if got := impl.OnLink(c, other[0], other[1]); !sameMsgs(got, numbered(want)) || impl.Split(c, other[0])[other[1]] != want {
						t.Error(n, at, other, got)
					}
				}
				if impl.Waiting(c) != 1+i || impl.Quiet(c) {
					t.Error(n, at, impl.Waiting(c), impl.Quiet(c))
				}
			}
		}
	}
}

func TestOnLinkAndSplitWithoutSuchReplicas(t *testing.T) {
	for _, n := range []int{4, 7} {
		c := busyCluster(n, 1)
		for _, from := range someIds {
			isReplica := 0 <= from && from < n
			if got := impl.Split(c, from); len(got) != 0 != isReplica || isReplica && len(got) != n {
				t.Error(n, from, got)
			}
			for _, to := range someIds {
				isLink := isReplica && 0 <= to && to < n && from != to
				if got := impl.OnLink(c, from, to); len(got) != 0 != isLink || isLink && !sameMsgs(got, onLink(c, from, to)) {
					t.Error(n, from, to, got)
				}
			}
		}
	}
}
