package tests

import (
	"math"
	"slices"
	"testing"

	"loop.example/g00567/impl"
)

func TestFlush(t *testing.T) {
	t.Parallel()
	for name, c := range scheduledClusters(t) {
		flushed, n := wantFlush(t, c)
		if (n == 0) != impl.Quiet(c) {
			t.Error(name, n)
		}
		if again, n := wantFlush(t, flushed); n != 0 || !sameCluster(again, flushed) {
			t.Error(name, "has more to deliver", n)
		}
	}
}

// The rounds as the chapter puts them, with Deliver itself.
func TestFlushIsDeliverForEveryLink(t *testing.T) {
	for _, c := range []impl.Cluster{started(t, 4), started(t, 7, 3), ticked(t, started(t, 7, 0, 6), 2), busyCluster(4, 1), busyCluster(7, 2, 5), lengthCluster(4, 80, 3)} {
		want, total := c, 0
		for delivered := -1; delivered != 0; {
			delivered = 0
			for from := range c.N {
				for to := range c.N {
					if after, ok := impl.Deliver(want, from, to); ok {
						want = after
						delivered++
					}
				}
			}
			total += delivered
		}
		got, n := impl.Flush(c)
		if n != total || n == 0 || !sameCluster(got, want) {
			t.Errorf("%v:\ngot  %v %v,\nwant %v %v", c, got, n, want, total)
		}
	}
}

func TestFlushOfANewCluster(t *testing.T) {
	for _, n := range []int{4, 7} {
		for _, faulty := range faultySets(n) {
			c, count := wantFlush(t, started(t, n, faulty...))
			honest := n - len(faulty)
			if slices.Contains(faulty, 0) {
				if count != 0 || !sameCluster(c, started(t, n, faulty...)) {
					t.Error(n, faulty, count, c)
				}
				continue
			}
			// The proposal of the leader, and a vote, a ready and a done message of everybody honest.
			if count != (n-1)*(1+3*honest) || impl.Decided(c) != honest || impl.Latest(c) != 0 {
				t.Error(n, faulty, count, c)
			}
		}
	}
}

func TestFlushWithNoMessage(t *testing.T) {
	for _, n := range []int{4, 7} {
		for _, faulty := range faultySets(n) {
			for _, c := range []impl.Cluster{idleCluster(n, 0, faulty...), stuckCluster(n, faulty...), silentCluster(n, faulty...)} {
				got, count := impl.Flush(c)
				if count != 0 || !sameCluster(got, c) {
					t.Error(n, faulty, count, got)
				}
			}
		}
	}
}

// The last message of the longest link is delivered too.
func TestFlushOfOneLink(t *testing.T) {
	for _, n := range []int{4, 7} {
		for _, at := range linksOf(n) {
			for _, count := range []int{1, 2, 79, 80} {
				c := idleCluster(n, 9)
				l := numbered(count)
				for i := range l {
					l[i] = voting(i%9, 7) // of earlier views, so that it leads to nothing
				}
				setLink(&c, at[0], at[1], l)
				got, delivered := wantFlush(t, c)
				if delivered != count || len(got.Reps[at[1]].Votes.L) != min(count, 9) {
					t.Error(n, at, count, delivered, got)
				}
			}
		}
	}
}

func TestFlushOfLinksOfFaultyReplicas(t *testing.T) {
	c := stuckCluster(4, 2)
	setLink(&c, 2, 0, []impl.Msg{deciding(9), voting(0, 9)})
	setLink(&c, 2, 1, []impl.Msg{deciding(9)})
	setLink(&c, 0, 2, numbered(80))
	setLink(&c, 3, 2, []impl.Msg{deciding(9)})
	setLink(&c, 3, 1, []impl.Msg{deciding(9)})
	got, n := wantFlush(t, c)
	// 1 decides by the words of 2 and 3, and tells all others; 0, which has heard 2, decides by that and tells them too.
	// 3 hears both of them.
	if n != 2+1+80+1+1+3*3 || impl.Decided(got) != 3 {
		t.Fatal(n, got)
	}
	wantRep(t, got.Reps[2], idle(4, 2, 9))
	for _, id := range []int{0, 1, 3} {
		if got.Reps[id].Done != 9 {
			t.Error(got.Reps[id])
		}
	}
}

func TestFlushWithEveryLinkFull(t *testing.T) {
	for _, n := range []int{4, 7} {
		for _, faulty := range [][]int{nil, {1}} {
			c := lengthCluster(n, 80, faulty...)
			got, count := wantFlush(t, c)
			if count < 80*n*(n-1) || count >= 20000 || !impl.Quiet(got) {
				t.Error(n, faulty, count)
			}
		}
	}
}

// In a round every link gives one message: 3 hears all that are ready for 8 before it hears a done of 7.
func TestFlushTakesOneMessageOfEachLink(t *testing.T) {
	c := stuckCluster(4)
	for from := range 3 {
		setLink(&c, from, 3, []impl.Msg{readying(5, 8), deciding(7)})
	}
	got, _ := wantFlush(t, c)
	if got.Reps[3].Done != 8 {
		t.Error(got.Reps[3])
	}
}

// 3 hears 0 and 1, which decide it, before it hears 2.
func TestFlushTakesTheSendersInOrder(t *testing.T) {
	c := stuckCluster(4)
	c.Reps[3].Readies = tally(0, 5, 8, 1, 5, 8)
	setLink(&c, 0, 3, []impl.Msg{deciding(7)})
	setLink(&c, 1, 3, []impl.Msg{deciding(7)})
	setLink(&c, 2, 3, []impl.Msg{readying(5, 8)})
	got, _ := wantFlush(t, c)
	if got.Reps[3].Done != 7 {
		t.Error(got.Reps[3])
	}
}

// What 1 sends on the message of 0 is delivered in the same round, before 0 hears 2.
func TestFlushTakesTheReceiversOfASenderInOrder(t *testing.T) {
	c := stuckCluster(4)
	c.Reps[1].Dones = tally(3, 0, 7)
	c.Reps[0].Dones = tally(3, 0, 7)
	c.Reps[0].Readies = tally(1, 5, 8, 3, 5, 8)
	setLink(&c, 0, 1, []impl.Msg{deciding(7)})
	setLink(&c, 2, 0, []impl.Msg{readying(5, 8)})
	got, _ := wantFlush(t, c)
	if got.Reps[0].Done != 7 {
		t.Error(got.Reps[0])
	}
}

// What is sent on a link that had its turn waits for the next round.
func TestFlushAsksEachLinkOnceInARound(t *testing.T) {
	c := stuckCluster(4)
	c.Reps[2].Dones = tally(1, 0, 7)
	c.Reps[0].Dones = tally(1, 0, 7)
	c.Reps[0].Readies = tally(1, 5, 8, 2, 5, 8)
	setLink(&c, 3, 2, []impl.Msg{deciding(7)}) // 2 sends on its link to 0, which comes before this one
	setLink(&c, 3, 0, []impl.Msg{voting(3, 1), readying(5, 8)})
	got, _ := wantFlush(t, c)
	if got.Reps[0].Done != 7 { // in the second round 2 comes before 3
		t.Error(got.Reps[0])
	}
	setLink(&c, 3, 0, []impl.Msg{readying(5, 8)})
	if got, _ = wantFlush(t, c); got.Reps[0].Done != 8 { // in the first round
		t.Error(got.Reps[0])
	}
}

func TestFair(t *testing.T) {
	t.Parallel()
	for name, c := range scheduledClusters(t) {
		all := []int{0, 1, 60}
		if impl.Waiting(c) > 1000 { // these take long
			all = []int{4}
		}
		for _, rounds := range all {
			got, n := wantFair(t, c, rounds)
			if n > rounds {
				t.Error(name, rounds, n)
			}
			if n != -1 {
				if again, n := impl.Fair(got, rounds); n != 0 || !sameCluster(again, got) {
					t.Error(name, rounds, n, again)
				}
			}
		}
	}
}

func TestFairWithRounds0(t *testing.T) {
	c := started(t, 4, 3)
	got, n := wantFair(t, c, 0)
	flushed, _ := impl.Flush(c)
	wantCluster(t, got, n == 0, flushed, true)

	c = started(t, 4, 0) // nobody proposes, so that the timers alone go on
	got, n = wantFair(t, c, 0)
	for _, id := range []int{1, 2, 3} {
		c.Reps[id].Left = 2
	}
	wantCluster(t, got, n == -1, c, true)
}

// The last ticks come to a cluster whose messages have not been delivered yet.
func TestFairEndsWithTicks(t *testing.T) {
	c := started(t, 4, 0)
	got, n := wantFair(t, c, 2)
	if n != -1 || impl.Waiting(got) != 3*3 || !slices.Equal(impl.Views(got), []int{0, 1, 1, 1}) {
		t.Fatal(n, got)
	}
	for _, at := range linksOf(4) {
		if at[0] != 0 && !sameMsgs(onLink(got, at[0], at[1]), []impl.Msg{reporting(1)}) {
			t.Error(at, got)
		}
	}
}

// Until no view is left, each round is a tick of everybody.
func TestFairTicksInEachRound(t *testing.T) {
	for _, n := range []int{4, 7} {
		for _, faulty := range faultySets(n) {
			for _, rounds := range []int{0, 1, 2, 9, 10, 11, 12, 13, 60, 199, 200} {
				c := stuckCluster(n, faulty...)
				got, count := impl.Fair(c, rounds)
				for _, id := range impl.Honest(c) {
					c.Reps[id].Left = max(1, 12-(rounds+1))
				}
				wantCluster(t, got, count == -1, c, true)
			}
		}
	}
}

// With exactly the rounds that are needed a cluster decides, and with one fewer it does not.
func TestFairWithTheRoundsNeeded(t *testing.T) {
	t.Parallel()
	for _, n := range []int{4, 7} {
		for _, faulty := range faultySets(n) {
			for view := range 9 {
				// Without reports of their view, the next one is the first in which anything is proposed.
				next := firstHonest(n, view+1, faulty)
				if next > 9 {
					continue
				}
				need := ticksUpTo(view, next)
				c := idleCluster(n, view, faulty...)
				if view == 0 && !slices.Contains(faulty, 0) {
					c.Reps[0].Props = tally(0, 0, 9) // as if its proposal were lost
				}
				for _, rounds := range []int{need, need + 1, 200} {
					if got, count := wantFair(t, c, rounds); count != need || impl.Latest(got) != next {
						t.Error(n, faulty, view, rounds, count, got)
					}
				}
				if got, count := wantFair(t, c, need-1); count != -1 || impl.Decided(got) != 0 {
					t.Error(n, faulty, view, count, got)
				}
			}
		}
	}
}

func TestFairWithOneRound(t *testing.T) {
	c := started(t, 4, 0)
	for range 2 {
		for _, id := range impl.Honest(c) {
			c, _ = impl.Tick(c, id)
		}
	}
	if got, n := wantFair(t, c, 1); n != 1 || impl.Decided(got) != 3 || impl.Waiting(got) != 0 {
		t.Error(n, got)
	}
	if got, n := wantFair(t, c, 0); n != -1 || impl.Decided(got) != 0 {
		t.Error(n, got)
	}
}

func TestFairRefusesRounds(t *testing.T) {
	for _, c := range []impl.Cluster{started(t, 4), started(t, 7, 0), stuckCluster(4), busyCluster(7)} {
		for _, rounds := range []int{math.MinInt, -200, -2, -1, 201, 202, 256, 256 + 60, math.MaxInt} {
			if got, n := impl.Fair(c, rounds); n != -1 || !zeroCluster(got) {
				t.Error(rounds, n, got)
			}
		}
		for _, rounds := range []int{0, 1, 199, 200} {
			if got, _ := wantFair(t, c, rounds); zeroCluster(got) {
				t.Error(rounds)
			}
		}
	}
}

// Where all honest replicas have decided, their messages are delivered still, and no timer goes on.
func TestFairOfADecidedCluster(t *testing.T) {
	for _, n := range []int{4, 7} {
		for _, faulty := range faultySets(n) {
			c := idleCluster(n, 2, faulty...)
			for _, id := range impl.Honest(c) {
				c.Reps[id].Done = 7
			}
			for i, at := range linksOf(n) {
				setLink(&c, at[0], at[1], []impl.Msg{deciding(7), voting(2, 7)}[:i%3])
			}
			flushed, delivered := wantFlush(t, c)
			got, count := wantFair(t, c, 5)
			wantCluster(t, got, count == 0, flushed, true)
			if delivered == 0 || impl.Waiting(got) != 0 {
				t.Error(n, faulty, got)
			}
		}
	}
}

// Two decisions are an end, although they are different.
func TestFairOfADividedCluster(t *testing.T) {
	c := doneCluster(nil, 7, 8, 7, 8)
	got, n := wantFair(t, c, 3)
	wantCluster(t, got, n == 0, c, true)
}

// One honest replica that has not decided keeps the others waiting; a faulty one does not.
func TestFairWaitsForTheHonest(t *testing.T) {
	for _, n := range []int{4, 7} {
		for id := range n {
			c := stuckCluster(n, id)
			for other := range n {
				if other != id {
					c.Reps[other].Done = 7
				}
			}
			if got, count := wantFair(t, c, 0); count != 0 || !sameCluster(got, c) {
				t.Error(n, id, count)
			}
			c.Bad[id] = false
			if got, count := wantFair(t, c, 0); count != -1 || got.Reps[id].Left != 11 {
				t.Error(n, id, count)
			}
		}
	}
}

func TestFairTicksNoFaultyReplica(t *testing.T) {
	c := stuckCluster(7, 1, 4)
	c.Reps[1].Left, c.Reps[4].View, c.Reps[4].Left = 5, 3, 1
	got, n := wantFair(t, c, 20)
	wantRep(t, got.Reps[1], c.Reps[1])
	wantRep(t, got.Reps[4], c.Reps[4])
	if n != -1 || got.Reps[0].Left != 1 || impl.Waiting(got) != 0 {
		t.Error(n, got)
	}
}

func TestVerdict(t *testing.T) {
	for _, x := range []struct {
		faulty []int
		done   []int
		want   int
	}{
		{nil, []int{0, 0, 0, 0}, 0},
		{nil, []int{7, 7, 7, 7}, 7},
		{nil, []int{60, 0, 0, 0}, 60},
		{nil, []int{0, 0, 0, 1}, 1},
		{nil, []int{0, 0, 8, 8}, 8},
		{nil, []int{7, 0, 0, 8}, 0},
		{nil, []int{8, 8, 8, 7}, 0},
		{nil, []int{0, 8, 0, 7}, 0},
		{[]int{0}, []int{9, 7, 7, 7}, 7},
		{[]int{0}, []int{9, 0, 0, 7}, 7},
		{[]int{0}, []int{9, 0, 0, 0}, 0},
		{[]int{0}, []int{9, 0, 7, 9}, 0},
		{[]int{1}, []int{0, 9, 0, 4}, 4},
		{[]int{3}, []int{4, 4, 4, 9}, 4},
		{[]int{3}, []int{0, 0, 0, 9}, 0},
		{nil, []int{0, 0, 0, 0, 0, 0, 5}, 5},
		{nil, []int{0, 5, 0, 5, 0, 0, 6}, 0},
		{[]int{0, 1}, []int{9, 8, 0, 0, 5, 5, 0}, 5},
		{[]int{0, 1}, []int{9, 9, 0, 0, 0, 0, 0}, 0},
		{[]int{2, 6}, []int{0, 3, 9, 3, 3, 3, 9}, 3},
		{[]int{2, 6}, []int{0, 3, 9, 3, 3, 4, 9}, 0},
	} {
		c := doneCluster(x.faulty, x.done...)
		if val, ok := impl.Verdict(c); val != x.want || ok != (x.want != 0) {
			t.Error(x, val, ok)
		}
	}
}

func TestViews(t *testing.T) {
	for _, l := range [][]int{{0, 0, 0, 0}, {9, 8, 7, 6}, {0, 1, 2, 9}, {0, 9, 3, 3, 1, 4, 5}, {2, 2, 2, 2, 2, 2, 1}} {
		for _, faulty := range faultySets(len(l)) {
			c := idleCluster(len(l), 0, faulty...)
			for id, view := range l {
				c.Reps[id] = idle(len(l), id, view)
			}
			if got := impl.Views(c); !slices.Equal(got, l) {
				t.Error(faulty, l, got)
			}
		}
	}
}

// If the first leader is honest, what it proposes is decided at once; otherwise what the first honest leader does.
func TestTheFirstHonestLeaderDecides(t *testing.T) {
	for _, n := range []int{4, 7} {
		for _, faulty := range faultySets(n) {
			view := firstHonest(n, 0, faulty)
			need := ticksUpTo(0, view)
			for _, owns := range [][]int{ownsOf(n), slices.Repeat([]int{60}, n), append([]int{60, 1}, ownsOf(n)[2:]...)} {
				c, ok := impl.ClusterNew(owns, flagsOf(n, faulty...))
				got, count := wantFair(t, c, 60)
				val, decided := impl.Verdict(got)
				if !ok || count != need || !decided || val != owns[view] || impl.Decided(got) != n-len(faulty) || impl.Latest(got) != view {
					t.Error(n, faulty, owns, count, val, got)
				}
				if !slices.Contains(faulty, 0) && (count != 0 || val != owns[0]) {
					t.Error(n, faulty, owns, count, val)
				}
				wantAgreement(t, got)
			}
		}
	}
}

// All honest replicas come into a view by their timers, while all that they send is on its way.
func TestFairFromEachView(t *testing.T) {
	t.Parallel()
	for _, n := range []int{4, 7} {
		for _, faulty := range faultySets(n) {
			for view := range 5 {
				c, _ := wantFlush(t, ticked(t, started(t, n, faulty...), view))
				if at, ok := inOneView(c); !ok || at != view {
					t.Fatal(n, faulty, view, c)
				}
				next := firstHonest(n, view, faulty)
				got, count := wantFair(t, c, 60)
				val, ok := impl.Verdict(got)
				if count != ticksUpTo(view, next) || !ok || val != 10+next%n || impl.Decided(got) != n-len(faulty) {
					t.Error(n, faulty, view, count, val, got)
				}
				wantAgreement(t, got)
			}
		}
	}
}

func TestInvalidClustersHaveNoSchedule(t *testing.T) {
	for name, c := range invalidClusters() {
		if got, n := impl.Flush(c); n != -1 || !zeroCluster(got) {
			t.Error(name, "Flush", n)
		}
		for _, rounds := range []int{-1, 0, 1, 60, 200, 201} {
			if got, n := impl.Fair(c, rounds); n != -1 || !zeroCluster(got) {
				t.Error(name, "Fair", rounds, n)
			}
		}
		if val, ok := impl.Verdict(c); ok || val != 0 {
			t.Error(name, "Verdict", val, ok)
		}
		if l := impl.Views(c); len(l) != 0 {
			t.Error(name, "Views", l)
		}
	}
}

// A decision does not make an invalid cluster have a verdict.
func TestVerdictOfInvalidClusters(t *testing.T) {
	for name, c := range invalidClusters() {
		if len(c.Reps) > 100 {
			continue
		}
		decided := changedCluster(c, func(c *impl.Cluster) {
			for id := range c.Reps {
				if c.Reps[id].Done == 0 {
					c.Reps[id].Done = 7
				}
			}
		})
		if val, ok := impl.Verdict(decided); ok || val != 0 {
			t.Error(name, val, ok)
		}
		if got, n := impl.Fair(decided, 1); n != -1 || !zeroCluster(got) {
			t.Error(name, n)
		}
	}
}
