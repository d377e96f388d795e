package tests

import (
	"math"
	"math/rand"
	"slices"
	"sync"
	"testing"

	"loop.example/g03307/impl"
)

// setWith is the set of these places, as a sum of powers of 2.
func setWith(places ...int) int {
	sum := 0
	for _, place := range places {
		power := 1
		for range place {
			power *= 2
		}
		sum += power
	}
	return sum
}

// allPlaces is the set of all places of a net.
func allPlaces(n impl.Net) int {
	return setWith(n.Places) - 1
}

// wrongSets are numbers that are not sets of places of a valid net. Some of them end like a set.
func wrongSets(n impl.Net) []int {
	next := setWith(n.Places)
	return []int{math.MinInt, math.MinInt + 1, -next, 1 - next, -3, -2, -1, next, next + 1, next + 2, 2*next - 1, 2 * next, 511, 1<<32 + 1, 1<<62 + 1, math.MaxInt - 1, math.MaxInt}
}

// eachPair visits all pairs of different places.
func eachPair(n impl.Net, visit func(from int, to int)) {
	for from := range n.Places {
		for to := range n.Places {
			if from != to {
				visit(from, to)
			}
		}
	}
}

// equalRow leads from each place to the next one, by pipes of the same Width: each part of it from its begin on is a narrowest cut.
func equalRow(places int) impl.Net {
	n := rowNet(places)
	for k := range n.Pipes {
		n.Pipes[k].Width = 5
	}
	return n
}

// besideEach leads from 0 to 3 on two ways, and from there on by a pipe that is as wide as each of both.
func besideEach() impl.Net {
	return net(5, pipe(0, 1, 5), pipe(0, 2, 5), pipe(1, 3, 5), pipe(2, 3, 5), pipe(3, 4, 5))
}

// ledBack leads from 0 to 3, and by wider pipes back from each place to the one before.
func ledBack() impl.Net {
	return net(4, pipe(1, 0, 700), pipe(0, 1, 6), pipe(2, 1, 800), pipe(1, 2, 4), pipe(3, 2, 900), pipe(2, 3, 5))
}

func cutNets() []impl.Net {
	nets := []impl.Net{besideEach(), reversed(besideEach()), ledBack(), reversed(ledBack())}
	for places := 2; places <= 8; places++ {
		nets = append(nets, equalRow(places))
	}
	return append(nets, flowNets()...)
}

// eachValidFlow visits all flows of a net from one place to another.
func eachValidFlow(n impl.Net, from int, to int, visit func(flow []int)) {
	eachFlow(n, 0, func(flow []int) {
		if plainFlowOk(n, flow, from, to) {
			visit(flow)
		}
	})
}

// plainIsCut is what IsCut must return for a valid net, two places and a set.
func plainIsCut(set int, from int, to int) bool {
	return hasPlace(set, from) && !hasPlace(set, to)
}

// plainCutOf is what CutOf must return for a flow: places are added as long as a pipe leads to another one.
func plainCutOf(n impl.Net, flow []int, from int) int {
	set := setWith(from)
	for {
		before := set
		for at := range n.Places {
			for k := range n.Pipes {
				next, _, open := stepFrom(n, flow, at, k)
				if open && hasPlace(set, at) && !hasPlace(set, next) {
					set += setWith(next)
				}
			}
		}
		if set == before {
			return set
		}
	}
}

// plainNeeded is what NeededPipes must return for two different places.
func plainNeeded(n impl.Net, from int, to int) []int {
	least, _ := leastLeaving(n, from, to)
	var needed []int
	for k := range n.Pipes {
		if left, _ := leastLeaving(net(n.Places, slices.Delete(slices.Clone(n.Pipes), k, k+1)...), from, to); left < least {
			needed = append(needed, k)
		}
	}
	return needed
}

func TestCutWidth(t *testing.T) {
	all := []int{0, 1, 2, 3, 4, 5, 6, 7}
	cases := []struct {
		name   string
		n      impl.Net
		places []int
		width  int
	}{
		{"one place", threeWays(), []int{0}, 9},
		{"another place", threeWays(), []int{1}, 5},
		{"a place without a pipe out of it", threeWays(), []int{3}, 0},
		{"the greatest place", threeWays(), []int{4}, 9},
		{"a pipe within the set does not count", threeWays(), []int{0, 1}, 9},
		{"two other places", threeWays(), []int{1, 2}, 8},
		{"three places", threeWays(), []int{0, 1, 2}, 8},
		{"two places that no pipe connects", threeWays(), []int{0, 3}, 9},
		{"all places but the last of the ways", threeWays(), []int{0, 1, 2, 4}, 17},
		{"all pipes lead within the set or into it", threeWays(), []int{1, 2, 3}, 0},
		{"the set 0", threeWays(), nil, 0},
		{"the set of all places", threeWays(), []int{0, 1, 2, 3, 4}, 0},
		{"a circle", throughCircle(), []int{1, 2, 3}, 6},
		{"another circle", throughCircle(), []int{5, 6}, 3},
		{"both circles", throughCircle(), []int{1, 2, 3, 5, 6}, 6},
		{"a pipe that leads back counts nothing", ledBack(), []int{0}, 6},
		{"the pipe that leads back, seen from its begin", ledBack(), []int{3}, 900},
		{"pipes back within the set and into it", ledBack(), []int{0, 1}, 4},
		{"pipes back within the set and out of it", ledBack(), []int{1, 2}, 705},
		{"pipes back out of each place of the set", ledBack(), []int{1, 3}, 1604},
		{"two pipes in the same direction", net(2, pipe(0, 1, 3), pipe(0, 1, 7)), []int{0}, 10},
		{"two pipes in the same direction, against them", net(2, pipe(0, 1, 3), pipe(0, 1, 7)), []int{1}, 0},
		{"two equal pipes", samePipes(2, 7), []int{0}, 14},
		{"two pipes in opposite directions", net(2, pipe(0, 1, 3), pipe(1, 0, 7)), []int{0}, 3},
		{"two pipes in opposite directions, the other way", net(2, pipe(0, 1, 3), pipe(1, 0, 7)), []int{1}, 7},
		{"two pipes in opposite directions, within the set", net(3, pipe(0, 1, 3), pipe(1, 0, 7)), []int{0, 1}, 0},
		{"every other place of a row", rowNet(8), []int{0, 2, 4, 6}, 16},
		{"the other ones", rowNet(8), []int{1, 3, 5, 7}, 12},
		{"the end of a row", rowNet(8), []int{7}, 0},
		{"a circle of all eight without its last place", circleNet(8), []int{0, 1, 2, 3, 4, 5, 6}, 7},
		{"the last place of a circle of all eight", circleNet(8), []int{7}, 8},
		{"all eight", circleNet(8), all, 0},
		{"none of eight", circleNet(8), nil, 0},
		{"without pipes", net(5), []int{1, 3}, 0},
		{"the least Width", samePipes(1, 1), []int{0}, 1},
		{"the greatest Width", samePipes(1, 1000), []int{0}, 1000},
		{"20 pipes of the greatest Width", samePipes(20, 1000), []int{0}, 20000},
		{"20 pipes of the greatest Width, against them", samePipes(20, 1000), []int{1}, 0},
		{"20 pipes of the greatest Width, within the set", samePipes(20, 1000), []int{0, 1}, 0},
		{"20 pipes", fullNet(), []int{0}, 28},
		{"20 pipes, and all places but one", fullNet(), []int{0, 2, 3, 4, 5, 6, 7}, 1071},
	}
	for _, c := range cases {
		if width := impl.CutWidth(c.n, setWith(c.places...)); width != c.width {
			t.Errorf("%s: %d", c.name, width)
		}
	}
}

// TestWidthsOfAllSets adds the pipes of each set up. The net that is turned leads out of all other places into the set.
func TestWidthsOfAllSets(t *testing.T) {
	random := rand.New(rand.NewSource(24))
	for _, n := range slices.Concat(cutNets(), smallNets(), tinyNets(), someNets(random)) {
		turned, all := impl.TurnNet(n), allPlaces(n)
		for set := range all + 1 {
			width := impl.CutWidth(n, set)
			if want := widthLeaving(n, set); width != want {
				t.Errorf("CutWidth(%v, %d): %d instead of %d", n, set, width, want)
			}
			if back := impl.CutWidth(turned, all-set); back != width {
				t.Errorf("CutWidth(%v, %d): %d, and turned %d", n, set, width, back)
			}
		}
		for place := range n.Places {
			if width, out := impl.CutWidth(n, setWith(place)), impl.OutOf(n, place); width != out {
				t.Errorf("%v has %d out of place %d, and around it the width %d", n, out, place, width)
			}
		}
	}
}

// TestSetsWithoutPipes checks that each set of a net without pipes has the width 0, each cut is proved by no flow at all, and no pipe is needed.
func TestSetsWithoutPipes(t *testing.T) {
	for places := 2; places <= 8; places++ {
		n := net(places)
		for set := range allPlaces(n) + 1 {
			if width := impl.CutWidth(n, set); width != 0 {
				t.Errorf("CutWidth(%v, %d): %d", n, set, width)
			}
			eachPair(n, func(from int, to int) {
				if proved := impl.ProvesGreatest(n, nil, set, from, to); proved != plainIsCut(set, from, to) {
					t.Errorf("ProvesGreatest(%v, nil, %d, %d, %d): %v", n, set, from, to, proved)
				}
			})
		}
		eachPair(n, func(from int, to int) {
			if set := impl.NarrowestCut(n, from, to); set != setWith(from) {
				t.Errorf("NarrowestCut(%v, %d, %d): %d", n, from, to, set)
			}
			if set := impl.CutOf(n, nil, from, to); set != setWith(from) {
				t.Errorf("CutOf(%v, nil, %d, %d): %d", n, from, to, set)
			}
			if pipes := impl.NeededPipes(n, from, to); len(pipes) != 0 {
				t.Errorf("NeededPipes(%v, %d, %d): %v", n, from, to, pipes)
			}
		})
	}
}

func TestIsCut(t *testing.T) {
	cases := []struct {
		name     string
		n        impl.Net
		set      int
		from, to int
		cut      bool
	}{
		{"from alone", threeWays(), setWith(0), 0, 3, true},
		{"all but to", threeWays(), setWith(0, 1, 2, 4), 0, 3, true},
		{"other places too", threeWays(), setWith(0, 2), 0, 3, true},
		{"both ends", threeWays(), setWith(0, 3), 0, 3, false},
		{"none of both ends", threeWays(), setWith(1, 2), 0, 3, false},
		{"only to", threeWays(), setWith(3), 0, 3, false},
		{"to and others", threeWays(), setWith(1, 2, 3), 0, 3, false},
		{"only to, which is a cut the other way", threeWays(), setWith(3), 3, 0, true},
		{"the set 0", threeWays(), 0, 0, 3, false},
		{"the set of all places", threeWays(), 31, 0, 3, false},
		{"the set after the last one, which ends like a cut", threeWays(), 33, 0, 3, false},
		{"a negative set, which ends like a cut", threeWays(), -31, 0, 3, false},
		{"from is to, and in the set", threeWays(), setWith(0), 0, 0, false},
		{"from is to, and not in the set", threeWays(), setWith(1), 0, 0, false},
		{"a from of -1", threeWays(), setWith(0), -1, 3, false},
		{"a from of Places", threeWays(), setWith(0), 5, 3, false},
		{"a to of -1", threeWays(), setWith(0), 0, -1, false},
		{"a to of Places", threeWays(), setWith(0), 0, 5, false},
		{"a to of 64", threeWays(), setWith(0), 0, 64, false},
		{"no way to to", threeWays(), setWith(3), 3, 4, true},
		{"without pipes", net(2), setWith(1), 1, 0, true},
		{"without pipes, and both ends", net(2), setWith(0, 1), 1, 0, false},
		{"the greatest of eight places", fullNet(), setWith(7), 7, 6, true},
		{"all but the greatest of eight places", fullNet(), 127, 6, 7, true},
		{"all of eight places", fullNet(), 255, 6, 7, false},
		{"a net that is not valid", samePipes(21, 5), setWith(0), 0, 1, false},
	}
	for _, c := range cases {
		if cut := impl.IsCut(c.n, c.set, c.from, c.to); cut != c.cut {
			t.Errorf("%s: %v", c.name, cut)
		}
	}
}

func TestAllCuts(t *testing.T) {
	for _, n := range append(cutNets(), tinyNets()...) {
		for set := range allPlaces(n) + 1 {
			for from := range n.Places {
				for to := range n.Places {
					if cut := impl.IsCut(n, set, from, to); cut != plainIsCut(set, from, to) {
						t.Errorf("IsCut(%v, %d, %d, %d): %v", n, set, from, to, cut)
					}
				}
			}
		}
	}
}

type cutCase struct {
	name     string
	n        impl.Net
	from, to int
	places   []int
	width    int
}

// narrowestCuts are nets with the places and the width that the narrowest cut must have.
func narrowestCuts() []cutCase {
	rowDown := impl.TurnNet(equalRow(8))
	return []cutCase{
		{"three ways", threeWays(), 0, 3, []int{0, 1, 2}, 8},
		{"to a place between, and a place that leads nowhere", threeWays(), 0, 2, []int{0, 1, 3}, 7},
		{"from a place between", threeWays(), 1, 3, []int{1}, 5},
		{"from a place that no water reaches", threeWays(), 4, 3, []int{4}, 9},
		{"several narrowest cuts: from alone", equalRow(4), 0, 3, []int{0}, 5},
		{"several narrowest cuts, in a row down from the greatest place", rowDown, 7, 0, []int{7}, 5},
		{"several narrowest cuts, down from a place between", rowDown, 3, 1, []int{3}, 5},
		{"several narrowest cuts after a wide pipe", net(4, pipe(0, 1, 9), pipe(1, 2, 5), pipe(2, 3, 5)), 0, 3, []int{0, 1}, 5},
		{"several narrowest cuts around a wide pipe", net(4, pipe(0, 1, 5), pipe(1, 2, 9), pipe(2, 3, 5)), 0, 3, []int{0}, 5},
		{"several narrowest cuts, and a wide pipe at the end", net(4, pipe(0, 1, 5), pipe(1, 2, 5), pipe(2, 3, 9)), 0, 3, []int{0}, 5},
		{"several narrowest cuts on each of two ways", net(6, pipe(0, 1, 3), pipe(1, 2, 3), pipe(2, 5, 3), pipe(0, 3, 4), pipe(3, 4, 4), pipe(4, 5, 4)), 0, 5, []int{0}, 7},
		{"several narrowest cuts behind two wide ways", net(5, pipe(0, 1, 9), pipe(0, 2, 9), pipe(1, 3, 2), pipe(2, 3, 2), pipe(3, 4, 4)), 0, 4, []int{0, 1, 2}, 4},
		{"two ways that one pipe is as wide as", besideEach(), 0, 4, []int{0, 1, 2, 3}, 5},
		{"the last pipe is the narrowest one", net(4, pipe(0, 1, 9), pipe(1, 2, 8), pipe(2, 3, 5)), 0, 3, []int{0, 1, 2}, 5},
		{"a wide way that ends nowhere", net(4, pipe(0, 1, 5), pipe(0, 3, 7)), 0, 1, []int{0, 3}, 5},
		{"a place of a greater number", net(8, pipe(0, 7, 9), pipe(7, 1, 2)), 0, 1, []int{0, 7}, 2},
		{"a place of a lesser number", net(8, pipe(7, 0, 9), pipe(0, 6, 2)), 7, 6, []int{0, 7}, 2},
		{"pipes that lead back", ledBack(), 0, 3, []int{0, 1}, 4},
		{"pipes that lead back, the other way", ledBack(), 3, 0, []int{1, 2, 3}, 700},
		{"two pipes in the same direction", net(3, pipe(0, 1, 3), pipe(0, 1, 7), pipe(1, 2, 9)), 0, 2, []int{0, 1}, 9},
		{"two pipes in the same direction that are as wide together as the next one", net(3, pipe(0, 1, 3), pipe(0, 1, 7), pipe(1, 2, 10)), 0, 2, []int{0}, 10},
		{"two pipes in opposite directions", net(2, pipe(0, 1, 3), pipe(1, 0, 7)), 0, 1, []int{0}, 3},
		{"two pipes in opposite directions, the other way", net(2, pipe(0, 1, 3), pipe(1, 0, 7)), 1, 0, []int{1}, 7},
		{"without pipes", net(5), 2, 4, []int{2}, 0},
		{"eight places without pipes", net(8), 7, 0, []int{7}, 0},
		{"without a way back", threeWays(), 3, 0, []int{3}, 0},
		{"without a way, though other places are reached", threeWays(), 0, 4, []int{0, 1, 2, 3}, 0},
		{"without a way, as the pipe between leads back", net(4, pipe(0, 1, 5), pipe(2, 1, 5), pipe(2, 3, 5)), 0, 3, []int{0, 1}, 0},
		{"two places", samePipes(1, 4), 0, 1, []int{0}, 4},
		{"20 pipes of the greatest Width", samePipes(20, 1000), 0, 1, []int{0}, 20000},
		{"20 pipes of the greatest Width, against them", samePipes(20, 1000), 1, 0, []int{1}, 0},
		{"a circle of all eight", circleNet(8), 7, 6, []int{0, 7}, 1},
		{"through a circle", throughCircle(), 0, 4, []int{0, 1, 2, 3}, 6},
		{"20 pipes", fullNet(), 0, 1, []int{0}, 28},
		{"a part of a pipe is given up", backOnce(), 0, 7, []int{0}, 5},
	}
}

func TestNarrowestCut(t *testing.T) {
	for _, c := range narrowestCuts() {
		set := impl.NarrowestCut(c.n, c.from, c.to)
		if set != setWith(c.places...) {
			t.Errorf("%s: %d", c.name, set)
		}
		if width := impl.CutWidth(c.n, set); width != c.width {
			t.Errorf("%s: a width of %d", c.name, width)
		}
		if size := impl.GreatestFlow(c.n, c.from, c.to); size != c.width {
			t.Errorf("%s: a greatest flow of %d", c.name, size)
		}
	}
}

// checkNarrowest is promise 10, for one net and two places: the greatest flow is as wide as the narrowest cut, and this cut proves it.
// It returns the number of narrowest cuts.
func checkNarrowest(t *testing.T, n impl.Net, from int, to int) int {
	t.Helper()
	least, first := leastLeaving(n, from, to)
	set := impl.NarrowestCut(n, from, to)
	if width := impl.CutWidth(n, set); set != first || width != least || !impl.IsCut(n, set, from, to) {
		t.Errorf("NarrowestCut(%v, %d, %d): %d of the width %d, and %d has the width %d", n, from, to, set, width, first, least)
	}
	flow, _ := impl.FindFlow(n, from, to)
	if size := impl.GreatestFlow(n, from, to); size != least || !impl.ProvesGreatest(n, flow, set, from, to) {
		t.Errorf("%v has from %d to %d a flow of %d, and a cut of the width %d", n, from, to, size, least)
	}
	if got := impl.CutOf(n, flow, from, to); got != plainCutOf(n, flow, from) || got != set {
		t.Errorf("CutOf(%v, %v, %d, %d): %d, and the narrowest cut is %d", n, flow, from, to, got, set)
	}
	narrowest := 0
	for other := range allPlaces(n) + 1 {
		if !plainIsCut(other, from, to) || widthLeaving(n, other) > least {
			continue
		}
		narrowest++
		// Each narrowest cut proves the same flow.
		if other < set || !impl.ProvesGreatest(n, flow, other, from, to) {
			t.Errorf("%v has from %d to %d the cut %d, and %d is as narrow", n, from, to, set, other)
		}
	}
	return narrowest
}

func TestGreatestFlowsAndNarrowestCuts(t *testing.T) {
	random := rand.New(rand.NewSource(25))
	several := 0
	for _, n := range slices.Concat(cutNets(), smallNets(), tinyNets(), someNets(random), someBackNets(random, 30)) {
		eachPair(n, func(from int, to int) {
			if checkNarrowest(t, n, from, to) > 1 && impl.GreatestFlow(n, from, to) > 0 {
				several++
			}
		})
	}
	if several < 1000 {
		t.Errorf("there are several narrowest cuts %d times only", several)
	}
}

// TestSeveralNarrowestCuts checks a row of which each part from its begin on is a narrowest cut, with its places in all orders.
func TestSeveralNarrowestCuts(t *testing.T) {
	eachList(4, 0, 3, func(order []int) {
		// Only four different places have this sum.
		if setWith(order...) != 15 {
			return
		}
		n := net(4, pipe(order[0], order[1], 5), pipe(order[1], order[2], 5), pipe(order[2], order[3], 5))
		for from := range 3 {
			for to := from + 1; to < 4; to++ {
				if set := impl.NarrowestCut(n, order[from], order[to]); set != setWith(order[from]) {
					t.Errorf("NarrowestCut(%v, %d, %d): %d", n, order[from], order[to], set)
				}
				for last := from; last < to; last++ {
					if width := impl.CutWidth(n, setWith(order[from:last+1]...)); width != 5 {
						t.Errorf("CutWidth(%v, %v): %d", n, order[from:last+1], width)
					}
				}
			}
		}
	})
}

// TestNarrowestCutsBesideLesserFlows checks that the places which a lesser flow leaves a way to are not the narrowest cut.
func TestNarrowestCutsBesideLesserFlows(t *testing.T) {
	n := equalRow(4)
	for liters := range 6 {
		want := setWith(0, 1, 2, 3)
		if liters == 5 {
			want = setWith(0)
		}
		flow := slices.Repeat([]int{liters}, 3)
		if set, narrowest := impl.CutOf(n, flow, 0, 3), impl.NarrowestCut(n, 0, 3); set != want || narrowest != setWith(0) {
			t.Errorf("%d liters: %d, and the narrowest cut is %d", liters, set, narrowest)
		}
	}
}

type cutOfCase struct {
	name     string
	n        impl.Net
	flow     []int
	from, to int
	places   []int
}

// reachedPlaces are flows with the places that CutOf must find.
func reachedPlaces() []cutOfCase {
	all := []int{0, 1, 2, 3, 4, 5, 6, 7}
	around := net(4, pipe(0, 1, 5), pipe(1, 2, 5), pipe(0, 2, 9), pipe(2, 3, 5))
	beside := net(4, pipe(0, 1, 5), pipe(1, 2, 5), pipe(1, 3, 4), pipe(0, 2, 9), pipe(2, 3, 5))
	emptyBeside := net(4, pipe(0, 1, 4), pipe(1, 2, 5), pipe(1, 3, 4), pipe(0, 2, 9), pipe(2, 3, 5))
	both := net(2, pipe(0, 1, 3), pipe(1, 0, 7))
	return []cutOfCase{
		{"a greatest flow", threeWays(), []int{4, 4, 2, 2, 6, 0}, 0, 3, []int{0, 1, 2}},
		{"a greatest flow in other pipes", threeWays(), []int{5, 3, 3, 2, 6, 0}, 0, 3, []int{0, 1, 2}},
		{"a greatest flow beside others", threeWays(), []int{0, 0, 0, 0, 0, 9}, 4, 3, []int{4}},
		{"a flow that is not a greatest one", threeWays(), []int{2, 0, 0, 2, 0, 0}, 0, 3, []int{0, 1, 2, 3}},
		{"a liter less than a greatest flow", threeWays(), []int{3, 4, 1, 2, 5, 0}, 0, 3, []int{0, 1, 2, 3}},
		{"a flow of size 0", threeWays(), make([]int, 6), 0, 3, []int{0, 1, 2, 3}},
		{"a flow of size 0 from a place that no water reaches", threeWays(), make([]int, 6), 4, 3, []int{3, 4}},
		{"a flow of size 0 without a way", threeWays(), make([]int, 6), 0, 4, []int{0, 1, 2, 3}},
		{"a flow of size 0 from the end", threeWays(), make([]int, 6), 3, 0, []int{3}},
		{"a flow of size 0 from a place between", equalRow(8), make([]int, 7), 5, 7, []int{5, 6, 7}},
		{"a place that is reached backward alone", around, []int{5, 5, 0, 5}, 0, 3, []int{0, 1, 2}},
		{"the same place, when no water is in the pipe", around, []int{5, 0, 0, 0}, 0, 1, []int{0, 2, 3}},
		{"a place that is reached backward along a liter", beside, []int{5, 1, 4, 4, 5}, 0, 3, []int{0, 1, 2}},
		{"the same place behind a full pipe, when no water is in the other one", emptyBeside, []int{4, 0, 4, 5, 5}, 0, 3, []int{0, 2}},
		{"a way that goes back in the middle", backOnce(), []int{3, 3, 3, 0, 0, 0, 0, 0, 0}, 0, 7, all},
		{"when the middle has been given up", backOnce(), []int{3, 1, 3, 2, 2, 2, 2, 2, 2}, 0, 7, []int{0}},
		{"back along two pipes", net(5, pipe(0, 1, 2), pipe(1, 2, 2), pipe(2, 3, 2), pipe(0, 3, 9), pipe(3, 4, 2)), []int{2, 2, 2, 0, 2}, 0, 4, []int{0, 1, 2, 3}},
		{"a full pipe", samePipes(1, 4), []int{4}, 0, 1, []int{0}},
		{"a pipe with room for a liter", samePipes(1, 4), []int{3}, 0, 1, []int{0, 1}},
		{"an empty pipe", samePipes(1, 4), []int{0}, 0, 1, []int{0, 1}},
		{"against an empty pipe", samePipes(1, 4), []int{0}, 1, 0, []int{1}},
		{"against a pipe with a liter", samePipes(1, 4), []int{1}, 1, 0, []int{0, 1}},
		{"against a full pipe", samePipes(1, 4), []int{4}, 1, 0, []int{0, 1}},
		{"the first one of two pipes has room", net(2, pipe(0, 1, 3), pipe(0, 1, 7)), []int{2, 7}, 0, 1, []int{0, 1}},
		{"the last one of two pipes has room", net(2, pipe(0, 1, 3), pipe(0, 1, 7)), []int{3, 6}, 0, 1, []int{0, 1}},
		{"none of two pipes has room", net(2, pipe(0, 1, 3), pipe(0, 1, 7)), []int{3, 7}, 0, 1, []int{0}},
		{"nothing comes back", both, []int{3, 0}, 0, 1, []int{0}},
		{"something comes back", both, []int{3, 2}, 0, 1, []int{0, 1}},
		{"more comes back", both, []int{1, 2}, 0, 1, []int{0, 1}},
		{"all that comes back", both, []int{3, 7}, 0, 1, []int{0, 1}},
		{"a circle of water, against which all can be reached", net(4, pipe(0, 1, 5), pipe(1, 2, 5), pipe(2, 3, 5), pipe(3, 0, 5)), []int{5, 5, 5, 5}, 0, 2, []int{0, 1, 2, 3}},
		{"a circle of water that cannot be reached", net(5, pipe(0, 4, 1), pipe(1, 2, 5), pipe(2, 3, 5), pipe(3, 1, 5)), []int{1, 3, 3, 3}, 0, 4, []int{0}},
		{"pipes that lead back have no water", ledBack(), []int{0, 4, 0, 4, 0, 4}, 0, 3, []int{0, 1}},
		{"a pipe that leads back into from has water", ledBack(), []int{2, 6, 0, 4, 0, 4}, 0, 3, []int{0, 1}},
		{"two pipes that lead back have water", ledBack(), []int{4, 6, 2, 4, 0, 2}, 0, 3, []int{0, 1, 2, 3}},
		{"without pipes", net(5), nil, 3, 1, []int{3}},
		{"two places without pipes", net(2), nil, 1, 0, []int{1}},
		{"eight places without pipes", net(8), nil, 7, 0, []int{7}},
		{"20 full pipes of the greatest Width", samePipes(20, 1000), slices.Repeat([]int{1000}, 20), 0, 1, []int{0}},
		{"20 pipes of which the last one has room", samePipes(20, 1000), append(slices.Repeat([]int{1000}, 19), 999), 0, 1, []int{0, 1}},
		{"a long row", equalRow(8), []int{5, 5, 5, 5, 5, 5, 5}, 0, 7, []int{0}},
		{"a long row with room", equalRow(8), []int{4, 4, 4, 4, 4, 4, 4}, 0, 7, all},
		{"a row of which the first pipe has no room", rowNet(8), []int{1, 1, 1, 1, 1, 1, 1}, 0, 7, []int{0}},
		{"a row of which the last pipe has no room", impl.TurnNet(rowNet(8)), []int{1, 1, 1, 1, 1, 1, 1}, 7, 0, []int{1, 2, 3, 4, 5, 6, 7}},
		{"20 pipes", fullNet(), []int{1, 0, 2, 0, 9, 3, 0, 7, 4, 0, 4, 5, 5, 0, 6, 11, 0, 7, 18, 0}, 0, 1, []int{0}},
	}
}

func TestCutOf(t *testing.T) {
	for _, c := range reachedPlaces() {
		if !impl.FlowOk(c.n, c.flow, c.from, c.to) {
			t.Errorf("%s: not a flow", c.name)
		}
		set := impl.CutOf(c.n, c.flow, c.from, c.to)
		if set != setWith(c.places...) {
			t.Errorf("%s: %d", c.name, set)
		}
		// The set is a cut only for a greatest flow, and proves it then.
		greatest := impl.FlowSize(c.n, c.flow, c.from, c.to) == impl.GreatestFlow(c.n, c.from, c.to)
		if impl.IsCut(c.n, set, c.from, c.to) != greatest || impl.ProvesGreatest(c.n, c.flow, set, c.from, c.to) != greatest {
			t.Errorf("%s: %d proves something else than %v", c.name, set, greatest)
		}
	}
}

// checkAllProofs holds each flow against each set: no flow is greater than a cut is wide, and those that are equal prove each other.
func checkAllProofs(t *testing.T, n impl.Net, from int, to int) {
	t.Helper()
	least, first := leastLeaving(n, from, to)
	eachValidFlow(n, from, to, func(flow []int) {
		size := plainFlowSize(n, flow, from, to)
		reached := impl.CutOf(n, flow, from, to)
		if want := plainCutOf(n, flow, from); reached != want {
			t.Errorf("CutOf(%v, %v, %d, %d): %d instead of %d", n, flow, from, to, reached, want)
		}
		if plainIsCut(reached, from, to) != (size == least) || size == least && reached != first {
			t.Errorf("CutOf(%v, %v, %d, %d): %d for a flow of %d", n, flow, from, to, reached, size)
		}
		for set := range allPlaces(n) + 1 {
			width := impl.CutWidth(n, set)
			cut := plainIsCut(set, from, to)
			if proved := impl.ProvesGreatest(n, flow, set, from, to); proved != (cut && size == widthLeaving(n, set)) {
				t.Errorf("ProvesGreatest(%v, %v, %d, %d, %d): %v", n, flow, set, from, to, proved)
			}
			if cut && size > width {
				t.Errorf("%v has from %d to %d a flow of %d, and the cut %d of the width %d", n, from, to, size, set, width)
			}
		}
	})
}

func TestAllProofs(t *testing.T) {
	for _, n := range slices.Concat(smallNets(), tinyNets()) {
		eachPair(n, func(from int, to int) { checkAllProofs(t, n, from, to) })
	}
}

func TestProvesGreatest(t *testing.T) {
	greatest := []int{4, 4, 2, 2, 6, 0}
	both := net(2, pipe(0, 1, 3), pipe(0, 1, 7), pipe(1, 0, 5))
	cases := []struct {
		name     string
		n        impl.Net
		flow     []int
		set      int
		from, to int
		proved   bool
	}{
		{"a greatest flow and a narrowest cut", threeWays(), greatest, setWith(0, 1, 2), 0, 3, true},
		{"another greatest flow", threeWays(), []int{5, 3, 3, 2, 6, 0}, setWith(0, 1, 2), 0, 3, true},
		{"a wider cut", threeWays(), greatest, setWith(0), 0, 3, false},
		{"another wider cut", threeWays(), greatest, setWith(0, 2), 0, 3, false},
		{"a set of the same width that is not a cut", threeWays(), greatest, setWith(1, 2), 0, 3, false},
		{"a lesser flow", threeWays(), []int{3, 4, 1, 2, 5, 0}, setWith(0, 1, 2), 0, 3, false},
		{"a flow of size 0", threeWays(), make([]int, 6), setWith(0, 1, 2), 0, 3, false},
		{"a flow of size 0 without a way", threeWays(), make([]int, 6), setWith(3), 3, 0, true},
		{"a flow of size 0 without a way, and a cut of the width 0 with other places", threeWays(), make([]int, 6), setWith(1, 2, 3), 3, 0, true},
		{"a flow of size 0 without a way, and a cut that is wider", threeWays(), make([]int, 6), setWith(3, 4, 1), 3, 0, false},
		{"a flow of size 0 without a way, and the set of all places", threeWays(), make([]int, 6), 31, 3, 0, false},
		{"a flow of size 0 without a way, and the set 0", threeWays(), make([]int, 6), 0, 3, 0, false},
		{"a flow of size 0 without a way, and a set of both ends", threeWays(), make([]int, 6), setWith(0, 1, 2, 3), 3, 0, false},
		{"a flow of size 0 without a way, and a set of the end", impl.TurnNet(threeWays()), make([]int, 6), setWith(0), 3, 0, false},
		{"from and to exchanged", threeWays(), greatest, setWith(0, 1, 2), 3, 0, false},
		{"a cut the other way, which is as wide as more comes in", both, []int{3, 7, 5}, setWith(1), 1, 0, false},
		{"all of both pipes, and nothing back", both, []int{3, 7, 0}, setWith(0), 0, 1, true},
		{"all of both pipes, and a liter back", both, []int{3, 7, 1}, setWith(0), 0, 1, false},
		{"more comes in, and a set of -1", both, []int{0, 0, 5}, -1, 0, 1, false},
		{"more comes in by a liter, and a set of -1", both, []int{0, 0, 1}, -1, 0, 1, false},
		{"more comes in by a liter, and a set of 2 to the power of Places", both, []int{0, 0, 1}, 4, 0, 1, false},
		{"more comes in by a liter, and a cut", both, []int{0, 0, 1}, setWith(0), 0, 1, false},
		{"no flow, and no cut", both, []int{0, 0, 9}, -1, 0, 1, false},
		{"amounts of the same sum, of which one is greater than its Width", both, []int{4, 6, 0}, setWith(0), 0, 1, false},
		{"amounts of the same sum, of which one is -1", both, []int{3, 6, -1}, setWith(0), 0, 1, false},
		{"too few amounts", both, []int{3, 7}, setWith(0), 0, 1, false},
		{"too many amounts", both, []int{3, 7, 0, 0}, setWith(0), 0, 1, false},
		{"no amounts", both, nil, setWith(0), 0, 1, false},
		{"enough goes out, but is lost", net(3, pipe(0, 1, 5), pipe(1, 2, 5)), []int{5, 4}, setWith(0), 0, 2, false},
		{"enough goes out, and more appears", net(3, pipe(0, 1, 4), pipe(1, 2, 5)), []int{4, 5}, setWith(0), 0, 2, false},
		{"each narrowest cut of a row", equalRow(8), []int{5, 5, 5, 5, 5, 5, 5}, setWith(0, 1, 2, 3), 0, 7, true},
		{"a row with a hole", equalRow(8), []int{5, 5, 5, 5, 5, 5, 5}, setWith(0, 1, 3), 0, 7, false},
		{"without pipes", net(5), nil, setWith(0, 3), 0, 4, true},
		{"without pipes, and both ends", net(5), nil, setWith(0, 4), 0, 4, false},
		{"20 pipes of the greatest Width", samePipes(20, 1000), slices.Repeat([]int{1000}, 20), setWith(0), 0, 1, true},
		{"20 pipes of the greatest Width, and a liter less", samePipes(20, 1000), append(slices.Repeat([]int{1000}, 19), 999), setWith(0), 0, 1, false},
	}
	for _, c := range cases {
		if proved := impl.ProvesGreatest(c.n, c.flow, c.set, c.from, c.to); proved != c.proved {
			t.Errorf("%s: %v", c.name, proved)
		}
	}
}

type neededCase struct {
	name     string
	n        impl.Net
	from, to int
	pipes    []int
}

func neededCases() []neededCase {
	all := []int{0, 1, 2, 3, 4, 5, 6, 7, 8, 9, 10, 11, 12, 13, 14, 15, 16, 17, 18, 19}
	unequal := besideEach()
	unequal.Pipes[0].Width = 4
	return []neededCase{
		{"all pipes of three ways", threeWays(), 0, 3, []int{0, 1, 2, 3, 4}},
		{"to a place between", threeWays(), 0, 2, []int{0, 1, 2}},
		{"from a place between", threeWays(), 1, 3, []int{2, 3, 4}},
		{"the last pipe", threeWays(), 4, 3, []int{5}},
		{"each pipe of the one way", rowNet(8), 0, 7, []int{0, 1, 2, 3, 4, 5, 6}},
		{"each pipe of the one way, listed from its end", reversed(rowNet(8)), 0, 7, []int{0, 1, 2, 3, 4, 5, 6}},
		{"each pipe of a part of the one way", rowNet(8), 2, 5, []int{2, 3, 4}},
		{"no pipe of two ways that make up for each other", besideEach(), 0, 4, []int{4}},
		{"no pipe of two ways that make up for each other, listed from their end", reversed(besideEach()), 0, 4, []int{0}},
		{"one way makes up for the other one, which is narrower", unequal, 0, 4, []int{1, 3, 4}},
		{"each pipe of two ways that are needed together", besideEach(), 0, 3, []int{0, 1, 2, 3}},
		{"a pipe that is wider than the narrowest cut", net(3, pipe(0, 1, 9), pipe(1, 2, 2)), 0, 2, []int{0, 1}},
		{"the first one of two pipes in the same direction is enough", net(3, pipe(0, 1, 7), pipe(0, 1, 3), pipe(1, 2, 7)), 0, 2, []int{0, 2}},
		{"each one of two pipes in the same direction is enough", net(3, pipe(0, 1, 7), pipe(0, 1, 7), pipe(1, 2, 7)), 0, 2, []int{2}},
		{"the first one is enough but for a liter", net(3, pipe(0, 1, 7), pipe(0, 1, 3), pipe(1, 2, 8)), 0, 2, []int{0, 1, 2}},
		{"two pipes in the same direction", net(2, pipe(0, 1, 3), pipe(0, 1, 7)), 0, 1, []int{0, 1}},
		{"two pipes in opposite directions", net(2, pipe(0, 1, 3), pipe(1, 0, 7)), 0, 1, []int{0}},
		{"two pipes in opposite directions, the other way", net(2, pipe(0, 1, 3), pipe(1, 0, 7)), 1, 0, []int{1}},
		{"a pipe that is used, but not needed", net(4, pipe(0, 1, 2), pipe(0, 2, 2), pipe(1, 3, 2), pipe(2, 3, 2), pipe(3, 2, 2)), 0, 2, []int{0, 1, 2, 4}},
		{"pipes that lead back", ledBack(), 0, 3, []int{1, 3, 5}},
		{"pipes that lead back, the other way", ledBack(), 3, 0, []int{0, 2, 4}},
		{"the pipe that is given up in part", backOnce(), 0, 7, []int{0, 1, 2, 3, 4, 5, 6, 7, 8}},
		{"a circle of all eight", circleNet(8), 7, 6, []int{0, 1, 2, 3, 4, 5, 7}},
		{"through a circle", throughCircle(), 0, 4, []int{0, 2, 4, 6}},
		{"without pipes", net(5), 0, 4, nil},
		{"two places without pipes", net(2), 1, 0, nil},
		{"eight places without pipes", net(8), 7, 0, nil},
		{"without a way", threeWays(), 3, 0, nil},
		{"without a way, though other places are reached", threeWays(), 0, 4, nil},
		{"one pipe", samePipes(1, 1), 0, 1, []int{0}},
		{"one pipe, against it", samePipes(1, 1), 1, 0, nil},
		{"20 pipes of the greatest Width", samePipes(20, 1000), 0, 1, all},
		{"20 pipes of the greatest Width, against them", samePipes(20, 1000), 1, 0, nil},
		{"20 pipes", fullNet(), 0, 1, []int{0, 2, 5, 8, 11, 14, 17}},
	}
}

func TestNeededPipes(t *testing.T) {
	for _, c := range neededCases() {
		if pipes := impl.NeededPipes(c.n, c.from, c.to); !slices.Equal(pipes, c.pipes) {
			t.Errorf("%s: %v", c.name, pipes)
		}
	}
}

// checkNeeded checks NeededPipes against the nets without each pipe, and that each pipe of a narrowest cut is needed.
func checkNeeded(t *testing.T, n impl.Net, from int, to int) {
	t.Helper()
	needed := impl.NeededPipes(n, from, to)
	if want := plainNeeded(n, from, to); !slices.Equal(needed, want) {
		t.Errorf("NeededPipes(%v, %d, %d): %v instead of %v", n, from, to, needed, want)
	}
	set := impl.NarrowestCut(n, from, to)
	for k, p := range n.Pipes {
		if hasPlace(set, p.From) && !hasPlace(set, p.To) && !slices.Contains(needed, k) {
			t.Errorf("NeededPipes(%v, %d, %d): %v without pipe %d of the cut %d", n, from, to, needed, k, set)
		}
	}
	if size := impl.GreatestFlow(n, from, to); (size == 0) != (len(needed) == 0) {
		t.Errorf("NeededPipes(%v, %d, %d): %v for a flow of %d", n, from, to, needed, size)
	}
}

func TestPipesLeftOut(t *testing.T) {
	random := rand.New(rand.NewSource(26))
	for _, n := range slices.Concat(cutNets(), smallNets(), tinyNets(), someBackNets(random, 5)) {
		eachPair(n, func(from int, to int) { checkNeeded(t, n, from, to) })
	}
	for _, n := range slices.Concat(someNets(random), someBackNets(random, 100)) {
		checkNeeded(t, n, 0, n.Places-1)
		checkNeeded(t, n, n.Places-1, 0)
	}
}

// TestPipesOfAllGreatestFlows checks that those pipes are needed which have water in each greatest flow.
func TestPipesOfAllGreatestFlows(t *testing.T) {
	for _, n := range slices.Concat(smallNets(), tinyNets()) {
		eachPair(n, func(from int, to int) {
			least, _ := leastLeaving(n, from, to)
			idle := make([]bool, len(n.Pipes))
			eachValidFlow(n, from, to, func(flow []int) {
				for k, amount := range flow {
					idle[k] = idle[k] || amount == 0 && plainFlowSize(n, flow, from, to) == least
				}
			})
			needed := impl.NeededPipes(n, from, to)
			for k := range n.Pipes {
				if slices.Contains(needed, k) == idle[k] {
					t.Errorf("NeededPipes(%v, %d, %d): %v, and a greatest flow without pipe %d: %v", n, from, to, needed, k, idle[k])
				}
			}
		})
	}
}

// checkNoCut checks the fixed results for a set that is not a cut from one place to another.
func checkNoCut(t *testing.T, n impl.Net, set int, from int, to int) {
	t.Helper()
	if impl.IsCut(n, set, from, to) {
		t.Errorf("IsCut(%v, %d, %d, %d)", n, set, from, to)
	}
	for _, flow := range [][]int{nil, make([]int, len(n.Pipes)), slices.Repeat([]int{1}, len(n.Pipes))} {
		if impl.ProvesGreatest(n, flow, set, from, to) {
			t.Errorf("ProvesGreatest(%v, %v, %d, %d, %d)", n, flow, set, from, to)
		}
	}
}

// checkNoCutEnds checks the fixed results for a net that is not valid, or two places that cannot be the ends of a cut.
func checkNoCutEnds(t *testing.T, n impl.Net, from int, to int) {
	t.Helper()
	for _, set := range []int{-1, 0, 1, 2, 3, 4, 7, 127, 128, 255, 256, math.MaxInt} {
		checkNoCut(t, n, set, from, to)
	}
	if set := impl.NarrowestCut(n, from, to); set != -1 {
		t.Errorf("NarrowestCut(%v, %d, %d): %d", n, from, to, set)
	}
	for _, flow := range [][]int{nil, make([]int, len(n.Pipes)), slices.Repeat([]int{1}, len(n.Pipes))} {
		if set := impl.CutOf(n, flow, from, to); set != -1 {
			t.Errorf("CutOf(%v, %v, %d, %d): %d", n, flow, from, to, set)
		}
	}
	if pipes := impl.NeededPipes(n, from, to); len(pipes) != 0 {
		t.Errorf("NeededPipes(%v, %d, %d): %v", n, from, to, pipes)
	}
}

func TestInvalidCutNets(t *testing.T) {
	for _, n := range invalidNets() {
		for _, set := range []int{math.MinInt, -1, 0, 1, 2, 3, 5, 127, 128, 255, 256, 511, math.MaxInt} {
			if width := impl.CutWidth(n, set); width != -1 {
				t.Errorf("CutWidth(%v, %d): %d", n, set, width)
			}
		}
	}
	eachInvalidNet(func(n impl.Net, from int, to int) { checkNoCutEnds(t, n, from, to) })
}

func TestInvalidCutEnds(t *testing.T) {
	for _, n := range cutNets() {
		eachWrongEnds(n, func(from int, to int) {
			checkNoCutEnds(t, n, from, to)
			// A set of one place would be a cut, if the other end were a place.
			for place := range n.Places {
				checkNoCut(t, n, setWith(place), from, to)
			}
		})
	}
}

func TestInvalidSets(t *testing.T) {
	for _, n := range append(cutNets(), tinyNets()...) {
		for _, set := range wrongSets(n) {
			if width := impl.CutWidth(n, set); width != -1 {
				t.Errorf("CutWidth(%v, %d): %d", n, set, width)
			}
			eachPair(n, func(from int, to int) {
				checkNoCut(t, n, set, from, to)
				flow, _ := impl.FindFlow(n, from, to)
				// The same amounts are, from the other end, a flow of which more comes in.
				if impl.ProvesGreatest(n, flow, set, from, to) || impl.ProvesGreatest(n, flow, set, to, from) {
					t.Errorf("ProvesGreatest(%v, %v, %d, %d, %d)", n, flow, set, from, to)
				}
			})
		}
	}
}

// checkNoProof checks the fixed results for what is not a flow from one place to another.
func checkNoProof(t *testing.T, n impl.Net, flow []int, from int, to int) {
	t.Helper()
	if set := impl.CutOf(n, flow, from, to); set != -1 {
		t.Errorf("CutOf(%v, %v, %d, %d): %d", n, flow, from, to, set)
	}
	for set := -1; set <= allPlaces(n)+1; set++ {
		if impl.ProvesGreatest(n, flow, set, from, to) {
			t.Errorf("ProvesGreatest(%v, %v, %d, %d, %d)", n, flow, set, from, to)
		}
	}
}

// TestCutsOfWrongAmounts takes amounts of a greatest flow away, adds others, and changes each one so that it does not fit in its pipe.
func TestCutsOfWrongAmounts(t *testing.T) {
	for _, n := range append(cutNets(), tinyNets()...) {
		from, to := 0, n.Places-1
		flow, _ := impl.FindFlow(n, from, to)
		for amounts := range len(flow) {
			checkNoProof(t, n, flow[:amounts], from, to)
		}
		for _, more := range []int{1, 2, 20} {
			checkNoProof(t, n, slices.Concat(flow, make([]int, more)), from, to)
		}
		for k, p := range n.Pipes {
			for _, wrong := range []int{math.MinInt, -p.Width, -1, p.Width + 1, 2 * p.Width, math.MaxInt} {
				changed := slices.Clone(flow)
				changed[k] = wrong
				checkNoProof(t, n, changed, from, to)
			}
		}
	}
}

// TestCutsOfLostWater changes one or two amounts of a greatest flow: where water is lost or appears, nothing is found and proved.
func TestCutsOfLostWater(t *testing.T) {
	lost := 0
	for _, n := range append(cutNets(), tinyNets()...) {
		from, to := 0, n.Places-1
		flow, _ := impl.FindFlow(n, from, to)
		for i := range flow {
			for k := range flow {
				for _, change := range []int{-1, 1} {
					changed := slices.Clone(flow)
					changed[i] += change
					changed[k] -= 2 * change
					if !plainFlowOk(n, changed, from, to) {
						lost++
						checkNoProof(t, n, changed, from, to)
					} else if set := impl.CutOf(n, changed, from, to); set != plainCutOf(n, changed, from) {
						t.Errorf("CutOf(%v, %v, %d, %d): %d", n, changed, from, to, set)
					}
				}
			}
		}
	}
	if lost < 1000 {
		t.Errorf("water is lost %d times only", lost)
	}
}

// TestLostWaterProvesNothing checks amounts that all fit in their pipes.
func TestLostWaterProvesNothing(t *testing.T) {
	cases := []flowCase{
		{"nothing goes on", threeWays(), 0, 3, []int{1, 0, 0, 0, 0, 0}, -1},
		{"all goes out, and a liter is lost", threeWays(), 0, 3, []int{5, 4, 3, 2, 6, 0}, -1},
		{"the narrowest cut is full, and water appears before it", threeWays(), 0, 3, []int{0, 0, 0, 2, 6, 0}, -1},
		{"water appears at a place of the cut", equalRow(3), 0, 2, []int{4, 5}, -1},
		{"water is lost behind the cut", equalRow(3), 0, 2, []int{5, 4}, -1},
		{"one place loses what another one gets", besideEach(), 0, 4, []int{5, 0, 0, 5, 5}, -1},
		{"it is right for other ends", threeWays(), 1, 3, []int{4, 4, 2, 2, 6, 0}, -1},
	}
	for _, c := range cases {
		checkNoProof(t, c.n, c.flow, c.from, c.to)
	}
}

// TestCutsChangeNothing calls each function, and writes into the results.
func TestCutsChangeNothing(t *testing.T) {
	for _, given := range slices.Concat(cutNets(), invalidNets()) {
		checkNotChanged(t, given, func(n impl.Net, flow []int) {
			for to := -1; to <= 8; to++ {
				for _, set := range []int{-1, 0, 1, 3, 256} {
					impl.CutWidth(n, set)
					impl.IsCut(n, set, 0, to)
					impl.ProvesGreatest(n, flow, set, 0, to)
				}
				impl.NarrowestCut(n, 0, to)
				impl.CutOf(n, flow, 0, to)
				spoilNumbers(impl.NeededPipes(n, 0, to))
			}
		})
	}
}

// TestNeededPipesKeepTheirNumbers finds the needed pipes again, and writes into the other result and into the pipes.
func TestNeededPipesKeepTheirNumbers(t *testing.T) {
	for _, c := range neededCases() {
		n := cloneNet(c.n)
		pipes := impl.NeededPipes(n, c.from, c.to)
		other := impl.NeededPipes(n, c.from, c.to)
		for i := range other {
			other[i] = -5
		}
		spoilNet(n)
		impl.NeededPipes(c.n, c.to, c.from)
		if !slices.Equal(pipes, c.pipes) {
			t.Errorf("%s: the pipes have become %v", c.name, pipes)
		}
	}
}

// TestCutsAtTheSameTime calls the functions from many goroutines: no cut gets places of another one.
func TestCutsAtTheSameTime(t *testing.T) {
	var all sync.WaitGroup
	for _, c := range narrowestCuts() {
		needed := impl.NeededPipes(c.n, c.from, c.to)
		all.Go(func() {
			for range 10 {
				set := impl.NarrowestCut(c.n, c.from, c.to)
				flow, _ := impl.FindFlow(c.n, c.from, c.to)
				pipes := impl.NeededPipes(c.n, c.from, c.to)
				if set != setWith(c.places...) || impl.CutOf(c.n, flow, c.from, c.to) != set || !slices.Equal(pipes, needed) {
					t.Errorf("%s: %d, and the pipes %v", c.name, set, pipes)
				}
			}
		})
	}
	all.Wait()
}
