package tests

import (
	"math"
	"math/rand"
	"slices"
	"sync"
	"testing"

	"loop.example/g03307/impl"
)

// backOnce leads from 0 to 7. The shortest way takes all of the pipe from 1 to 2, and must give up 2 of it, which come back from 2 to 1.
func backOnce() impl.Net {
	return net(8, pipe(0, 1, 3), pipe(1, 2, 3), pipe(2, 7, 3), pipe(0, 3, 2), pipe(3, 4, 2), pipe(4, 2, 2), pipe(1, 5, 2), pipe(5, 6, 2), pipe(6, 7, 2))
}

// backTwice leads from 0 to 7. The pipe from 1 to 2 is taken first, and gives up 2 for the way through 3, and then 1 for the way through 4.
func backTwice() impl.Net {
	return net(8, pipe(0, 1, 5), pipe(1, 2, 5), pipe(2, 7, 5), pipe(0, 3, 2), pipe(3, 2, 2), pipe(0, 4, 1), pipe(4, 2, 1), pipe(1, 5, 3), pipe(5, 7, 3))
}

// backOrOn leads from 0 to 7. When the way from 0 to 1, 2 and 7 is taken, two equally long ways go on from 2: back to 1, or to 6.
func backOrOn() impl.Net {
	return net(8, pipe(0, 1, 5), pipe(1, 2, 5), pipe(2, 7, 5), pipe(0, 3, 2), pipe(3, 2, 2), pipe(1, 5, 3), pipe(5, 7, 3), pipe(2, 6, 3), pipe(6, 4, 3), pipe(4, 7, 3))
}

// twoBack leads from 0 to 7. When the ways through 4 and 5 and through 2 and 1 are taken, the third one goes from 5 back to 4, and from 1 back to 2.
func twoBack() impl.Net {
	return net(8, pipe(0, 4, 4), pipe(4, 5, 4), pipe(5, 7, 4), pipe(0, 2, 5), pipe(2, 1, 5), pipe(1, 7, 5), pipe(0, 3, 2), pipe(3, 5, 2), pipe(4, 1, 3), pipe(2, 6, 3), pipe(6, 7, 3))
}

// besideEnds leads from 0 to 2 through 1. Other pipes lead into 0 and out of 2.
func besideEnds() impl.Net {
	return net(4, pipe(1, 0, 7), pipe(0, 1, 5), pipe(2, 0, 9), pipe(1, 2, 4), pipe(2, 1, 8), pipe(2, 3, 6), pipe(3, 0, 6))
}

func flowNets() []impl.Net {
	nets := []impl.Net{
		backOnce(), reversed(backOnce()), backTwice(), reversed(backTwice()), backOrOn(), reversed(backOrOn()), twoBack(), reversed(twoBack()),
		besideEnds(), reversed(besideEnds()),
	}
	return append(nets, validNets()...)
}

// tinyNets have few flows, so that all of them can be tried.
func tinyNets() []impl.Net {
	return []impl.Net{
		net(4, pipe(0, 1, 1), pipe(1, 2, 2), pipe(2, 3, 1), pipe(0, 2, 1), pipe(1, 3, 2)),
		net(4, pipe(0, 1, 2), pipe(1, 2, 1), pipe(2, 3, 2), pipe(2, 1, 2), pipe(3, 0, 1)),
		net(5, pipe(0, 1, 2), pipe(1, 2, 1), pipe(2, 1, 1), pipe(2, 4, 2), pipe(1, 4, 1)),
		net(4, pipe(0, 1, 1), pipe(0, 2, 1), pipe(1, 3, 1), pipe(2, 3, 1), pipe(1, 2, 1), pipe(2, 1, 1)),
		net(3, pipe(0, 1, 2), pipe(0, 1, 1), pipe(1, 2, 2), pipe(2, 0, 1)),
		net(4, pipe(3, 2, 2), pipe(2, 1, 2), pipe(1, 0, 2)),
		net(3), net(2, pipe(0, 1, 2), pipe(1, 0, 1), pipe(0, 1, 1)),
	}
}

// passes is what comes into a place and what goes out of it.
func passes(n impl.Net, flow []int, place int) (int, int) {
	in, out := 0, 0
	for k, p := range n.Pipes {
		if p.To == place {
			in += flow[k]
		}
		if p.From == place {
			out += flow[k]
		}
	}
	return in, out
}

// plainFlowOk is what FlowOk must return for a valid net.
func plainFlowOk(n impl.Net, flow []int, from int, to int) bool {
	ok := from != to && !slices.Contains(wrongPlaces(n), from) && !slices.Contains(wrongPlaces(n), to) && len(flow) == len(n.Pipes)
	for k := 0; ok && k < len(flow); k++ {
		ok = flow[k] >= 0 && flow[k] <= n.Pipes[k].Width
	}
	for place := 0; ok && place < n.Places; place++ {
		in, out := passes(n, flow, place)
		ok = in == out || place == from || place == to
	}
	return ok
}

// plainFlowSize is what FlowSize must return for a valid net.
func plainFlowSize(n impl.Net, flow []int, from int, to int) int {
	if !plainFlowOk(n, flow, from, to) {
		return -1
	}
	in, out := passes(n, flow, from)
	if out < in {
		return -1
	}
	return out - in
}

// wayStep is one pipe of a way.
type wayStep struct {
	pipe int
	back bool
}

// stepFrom is where a pipe leads to from a place, if the flow can be changed along it, and whether this is backward.
func stepFrom(n impl.Net, flow []int, at int, k int) (int, bool, bool) {
	p := n.Pipes[k]
	if p.From == at {
		return p.To, false, flow[k] < p.Width
	}
	return p.From, true, p.To == at && flow[k] > 0
}

// wayOn looks for a way on from the last one of these places, with exactly so many steps and no place twice.
// The first pipe is as early as possible, then the second one, and so on.
func wayOn(n impl.Net, flow []int, been []int, to int, steps int) ([]wayStep, bool) {
	at := been[len(been)-1]
	if steps == 0 {
		return nil, at == to
	}
	for k := range n.Pipes {
		next, back, open := stepFrom(n, flow, at, k)
		if !open || slices.Contains(been, next) {
			continue
		}
		if rest, ok := wayOn(n, flow, append(slices.Clone(been), next), to, steps-1); ok {
			return append([]wayStep{{k, back}}, rest...), true
		}
	}
	return nil, false
}

// moveLiter changes the flow along a way by one liter, if it can.
func moveLiter(n impl.Net, flow []int, way []wayStep) bool {
	for _, step := range way {
		if step.back && flow[step.pipe] == 0 || !step.back && flow[step.pipe] == n.Pipes[step.pipe].Width {
			return false
		}
	}
	for _, step := range way {
		if step.back {
			flow[step.pipe]--
		} else {
			flow[step.pipe]++
		}
	}
	return true
}

// plainFlow is what FindFlow must return, and the ways that it takes. It has no list of places: it tries all ways of one step, then all of two, and so on.
func plainFlow(n impl.Net, from int, to int) ([]int, [][]wayStep) {
	flow := make([]int, len(n.Pipes))
	var ways [][]wayStep
	for steps := 1; steps < n.Places; {
		way, ok := wayOn(n, flow, []int{from}, to, steps)
		if !ok {
			steps++
			continue
		}
		for moveLiter(n, flow, way) {
		}
		ways = append(ways, way)
		// Whether a shorter way is possible again is not taken for granted.
		steps = 1
	}
	return flow, ways
}

// timesBack is how often each pipe is used backward.
func timesBack(n impl.Net, ways [][]wayStep) []int {
	times := make([]int, len(n.Pipes))
	for _, step := range slices.Concat(ways...) {
		if step.back {
			times[step.pipe]++
		}
	}
	return times
}

// hasPlace reports whether a set, as a sum of powers of 2, has a place.
func hasPlace(set int, place int) bool {
	return set>>place&1 == 1
}

// widthLeaving is how wide the pipes are together which leave a set of places.
func widthLeaving(n impl.Net, set int) int {
	width := 0
	for _, p := range n.Pipes {
		if hasPlace(set, p.From) && !hasPlace(set, p.To) {
			width += p.Width
		}
	}
	return width
}

// leastLeaving is the least that the pipes are wide together which leave a set of places with from, but not to, and the first such set.
func leastLeaving(n impl.Net, from int, to int) (int, int) {
	least, first := math.MaxInt, -1
	for set := range 1 << n.Places {
		if !hasPlace(set, from) || hasPlace(set, to) {
			continue
		}
		if width := widthLeaving(n, set); width < least {
			least, first = width, set
		}
	}
	return least, first
}

// eachFlow visits all lists that have an amount for each pipe, from so much below 0 up to so much above its Width.
func eachFlow(n impl.Net, beyond int, visit func(flow []int)) {
	eachList(len(n.Pipes), -beyond, 2+beyond, func(flow []int) {
		for k, p := range n.Pipes {
			if flow[k] > p.Width+beyond {
				return
			}
		}
		visit(flow)
	})
}

type flowCase struct {
	name     string
	n        impl.Net
	from, to int
	flow     []int
	size     int
}

// foundFlows are nets with the very amounts that FindFlow must return.
func foundFlows() []flowCase {
	onFirst := backOrOn()
	onFirst.Pipes = append([]impl.Pipe{pipe(2, 6, 3)}, slices.Delete(onFirst.Pipes, 7, 8)...)
	return []flowCase{
		{"three ways", threeWays(), 0, 3, []int{4, 4, 2, 2, 6, 0}, 8},
		{"no way back", threeWays(), 3, 0, []int{0, 0, 0, 0, 0, 0}, 0},
		{"no way to a place that no water reaches", threeWays(), 0, 4, []int{0, 0, 0, 0, 0, 0}, 0},
		{"to a place between", threeWays(), 0, 2, []int{3, 4, 3, 0, 0, 0}, 7},
		{"from a place between", threeWays(), 1, 3, []int{0, 0, 3, 2, 3, 0}, 5},
		{"one pipe", threeWays(), 4, 3, []int{0, 0, 0, 0, 0, 9}, 9},
		{"a part of a pipe is given up", backOnce(), 0, 7, []int{3, 1, 3, 2, 2, 2, 2, 2, 2}, 5},
		{"a part of a pipe is given up, listed the other way around", reversed(backOnce()), 0, 7, []int{2, 2, 2, 2, 2, 2, 3, 1, 3}, 5},
		{"a whole pipe is given up", net(8, pipe(0, 1, 2), pipe(1, 2, 2), pipe(2, 7, 2), pipe(0, 3, 5), pipe(3, 4, 5), pipe(4, 2, 5), pipe(1, 5, 5), pipe(5, 6, 5), pipe(6, 7, 5)), 0, 7, []int{2, 0, 2, 2, 2, 2, 2, 2, 2}, 4},
		{"a pipe is used backward twice", backTwice(), 0, 7, []int{5, 2, 5, 2, 2, 1, 1, 3, 3}, 8},
		{"a pipe is used backward twice, listed the other way around", reversed(backTwice()), 0, 7, []int{3, 3, 1, 1, 2, 2, 5, 2, 5}, 8},
		{"two pipes are used backward", twoBack(), 0, 7, []int{4, 2, 4, 5, 3, 5, 2, 2, 2, 2, 2}, 11},
		{"the pipe back is before the pipe on", backOrOn(), 0, 7, []int{5, 3, 5, 2, 2, 2, 2, 0, 0, 0}, 7},
		{"the pipe on is before the pipe back", onFirst, 0, 7, []int{2, 5, 5, 5, 2, 2, 0, 0, 2, 2}, 7},
		{"two equally long ways", net(4, pipe(0, 1, 5), pipe(0, 2, 5), pipe(1, 3, 5), pipe(2, 3, 5), pipe(1, 2, 9)), 0, 3, []int{5, 5, 5, 5, 0}, 10},
		{"the way of the first pipe is taken", net(5, pipe(0, 1, 5), pipe(0, 2, 5), pipe(1, 3, 5), pipe(2, 3, 5), pipe(3, 4, 5)), 0, 4, []int{5, 0, 5, 0, 5}, 5},
		{"the way of the first pipe is taken, though its place is greater", net(5, pipe(0, 2, 5), pipe(0, 1, 5), pipe(1, 3, 5), pipe(2, 3, 5), pipe(3, 4, 5)), 0, 4, []int{5, 0, 0, 5, 5}, 5},
		{"the place that is reached first goes on first, though its pipe is later", net(4, pipe(1, 3, 1), pipe(0, 2, 1), pipe(0, 1, 1), pipe(2, 3, 1)), 0, 3, []int{1, 1, 1, 1}, 2},
		{"the place that is reached first goes on first, and nothing is left for the other one", net(5, pipe(1, 3, 1), pipe(0, 2, 1), pipe(0, 1, 1), pipe(2, 3, 1), pipe(3, 4, 1)), 0, 4, []int{0, 1, 0, 1, 1}, 1},
		{"the rest goes on the way of the second pipe", net(5, pipe(0, 1, 5), pipe(0, 2, 5), pipe(1, 3, 3), pipe(2, 3, 5), pipe(3, 4, 5)), 0, 4, []int{3, 2, 3, 2, 5}, 5},
		{"a short way is taken, though a long one is listed first", net(4, pipe(0, 1, 5), pipe(1, 2, 5), pipe(2, 3, 5), pipe(0, 2, 5)), 0, 3, []int{0, 0, 5, 5}, 5},
		{"two pipes in the same direction", net(2, pipe(0, 1, 3), pipe(0, 1, 7)), 0, 1, []int{3, 7}, 10},
		{"two pipes in the same direction, against them", net(2, pipe(0, 1, 3), pipe(0, 1, 7)), 1, 0, []int{0, 0}, 0},
		{"the first one of two pipes in the same direction is filled first", net(3, pipe(0, 1, 3), pipe(0, 1, 7), pipe(1, 2, 8)), 0, 2, []int{3, 5, 8}, 8},
		{"the first one of two pipes in the same direction is enough", net(3, pipe(0, 1, 7), pipe(0, 1, 3), pipe(1, 2, 6)), 0, 2, []int{6, 0, 6}, 6},
		{"two pipes in opposite directions", net(2, pipe(0, 1, 3), pipe(1, 0, 7)), 0, 1, []int{3, 0}, 3},
		{"two pipes in opposite directions, the other way", net(2, pipe(0, 1, 3), pipe(1, 0, 7)), 1, 0, []int{0, 7}, 7},
		{"two pipes in opposite directions between others", net(4, pipe(0, 1, 5), pipe(2, 1, 9), pipe(1, 2, 4), pipe(2, 3, 6)), 0, 3, []int{4, 0, 4, 4}, 4},
		{"pipes into from and out of to", besideEnds(), 0, 2, []int{0, 4, 0, 4, 0, 0, 0}, 4},
		{"pipes into from and out of to, the other way", besideEnds(), 2, 0, []int{7, 0, 9, 0, 7, 6, 6}, 22},
		{"a way around a circle is not taken", circleNet(3), 1, 0, []int{0, 2, 2}, 2},
		{"a circle of all eight", circleNet(8), 7, 6, []int{1, 1, 1, 1, 1, 1, 0, 1}, 1},
		{"through a circle", throughCircle(), 0, 4, []int{6, 0, 6, 0, 6, 0, 6, 0}, 6},
		{"without pipes", net(5), 0, 4, nil, 0},
		{"two places without pipes", net(2), 1, 0, nil, 0},
		{"eight places without pipes", net(8), 7, 0, nil, 0},
		{"without a way", net(4, pipe(0, 1, 5), pipe(2, 3, 5)), 0, 3, []int{0, 0}, 0},
		{"without a way, as the pipe between leads back", net(4, pipe(0, 1, 5), pipe(2, 1, 5), pipe(2, 3, 5)), 0, 3, []int{0, 0, 0}, 0},
		{"two places", samePipes(1, 4), 0, 1, []int{4}, 4},
		{"the least Width", samePipes(1, 1), 0, 1, []int{1}, 1},
		{"the greatest Width", samePipes(1, 1000), 0, 1, []int{1000}, 1000},
		{"20 pipes of the greatest Width", samePipes(20, 1000), 0, 1, slices.Repeat([]int{1000}, 20), 20000},
		{"20 pipes of the greatest Width, against them", samePipes(20, 1000), 1, 0, make([]int, 20), 0},
		{"a long row", rowNet(8), 0, 7, []int{1, 1, 1, 1, 1, 1, 1}, 1},
		{"a long row, listed from its end", reversed(rowNet(8)), 0, 7, []int{1, 1, 1, 1, 1, 1, 1}, 1},
		{"20 pipes", fullNet(), 0, 1, []int{1, 0, 2, 0, 9, 3, 0, 7, 4, 0, 4, 5, 5, 0, 6, 11, 0, 7, 18, 0}, 28},
	}
}

func TestFindFlow(t *testing.T) {
	for _, c := range foundFlows() {
		flow, ok := impl.FindFlow(c.n, c.from, c.to)
		if !ok || !slices.Equal(flow, c.flow) {
			t.Errorf("%s: %v %v", c.name, flow, ok)
		}
		if !impl.FlowOk(c.n, c.flow, c.from, c.to) {
			t.Errorf("%s: %v is not a flow", c.name, c.flow)
		}
		if size := impl.FlowSize(c.n, c.flow, c.from, c.to); size != c.size {
			t.Errorf("%s: a size of %d", c.name, size)
		}
		if size := impl.GreatestFlow(c.n, c.from, c.to); size != c.size {
			t.Errorf("%s: a greatest size of %d", c.name, size)
		}
	}
}

// TestWaterIsSentBack checks that the nets of these tests are what their names say.
func TestWaterIsSentBack(t *testing.T) {
	cases := []struct {
		name string
		n    impl.Net
		back []int
	}{
		{"once", backOnce(), []int{0, 1, 0, 0, 0, 0, 0, 0, 0}},
		{"twice", backTwice(), []int{0, 2, 0, 0, 0, 0, 0, 0, 0}},
		{"two pipes", twoBack(), []int{0, 1, 0, 0, 1, 0, 0, 0, 0, 0, 0}},
		{"or on", backOrOn(), []int{0, 1, 0, 0, 0, 0, 0, 0, 0, 0}},
	}
	for _, c := range cases {
		_, ways := plainFlow(c.n, 0, 7)
		if back := timesBack(c.n, ways); !slices.Equal(back, c.back) {
			t.Errorf("%s: %v", c.name, back)
		}
	}
}

func TestFlowSize(t *testing.T) {
	ring := circleNet(4)
	short := net(5, pipe(0, 1, 5), pipe(1, 4, 5), pipe(1, 2, 3), pipe(2, 3, 3), pipe(3, 1, 3))
	both := net(2, pipe(0, 1, 3), pipe(1, 0, 7))
	cases := []flowCase{
		{"a small flow", threeWays(), 0, 3, []int{1, 0, 0, 1, 0, 0}, 1},
		{"two ways", threeWays(), 0, 3, []int{2, 3, 0, 2, 3, 0}, 5},
		{"the longest way", threeWays(), 0, 3, []int{3, 0, 3, 0, 3, 0}, 3},
		{"a flow of size 0", threeWays(), 0, 3, make([]int, 6), 0},
		{"to a place that is passed in other flows", threeWays(), 0, 2, []int{3, 4, 3, 0, 0, 0}, 7},
		{"more comes in", threeWays(), 3, 0, []int{1, 0, 0, 1, 0, 0}, -1},
		{"much more comes in", threeWays(), 3, 0, []int{4, 4, 2, 2, 6, 0}, -1},
		{"without pipes", net(5), 0, 4, nil, 0},
		{"two places without pipes", net(2), 0, 1, []int{}, 0},
		{"a circle of water through from and to", ring, 0, 2, []int{1, 1, 1, 1}, 0},
		{"a circle of water through to", short, 0, 1, []int{0, 0, 2, 2, 2}, 0},
		{"a circle of water beside from and to", short, 0, 4, []int{0, 0, 3, 3, 3}, 0},
		{"a circle of water beside a way", short, 0, 4, []int{5, 5, 3, 3, 3}, 5},
		{"a way without the circle", short, 0, 4, []int{5, 5, 0, 0, 0}, 5},
		{"a circle of two places", net(4, pipe(0, 3, 2), pipe(1, 2, 9), pipe(2, 1, 9)), 0, 3, []int{2, 8, 8}, 2},
		{"a circle of two places, through from", net(3, pipe(0, 2, 2), pipe(0, 1, 9), pipe(1, 0, 9)), 0, 2, []int{2, 8, 8}, 2},
		{"there and back", both, 0, 1, []int{3, 3}, 0},
		{"more there than back", both, 0, 1, []int{3, 1}, 2},
		{"more back than there", both, 0, 1, []int{1, 2}, -1},
		{"more back than there, by much", both, 0, 1, []int{0, 7}, -1},
		{"more back than there, the other way", both, 1, 0, []int{1, 2}, 1},
		{"what comes back into from does not count", besideEnds(), 0, 2, []int{1, 5, 0, 4, 0, 0, 0}, 4},
		{"what goes on from to does not count", besideEnds(), 0, 2, []int{0, 4, 2, 4, 0, 0, 0}, 2},
		{"what goes on from to and comes back into from", besideEnds(), 0, 2, []int{0, 4, 0, 4, 0, 3, 3}, 1},
		{"what goes on from to is more than what comes there", besideEnds(), 0, 2, []int{0, 4, 5, 4, 0, 0, 0}, -1},
		{"two pipes in the same direction", net(2, pipe(0, 1, 3), pipe(0, 1, 7)), 0, 1, []int{2, 7}, 9},
		{"the greatest Width", samePipes(1, 1000), 0, 1, []int{1000}, 1000},
		{"20 pipes of the greatest Width", samePipes(20, 1000), 0, 1, slices.Repeat([]int{1000}, 20), 20000},
		{"20 pipes of the greatest Width, from their end", samePipes(20, 1000), 1, 0, slices.Repeat([]int{1000}, 20), -1},
		{"20 pipes with a liter each", samePipes(20, 1000), 0, 1, slices.Repeat([]int{1}, 20), 20},
	}
	for _, c := range cases {
		if !impl.FlowOk(c.n, c.flow, c.from, c.to) {
			t.Errorf("%s: not a flow", c.name)
		}
		if size := impl.FlowSize(c.n, c.flow, c.from, c.to); size != c.size {
			t.Errorf("%s: %d", c.name, size)
		}
	}
}

// checkNoFlow checks the fixed results for what is not a flow from one place to another.
func checkNoFlow(t *testing.T, n impl.Net, flow []int, from int, to int) {
	t.Helper()
	if impl.FlowOk(n, flow, from, to) {
		t.Errorf("FlowOk(%v, %v, %d, %d)", n, flow, from, to)
	}
	if size := impl.FlowSize(n, flow, from, to); size != -1 {
		t.Errorf("FlowSize(%v, %v, %d, %d): %d", n, flow, from, to, size)
	}
}

// checkNoEnds checks the fixed results for a net that is not valid, or two places that cannot be the ends of a flow.
func checkNoEnds(t *testing.T, n impl.Net, from int, to int) {
	t.Helper()
	for _, flow := range [][]int{nil, make([]int, len(n.Pipes)), slices.Repeat([]int{1}, len(n.Pipes))} {
		checkNoFlow(t, n, flow, from, to)
	}
	if size := impl.GreatestFlow(n, from, to); size != -1 {
		t.Errorf("GreatestFlow(%v, %d, %d): %d", n, from, to, size)
	}
	if flow, ok := impl.FindFlow(n, from, to); ok || len(flow) != 0 {
		t.Errorf("FindFlow(%v, %d, %d): %v %v", n, from, to, flow, ok)
	}
}

// eachInvalidNet visits all nets that are not valid, each one with several places.
func eachInvalidNet(visit func(n impl.Net, from int, to int)) {
	for _, n := range invalidNets() {
		for _, from := range []int{-1, 0, 1, 6} {
			for _, to := range []int{-1, 0, 1, 7, n.Places - 1, n.Places} {
				visit(n, from, to)
			}
		}
	}
}

// eachWrongEnds visits pairs that are not two different places of a net.
func eachWrongEnds(n impl.Net, visit func(from int, to int)) {
	for place := range n.Places {
		visit(place, place)
		for _, wrong := range append(wrongPlaces(n), 63, 64, 65) {
			visit(wrong, place)
			visit(place, wrong)
			visit(wrong, wrong)
		}
	}
	visit(-1, n.Places)
	visit(n.Places, -1)
}

func TestInvalidFlowNets(t *testing.T) {
	eachInvalidNet(func(n impl.Net, from int, to int) { checkNoEnds(t, n, from, to) })
}

func TestInvalidFlowEnds(t *testing.T) {
	for _, n := range flowNets() {
		eachWrongEnds(n, func(from int, to int) { checkNoEnds(t, n, from, to) })
	}
}

// TestNumberOfAmounts takes amounts of a flow away, and adds others.
func TestNumberOfAmounts(t *testing.T) {
	for _, n := range flowNets() {
		flow, _ := impl.FindFlow(n, 0, 1)
		for amounts := range len(flow) {
			checkNoFlow(t, n, flow[:amounts], 0, 1)
			checkNoFlow(t, n, make([]int, amounts), 0, 1)
		}
		for _, more := range []int{1, 2, 20, 400} {
			checkNoFlow(t, n, slices.Concat(flow, make([]int, more)), 0, 1)
			checkNoFlow(t, n, make([]int, len(flow)+more), 0, 1)
		}
		if len(flow) > 0 {
			checkNoFlow(t, n, nil, 0, 1)
		}
	}
}

func TestAmountLimits(t *testing.T) {
	for _, width := range []int{1, 2, 5, 999, 1000} {
		for _, pipes := range []int{1, 2, 20} {
			n := samePipes(pipes, width)
			for k := range pipes {
				for _, wrong := range []int{math.MinInt, -width, -2, -1, width + 1, width + 2, 2*width + 1, math.MaxInt} {
					flow := slices.Repeat([]int{1}, pipes)
					flow[k] = wrong
					checkNoFlow(t, n, flow, 0, 1)
					checkNoFlow(t, n, flow, 1, 0)
				}
				for _, right := range []int{0, 1, width - 1, width} {
					flow := slices.Repeat([]int{1}, pipes)
					flow[k] = right
					if size := impl.FlowSize(n, flow, 0, 1); !impl.FlowOk(n, flow, 0, 1) || size != pipes-1+right {
						t.Errorf("%v in %d pipes of the Width %d: a size of %d", flow, pipes, width, size)
					}
				}
			}
		}
	}
}

// TestLostWater changes the amounts of a flow: water is lost or appears at a place between, or at none.
func TestLostWater(t *testing.T) {
	cases := []flowCase{
		{"nothing goes on", threeWays(), 0, 3, []int{1, 0, 0, 0, 0, 0}, -1},
		{"less goes on", threeWays(), 0, 3, []int{3, 0, 0, 2, 0, 0}, -1},
		{"more goes on", threeWays(), 0, 3, []int{1, 0, 0, 2, 0, 0}, -1},
		{"nothing comes in", threeWays(), 0, 3, []int{0, 0, 0, 0, 1, 0}, -1},
		{"one place loses what another one gets", threeWays(), 0, 3, []int{2, 1, 0, 1, 2, 0}, -1},
		{"it comes from another place", threeWays(), 0, 3, []int{0, 0, 0, 0, 0, 1}, -1},
		{"it ends at another place", threeWays(), 0, 3, []int{0, 1, 0, 0, 0, 0}, -1},
		{"it is right for other ends", threeWays(), 1, 3, []int{1, 0, 0, 1, 0, 0}, -1},
		{"a circle that is not closed", circleNet(4), 0, 2, []int{1, 1, 1, 0}, -1},
		{"a circle with a hole", circleNet(4), 0, 2, []int{2, 2, 1, 2}, -1},
		{"a circle of amounts that differ", net(4, pipe(0, 3, 2), pipe(1, 2, 9), pipe(2, 1, 9)), 0, 3, []int{2, 8, 7}, -1},
	}
	for _, c := range cases {
		if impl.FlowOk(c.n, c.flow, c.from, c.to) {
			t.Errorf("%s: a flow", c.name)
		}
		if size := impl.FlowSize(c.n, c.flow, c.from, c.to); size != c.size {
			t.Errorf("%s: %d", c.name, size)
		}
	}
}

// checkFlow checks FlowOk, FlowSize and IsUsed against their definitions.
func checkFlow(t *testing.T, n impl.Net, flow []int, from int, to int) {
	t.Helper()
	if ok := impl.FlowOk(n, flow, from, to); ok != plainFlowOk(n, flow, from, to) {
		t.Errorf("FlowOk(%v, %v, %d, %d): %v", n, flow, from, to, ok)
	}
	if size := impl.FlowSize(n, flow, from, to); size != plainFlowSize(n, flow, from, to) {
		t.Errorf("FlowSize(%v, %v, %d, %d): %d", n, flow, from, to, size)
	}
	for k, amount := range flow {
		if used := impl.IsUsed(n, flow, k); used != (amount > 0) {
			t.Errorf("IsUsed(%v, %v, %d): %v", n, flow, k, used)
		}
	}
}

// TestChangedAmounts changes one or two amounts of each flow that is found.
func TestChangedAmounts(t *testing.T) {
	random := rand.New(rand.NewSource(20))
	for _, n := range slices.Concat(flowNets(), someBackNets(random, 30)) {
		from, to := 0, n.Places-1
		flow, _ := impl.FindFlow(n, from, to)
		for i := range flow {
			for k := range flow {
				for _, change := range []int{-1, 0, 1} {
					changed := slices.Clone(flow)
					changed[i] += change
					changed[k] += change
					checkFlow(t, n, changed, from, to)
					checkFlow(t, n, changed, to, from)
					changed[k] -= 2 * change
					checkFlow(t, n, changed, from, to)
				}
			}
		}
	}
}

// TestAllFlows tries all amounts of small nets, also some below 0 and above the Width: none is greater than GreatestFlow, and one is as great.
func TestAllFlows(t *testing.T) {
	for _, n := range append(smallNets(), tinyNets()...) {
		greatest := make([]int, n.Places*n.Places)
		eachFlow(n, 0, func(flow []int) {
			for from := range n.Places {
				for to := range n.Places {
					checkFlow(t, n, flow, from, to)
					greatest[from*n.Places+to] = max(greatest[from*n.Places+to], plainFlowSize(n, flow, from, to))
				}
			}
		})
		for from := range n.Places {
			for to := range n.Places {
				if got := impl.GreatestFlow(n, from, to); from != to && got != greatest[from*n.Places+to] {
					t.Errorf("GreatestFlow(%v, %d, %d): %d instead of %d", n, from, to, got, greatest[from*n.Places+to])
				}
			}
		}
	}
	for _, n := range tinyNets() {
		eachFlow(n, 1, func(flow []int) { checkFlow(t, n, flow, 0, n.Places-1) })
	}
}

// someBackNets are so many nets of the same shapes as those that send water back, with other Widths, other pipes between,
// and the places and pipes in another order.
func someBackNets(random *rand.Rand, each int) []impl.Net {
	var nets []impl.Net
	for _, shape := range []impl.Net{backOnce(), backTwice(), twoBack(), backOrOn()} {
		for range each {
			n := cloneNet(shape)
			for len(n.Pipes) < 12+random.Intn(9) {
				from := random.Intn(7)
				n.Pipes = append(n.Pipes, pipe(from, (from+1+random.Intn(7))%8, 1))
			}
			order := random.Perm(8)
			for k, p := range n.Pipes {
				n.Pipes[k] = pipe(order[p.From], order[p.To], max(1, p.Width-random.Intn(2)))
			}
			if random.Intn(2) == 0 {
				random.Shuffle(len(n.Pipes), func(i int, k int) { n.Pipes[i], n.Pipes[k] = n.Pipes[k], n.Pipes[i] })
			}
			nets = append(nets, n)
		}
	}
	return nets
}

// checkGreatest is promise 9, for one net and two places: the flow keeps the water, and is as great as the least that can leave.
// It returns how often a pipe is used backward.
func checkGreatest(t *testing.T, n impl.Net, from int, to int) int {
	t.Helper()
	flow, ok := impl.FindFlow(n, from, to)
	want, ways := plainFlow(n, from, to)
	if !ok || !slices.Equal(flow, want) {
		t.Errorf("FindFlow(%v, %d, %d): %v %v instead of %v", n, from, to, flow, ok, want)
	}
	checkFlow(t, n, flow, from, to)
	least, _ := leastLeaving(n, from, to)
	if size := plainFlowSize(n, flow, from, to); size != least || impl.FlowSize(n, flow, from, to) != least {
		t.Errorf("%v has from %d to %d a flow of %d, and %d can leave", n, from, to, size, least)
	}
	if size := impl.GreatestFlow(n, from, to); size != least {
		t.Errorf("GreatestFlow(%v, %d, %d): %d instead of %d", n, from, to, size, least)
	}
	if in, out := passes(n, flow, to); in-out != least {
		t.Errorf("%v has from %d to %d a flow of which %d arrive instead of %d", n, from, to, in-out, least)
	}
	back := 0
	for _, times := range timesBack(n, ways) {
		back += times
	}
	return back
}

func TestGreatestFlows(t *testing.T) {
	random := rand.New(rand.NewSource(21))
	for _, n := range slices.Concat(flowNets(), smallNets(), someNets(random)) {
		for from := range n.Places {
			for to := range n.Places {
				if from != to {
					checkGreatest(t, n, from, to)
				}
			}
		}
	}
}

// TestSentBackFlows checks nets in many of which water has to be sent back.
func TestSentBackFlows(t *testing.T) {
	random := rand.New(rand.NewSource(22))
	withBack := 0
	for _, n := range someBackNets(random, 300) {
		for from := range n.Places {
			for to := range n.Places {
				if from != to && checkGreatest(t, n, from, to) > 0 {
					withBack++
				}
			}
		}
	}
	if withBack < 300 {
		t.Errorf("water is sent back in %d flows only", withBack)
	}
}

// flowSizes are the greatest flows from each place to each other one.
func flowSizes(n impl.Net) []int {
	var sizes []int
	for from := range n.Places {
		for to := range n.Places {
			sizes = append(sizes, impl.GreatestFlow(n, from, to))
		}
	}
	return sizes
}

// TestGreatestFlowsOfOtherNets turns a net, lists its pipes in other orders, and leaves out each pipe.
func TestGreatestFlowsOfOtherNets(t *testing.T) {
	random := rand.New(rand.NewSource(23))
	for _, n := range slices.Concat(flowNets(), someNets(random)[:600], someBackNets(random, 30)) {
		sizes, turned := flowSizes(n), flowSizes(impl.TurnNet(n))
		shuffled := cloneNet(n)
		random.Shuffle(len(n.Pipes), func(i int, k int) {
			shuffled.Pipes[i], shuffled.Pipes[k] = shuffled.Pipes[k], shuffled.Pipes[i]
		})
		if got := flowSizes(shuffled); !slices.Equal(got, sizes) {
			t.Errorf("%v: %v, and in another order of the pipes %v", n, sizes, got)
		}
		for i, size := range sizes {
			from, to := i/n.Places, i%n.Places
			if back := turned[to*n.Places+from]; back != size {
				t.Errorf("%v has from %d to %d a flow of %d, and turned %d", n, from, to, size, back)
			}
			if from != to && (size > impl.OutOf(n, from) || size < impl.WidestWay(n, from, to)) {
				t.Errorf("%v has from %d to %d a flow of %d", n, from, to, size)
			}
		}
		for k, left := range n.Pipes {
			without, _ := impl.WithoutPipe(n, k)
			for i, size := range flowSizes(without) {
				if size > sizes[i] || size < sizes[i]-left.Width {
					t.Errorf("%v has the flows %v, and without pipe %d the flow %d", n, sizes, k, size)
				}
			}
		}
	}
}

// TestCirclesOfWater sends no water, 1 liter and 2 liters around a circle, whose narrowest pipe has the Width 1: what fits has the size 0.
func TestCirclesOfWater(t *testing.T) {
	for places := 2; places <= 8; places++ {
		n := circleNet(places)
		for from := range places {
			for to := range places {
				for liters := 0; liters <= 2; liters++ {
					flow := slices.Repeat([]int{liters}, places)
					size := -1
					if from != to && liters <= 1 {
						size = 0
					}
					if got := impl.FlowSize(n, flow, from, to); got != size {
						t.Errorf("FlowSize(%v, %v, %d, %d): %d", n, flow, from, to, got)
					}
				}
			}
		}
	}
}

func TestIsUsed(t *testing.T) {
	cases := []struct {
		name string
		n    impl.Net
		flow []int
		k    int
		used bool
	}{
		{"the first pipe", threeWays(), []int{1, 0, 0, 1, 0, 0}, 0, true},
		{"a pipe between others that is not used", threeWays(), []int{1, 0, 0, 1, 0, 0}, 2, false},
		{"a pipe between others", threeWays(), []int{1, 0, 0, 1, 0, 0}, 3, true},
		{"the last pipe", threeWays(), []int{0, 0, 0, 0, 0, 9}, 5, true},
		{"the last pipe is not used", threeWays(), []int{5, 4, 3, 2, 6, 0}, 5, false},
		{"no pipe is used", threeWays(), make([]int, 6), 0, false},
		{"a pipe of -1", threeWays(), []int{5, 4, 3, 2, 6, 9}, -1, false},
		{"a pipe of the number of pipes", threeWays(), []int{5, 4, 3, 2, 6, 9}, 6, false},
		{"the least pipe of all", threeWays(), []int{5, 4, 3, 2, 6, 9}, math.MinInt, false},
		{"the greatest pipe of all", threeWays(), []int{5, 4, 3, 2, 6, 9}, math.MaxInt, false},
		{"no amounts", threeWays(), nil, 0, false},
		{"too few amounts", threeWays(), []int{5, 4, 3, 2, 6}, 0, false},
		{"too few amounts, and none for this pipe", threeWays(), []int{5, 4, 3, 2, 6}, 5, false},
		{"too many amounts", threeWays(), []int{5, 4, 3, 2, 6, 9, 0}, 0, false},
		{"too many amounts, and one without a pipe", threeWays(), []int{5, 4, 3, 2, 6, 9, 1}, 6, false},
		{"without pipes", net(5), nil, 0, false},
		{"without pipes, and an amount", net(5), []int{1}, 0, false},
		{"water that is lost", threeWays(), []int{0, 0, 1, 0, 0, 0}, 2, true},
		{"an amount of -1", threeWays(), []int{-1, 4, 3, 2, 6, 9}, 0, false},
		{"an amount of -1 elsewhere", threeWays(), []int{-1, 4, 3, 2, 6, 9}, 1, true},
		{"the least amount of all", threeWays(), []int{math.MinInt, 4, 3, 2, 6, 9}, 0, false},
		{"an amount of Width + 1", threeWays(), []int{6, 4, 3, 2, 6, 9}, 0, true},
		{"the greatest amount of all", threeWays(), []int{math.MaxInt, 4, 3, 2, 6, 9}, 0, true},
		{"20 pipes of the greatest Width", samePipes(20, 1000), slices.Repeat([]int{1000}, 20), 19, true},
		{"a net that is not valid", samePipes(21, 1000), slices.Repeat([]int{1}, 21), 20, true},
		{"a net that is not valid, and a pipe that is not used", net(0, pipe(5, 5, 0)), []int{0}, 0, false},
	}
	for _, c := range cases {
		if used := impl.IsUsed(c.n, c.flow, c.k); used != c.used {
			t.Errorf("%s: %v", c.name, used)
		}
	}
}

// checkNotChanged calls functions with pipes and amounts that are parts of longer lists, which must stay as they are.
func checkNotChanged(t *testing.T, given impl.Net, call func(n impl.Net, flow []int)) {
	t.Helper()
	n, longNet := withSpare(given)
	found, _ := impl.FindFlow(given, 0, 1)
	for _, amounts := range [][]int{found, make([]int, len(n.Pipes)), slices.Repeat([]int{-1}, len(n.Pipes)), {1, 2}} {
		longFlow := append(slices.Clone(amounts), 77, -77)
		beforeNet, beforeFlow := slices.Clone(longNet), slices.Clone(longFlow)
		for range 2 {
			call(n, longFlow[:len(amounts)])
		}
		if !slices.Equal(longNet, beforeNet) || !slices.Equal(longFlow, beforeFlow) {
			t.Errorf("the pipes have become %v instead of %v, and the amounts %v instead of %v", longNet, beforeNet, longFlow, beforeFlow)
		}
	}
}

// TestFlowsAreNotChanged calls each function, and writes into the results.
func TestFlowsAreNotChanged(t *testing.T) {
	for _, given := range slices.Concat(flowNets(), invalidNets()) {
		checkNotChanged(t, given, func(n impl.Net, flow []int) {
			for to := -1; to <= 8; to++ {
				impl.FlowOk(n, flow, 0, to)
				impl.FlowSize(n, flow, 0, to)
				impl.GreatestFlow(n, 0, to)
				found, _ := impl.FindFlow(n, 0, to)
				spoilNumbers(found)
				impl.IsUsed(n, flow, to)
			}
		})
	}
}

// spoilNumbers writes into the memory of a result.
func spoilNumbers(list []int) {
	for i := range list {
		list[i] = -99
	}
	_ = append(list, -99)
}

// TestFoundFlowsKeepTheirAmounts writes into the pipes, and finds other flows, after a flow is found.
func TestFoundFlowsKeepTheirAmounts(t *testing.T) {
	for _, c := range foundFlows() {
		n := cloneNet(c.n)
		flow, _ := impl.FindFlow(n, c.from, c.to)
		other, _ := impl.FindFlow(n, c.from, c.to)
		for i := range other {
			other[i] = -5
		}
		spoilNet(n)
		impl.FindFlow(c.n, c.to, c.from)
		if !slices.Equal(flow, c.flow) {
			t.Errorf("%s: the flow has become %v", c.name, flow)
		}
	}
}

// TestFlowsAtTheSameTime calls the functions from many goroutines: no flow gets water of another one.
func TestFlowsAtTheSameTime(t *testing.T) {
	var all sync.WaitGroup
	for _, c := range foundFlows() {
		all.Go(func() {
			for range 50 {
				flow, ok := impl.FindFlow(c.n, c.from, c.to)
				size := impl.FlowSize(c.n, c.flow, c.from, c.to)
				if greatest := impl.GreatestFlow(c.n, c.from, c.to); !ok || !slices.Equal(flow, c.flow) || size != c.size || greatest != c.size {
					t.Errorf("%s: %v %v, a size of %d and a greatest size of %d", c.name, flow, ok, size, greatest)
				}
			}
		})
	}
	all.Wait()
}
