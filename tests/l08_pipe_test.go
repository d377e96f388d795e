package tests

import (
	"math"
	"math/rand"
	"slices"
	"sync"
	"testing"

	"loop.example/g03307/impl"
)

func pipe(from int, to int, width int) impl.Pipe {
	return impl.Pipe{From: from, To: to, Width: width}
}

func net(places int, pipes ...impl.Pipe) impl.Net {
	return impl.Net{Places: places, Pipes: pipes}
}

func sameNet(a impl.Net, b impl.Net) bool {
	return a.Places == b.Places && slices.Equal(a.Pipes, b.Pipes)
}

func cloneNet(n impl.Net) impl.Net {
	return net(n.Places, slices.Clone(n.Pipes)...)
}

// rowNet leads from each place to the next one. The Width of a pipe is its number plus 1.
func rowNet(places int) impl.Net {
	n := net(places)
	for k := range places - 1 {
		n.Pipes = append(n.Pipes, pipe(k, k+1, k+1))
	}
	return n
}

// circleNet leads from each place to the next one, and from the last one back to 0.
func circleNet(places int) impl.Net {
	n := rowNet(places)
	n.Pipes = append(n.Pipes, pipe(places-1, 0, places))
	return n
}

// reversed is the net with its pipes in the other order.
func reversed(n impl.Net) impl.Net {
	n = cloneNet(n)
	slices.Reverse(n.Pipes)
	return n
}

// threeWays leads from 0 to 3 on three ways, and 4 is reached from nowhere.
func threeWays() impl.Net {
	return net(5, pipe(0, 1, 5), pipe(0, 2, 4), pipe(1, 2, 3), pipe(1, 3, 2), pipe(2, 3, 6), pipe(4, 3, 9))
}

// throughCircle leads from 0 into the circle of 1, 2 and 3, and from 3 on to 4. The circle of 5 and 6 leads into it, and cannot be reached.
func throughCircle() impl.Net {
	return net(7, pipe(3, 4, 6), pipe(5, 6, 9), pipe(2, 3, 7), pipe(6, 1, 3), pipe(0, 1, 8), pipe(3, 1, 5), pipe(1, 2, 9), pipe(6, 5, 2))
}

// fullNet has 8 places and 20 pipes: 0 leads to each other place, and these are a circle, with wide pipes back from each one but the first.
func fullNet() impl.Net {
	n := net(8)
	for place := 1; place < 8; place++ {
		n.Pipes = append(n.Pipes, pipe(0, place, place), pipe(place, place%7+1, 10*place))
		if place > 1 {
			n.Pipes = append(n.Pipes, pipe(place, place-1, 1000))
		}
	}
	return n
}

// samePipes is a net of two places with so many pipes from 0 to 1.
func samePipes(pipes int, width int) impl.Net {
	return net(2, slices.Repeat([]impl.Pipe{pipe(0, 1, width)}, pipes)...)
}

func validNets() []impl.Net {
	nets := []impl.Net{
		threeWays(), throughCircle(), fullNet(), reversed(threeWays()), reversed(throughCircle()), reversed(fullNet()),
		samePipes(1, 1), samePipes(1, 1000), samePipes(2, 7), samePipes(19, 1000), samePipes(20, 1), samePipes(20, 1000),
		net(2, pipe(1, 0, 3)), net(2, pipe(0, 1, 3), pipe(1, 0, 7)), net(2, pipe(0, 1, 3), pipe(0, 1, 7)), net(2, pipe(0, 1, 7), pipe(0, 1, 3)),
		net(8, pipe(0, 7, 1)), net(8, pipe(7, 0, 1000)), net(8, pipe(3, 4, 5), pipe(4, 3, 5)), net(3, pipe(0, 1, 2), pipe(0, 1, 2), pipe(1, 2, 2)),
		net(6, pipe(0, 1, 4), pipe(1, 2, 4), pipe(2, 0, 4), pipe(3, 4, 5), pipe(4, 5, 5), pipe(5, 3, 5)),
	}
	for places := 2; places <= 8; places++ {
		row, circle := rowNet(places), circleNet(places)
		nets = append(nets, net(places), row, reversed(row), circle, reversed(circle))
	}
	return nets
}

func invalidPipes(places int) []impl.Pipe {
	pipes := []impl.Pipe{
		{}, pipe(0, 0, 1), pipe(1, 1, 5), pipe(places-1, places-1, 1000), pipe(-1, -1, 5), pipe(places, places, 5),
		pipe(math.MinInt, math.MaxInt, 5), pipe(math.MaxInt, math.MinInt, 5), pipe(-1, places, 5), pipe(places, -1, 5),
	}
	for _, wrong := range []int{math.MinInt, -2, -1, places, places + 1, 8, math.MaxInt} {
		pipes = append(pipes, pipe(wrong, 0, 5), pipe(0, wrong, 5), pipe(wrong, 1, 5), pipe(1, wrong, 5))
	}
	for _, wrong := range []int{math.MinInt, -1, 0, 1001, 1002, math.MaxInt} {
		pipes = append(pipes, pipe(0, 1, wrong), pipe(1, 0, wrong))
	}
	return pipes
}

func invalidNets() []impl.Net {
	nets := []impl.Net{
		{}, samePipes(21, 1), samePipes(21, 1000), samePipes(22, 5), samePipes(400, 5), samePipes(21, 0), net(8, slices.Repeat([]impl.Pipe{pipe(6, 7, 5)}, 21)...),
		rowNet(9), circleNet(9), rowNet(10), net(9, pipe(0, 1, 5)), net(9, pipe(7, 8, 5)), net(1, pipe(0, 0, 5)), net(1, pipe(0, 1, 5)), net(0, pipe(0, 1, 5)),
		net(2, pipe(0, 1, 5), pipe(1, 2, 5)), net(2, pipe(1, 2, 5), pipe(0, 1, 5)), net(7, fullNet().Pipes...),
	}
	for _, places := range []int{math.MinInt, math.MinInt + 1, -8, -2, -1, 0, 1, 9, 10, 20, math.MaxInt} {
		nets = append(nets, net(places), net(places, pipe(0, 1, 5)))
	}
	for _, good := range []impl.Net{samePipes(1, 5), threeWays(), samePipes(20, 5)} {
		for _, wrong := range invalidPipes(good.Places) {
			for _, k := range []int{0, len(good.Pipes) / 2, len(good.Pipes) - 1} {
				n := cloneNet(good)
				n.Pipes[k] = wrong
				nets = append(nets, n)
			}
		}
	}
	return nets
}

// smallNets are all nets of three places that have at most one pipe from each place to each other one, with a Width of 1 or 2.
func smallNets() []impl.Net {
	var nets []impl.Net
	eachList(6, 0, 2, func(widths []int) {
		n := net(3)
		for k, width := range widths {
			if width > 0 {
				n.Pipes = append(n.Pipes, pipe(k/2, (k/2+k%2+1)%3, width))
			}
		}
		nets = append(nets, n)
	})
	return nets
}

func someNet(random *rand.Rand, mostWidth int) impl.Net {
	n := net(2 + random.Intn(7))
	for range random.Intn(21) {
		from := random.Intn(n.Places)
		to := (from + 1 + random.Intn(n.Places-1)) % n.Places
		n.Pipes = append(n.Pipes, pipe(from, to, 1+random.Intn(mostWidth)))
	}
	return n
}

func someNets(random *rand.Rand) []impl.Net {
	var nets []impl.Net
	for _, mostWidth := range []int{1, 2, 5, 1000} {
		for range 250 {
			nets = append(nets, someNet(random, mostWidth))
		}
	}
	return nets
}

// wrongPlaces are places that the net does not have.
func wrongPlaces(n impl.Net) []int {
	return []int{math.MinInt, -8, -2, -1, n.Places, n.Places + 1, n.Places + 8, math.MaxInt}
}

// widestFrom tries each way from a place on that comes to no place twice, and returns how wide the widest one to another place is.
// The way up to here is so wide, and has been at these places.
func widestFrom(n impl.Net, at int, to int, width int, been []int) int {
	if at == to {
		return width
	}
	been = append(slices.Clone(been), at)
	widest := 0
	for _, p := range n.Pipes {
		if p.From == at && !slices.Contains(been, p.To) {
			widest = max(widest, widestFrom(n, p.To, to, min(width, p.Width), been))
		}
	}
	return widest
}

// plainWidest is what WidestWay must return for two different places.
func plainWidest(n impl.Net, from int, to int) int {
	return widestFrom(n, from, to, math.MaxInt, nil)
}

// plainReached is what ReachedBy must return.
func plainReached(n impl.Net, from int) []int {
	var places []int
	for to := range n.Places {
		if to == from || plainWidest(n, from, to) > 0 {
			places = append(places, to)
		}
	}
	return places
}

func TestNetOk(t *testing.T) {
	for _, n := range slices.Concat(validNets(), smallNets()) {
		if !impl.NetOk(n) {
			t.Errorf("%v is not valid", n)
		}
	}
	for _, n := range invalidNets() {
		if impl.NetOk(n) {
			t.Errorf("%v is valid", n)
		}
	}
}

func TestNetLimits(t *testing.T) {
	for places := -3; places <= 20; places++ {
		right := places >= 2 && places <= 8
		if ok := impl.NetOk(net(places)); ok != right {
			t.Errorf("%d places without pipes: %v", places, ok)
		}
		if ok := impl.NetOk(net(places, pipe(0, 1, 5), pipe(1, 0, 5))); ok != right {
			t.Errorf("%d places with pipes: %v", places, ok)
		}
	}
	for pipes := range 60 {
		if ok := impl.NetOk(samePipes(pipes, 5)); ok != (pipes <= 20) {
			t.Errorf("%d pipes: %v", pipes, ok)
		}
	}
}

// TestPipeLimits gives each pipe of a net each From and To, for nets of all numbers of places.
func TestPipeLimits(t *testing.T) {
	for places := 2; places <= 8; places++ {
		for from := -3; from <= places+2; from++ {
			for to := -3; to <= places+2; to++ {
				for _, k := range []int{0, 1, 2} {
					n := net(places, pipe(0, 1, 5), pipe(1, 0, 5), pipe(0, 1, 6))
					n.Pipes[k] = pipe(from, to, 5)
					right := from != to && min(from, to) >= 0 && max(from, to) < places
					if ok := impl.NetOk(n); ok != right {
						t.Errorf("%v: %v", n, ok)
					}
				}
			}
		}
	}
}

func TestPipeWidthLimits(t *testing.T) {
	cases := []struct {
		width int
		ok    bool
	}{
		{math.MinInt, false}, {-1000, false}, {-1, false}, {0, false}, {1, true}, {2, true}, {500, true}, {999, true}, {1000, true}, {1001, false}, {1002, false}, {math.MaxInt, false},
	}
	for _, c := range cases {
		for _, pipes := range []int{1, 2, 20} {
			for k := range pipes {
				n := samePipes(pipes, 5)
				n.Pipes[k].Width = c.width
				if ok := impl.NetOk(n); ok != c.ok {
					t.Errorf("a Width of %d of pipe %d of %d: %v", c.width, k, pipes, ok)
				}
			}
		}
	}
}

func TestReachedBy(t *testing.T) {
	all := []int{0, 1, 2, 3, 4, 5, 6, 7}
	cases := []struct {
		name   string
		n      impl.Net
		from   int
		places []int
	}{
		{"all but the one that no water reaches", threeWays(), 0, []int{0, 1, 2, 3}},
		{"from the middle", threeWays(), 1, []int{1, 2, 3}},
		{"from another one of the middle", threeWays(), 2, []int{2, 3}},
		{"from the end", threeWays(), 3, []int{3}},
		{"from the one that no water reaches", threeWays(), 4, []int{3, 4}},
		{"without pipes", net(5), 3, []int{3}},
		{"two places without pipes", net(2), 0, []int{0}},
		{"eight places without pipes", net(8), 7, []int{7}},
		{"two places", samePipes(1, 1), 0, []int{0, 1}},
		{"two places, against the pipe", samePipes(1, 1), 1, []int{1}},
		{"two pipes in opposite directions", net(2, pipe(0, 1, 3), pipe(1, 0, 7)), 1, []int{0, 1}},
		{"two pipes in the same direction", net(2, pipe(0, 1, 3), pipe(0, 1, 7)), 0, []int{0, 1}},
		{"two pipes in the same direction, against them", net(2, pipe(0, 1, 3), pipe(0, 1, 7)), 1, []int{1}},
		{"a circle of two places", net(4, pipe(1, 3, 5), pipe(3, 1, 5)), 3, []int{1, 3}},
		{"a circle of two places that cannot be reached", net(4, pipe(1, 3, 5), pipe(3, 1, 5)), 0, []int{0}},
		{"a circle of three places", net(4, pipe(2, 0, 5), pipe(3, 2, 5), pipe(0, 3, 5)), 2, []int{0, 2, 3}},
		{"a circle of three places that cannot be reached", net(4, pipe(2, 0, 5), pipe(3, 2, 5), pipe(0, 3, 5)), 1, []int{1}},
		{"a circle of all eight", circleNet(8), 5, all},
		{"a circle of all eight, listed the other way around", reversed(circleNet(8)), 0, all},
		{"through a circle", throughCircle(), 0, []int{0, 1, 2, 3, 4}},
		{"from the circle", throughCircle(), 2, []int{1, 2, 3, 4}},
		{"behind the circle", throughCircle(), 4, []int{4}},
		{"from the circle that cannot be reached", throughCircle(), 5, []int{1, 2, 3, 4, 5, 6}},
		{"a long row", rowNet(8), 0, all},
		{"a long row, listed from its end", reversed(rowNet(8)), 0, all},
		{"the end of a long row", rowNet(8), 6, []int{6, 7}},
		{"descending pipes", net(8, pipe(0, 7, 1), pipe(0, 5, 1), pipe(0, 3, 1), pipe(3, 1, 1)), 0, []int{0, 1, 3, 5, 7}},
		{"ascending pipes", net(8, pipe(3, 1, 1), pipe(0, 3, 1), pipe(0, 5, 1), pipe(0, 7, 1)), 0, []int{0, 1, 3, 5, 7}},
		{"from the greatest place down", net(8, pipe(7, 6, 9), pipe(6, 4, 9), pipe(4, 0, 9)), 7, []int{0, 4, 6, 7}},
		{"20 pipes", fullNet(), 0, all},
		{"20 pipes, and a place that no water reaches", fullNet(), 4, []int{1, 2, 3, 4, 5, 6, 7}},
		{"20 pipes to the same place", samePipes(20, 1000), 0, []int{0, 1}},
	}
	for _, c := range cases {
		if places := impl.ReachedBy(c.n, c.from); !slices.Equal(places, c.places) {
			t.Errorf("%s: %v", c.name, places)
		}
	}
}

func TestWidestWay(t *testing.T) {
	longer := net(6, pipe(0, 5, 3), pipe(0, 1, 9), pipe(1, 2, 8), pipe(2, 3, 7), pipe(3, 5, 8))
	cases := []struct {
		name           string
		n              impl.Net
		from, to, wide int
	}{
		{"the widest of three ways", threeWays(), 0, 3, 4},
		{"a direct pipe", threeWays(), 0, 1, 5},
		{"a direct pipe that is wider than the other way", threeWays(), 0, 2, 4},
		{"another way that is wider than a direct pipe", threeWays(), 1, 3, 3},
		{"no way back", threeWays(), 3, 0, 0},
		{"no way to a place that no water reaches", threeWays(), 0, 4, 0},
		{"from a place that no water reaches", threeWays(), 4, 3, 9},
		{"the narrowest pipe is the first one", net(4, pipe(0, 1, 2), pipe(1, 2, 5), pipe(2, 3, 9)), 0, 3, 2},
		{"the narrowest pipe is between others", net(4, pipe(0, 1, 5), pipe(1, 2, 2), pipe(2, 3, 9)), 0, 3, 2},
		{"the narrowest pipe is the last one", net(4, pipe(0, 1, 5), pipe(1, 2, 9), pipe(2, 3, 2)), 0, 3, 2},
		{"a wide way that is longer than a narrow one", longer, 0, 5, 7},
		{"a wide way that is longer than a narrow one, listed from its end", reversed(longer), 0, 5, 7},
		{"a long way that is as wide as a short one", net(3, pipe(0, 2, 7), pipe(0, 1, 7), pipe(1, 2, 9)), 0, 2, 7},
		{"a long way that is narrower by one", net(3, pipe(0, 2, 7), pipe(0, 1, 6), pipe(1, 2, 9)), 0, 2, 7},
		{"a long way that is wider by one", net(3, pipe(0, 2, 7), pipe(0, 1, 8), pipe(1, 2, 9)), 0, 2, 8},
		{"a wide pipe that leads elsewhere", net(4, pipe(0, 3, 1000), pipe(0, 1, 2), pipe(1, 2, 3), pipe(3, 0, 999)), 0, 2, 2},
		{"without pipes", net(5), 0, 4, 0},
		{"two places without pipes", net(2), 1, 0, 0},
		{"eight places without pipes", net(8), 7, 0, 0},
		{"two places", samePipes(1, 4), 0, 1, 4},
		{"two places, against the pipe", samePipes(1, 4), 1, 0, 0},
		{"the least Width", samePipes(1, 1), 0, 1, 1},
		{"the greatest Width", samePipes(1, 1000), 0, 1, 1000},
		{"the least Width after the greatest one", net(3, pipe(0, 1, 1000), pipe(1, 2, 1)), 0, 2, 1},
		{"the greatest Width beside the least one", net(3, pipe(0, 2, 1), pipe(0, 1, 1000), pipe(1, 2, 1000)), 0, 2, 1000},
		{"two pipes in the same direction", net(2, pipe(0, 1, 3), pipe(0, 1, 7)), 0, 1, 7},
		{"two pipes in the same direction, the wide one first", net(2, pipe(0, 1, 7), pipe(0, 1, 3)), 0, 1, 7},
		{"two pipes in the same direction, against them", net(2, pipe(0, 1, 3), pipe(0, 1, 7)), 1, 0, 0},
		{"two pipes in opposite directions", net(2, pipe(0, 1, 3), pipe(1, 0, 7)), 0, 1, 3},
		{"two pipes in opposite directions, the other way", net(2, pipe(0, 1, 3), pipe(1, 0, 7)), 1, 0, 7},
		{"20 pipes between the same places", samePipes(20, 9), 0, 1, 9},
		{"a circle of three places", circleNet(3), 1, 0, 2},
		{"a circle of all eight", circleNet(8), 7, 6, 1},
		{"a circle of all eight, from its widest pipe", circleNet(8), 3, 0, 4},
		{"a circle that cannot be reached", throughCircle(), 0, 5, 0},
		{"from a circle that cannot be reached", throughCircle(), 5, 4, 3},
		{"through a circle", throughCircle(), 0, 4, 6},
		{"around a circle", throughCircle(), 2, 1, 5},
		{"a part of a circle", throughCircle(), 1, 3, 7},
		{"back out of a circle", throughCircle(), 4, 1, 0},
		{"a long row", rowNet(8), 0, 7, 1},
		{"a long row, listed from its end", reversed(rowNet(8)), 0, 7, 1},
		{"the end of a long row", rowNet(8), 5, 7, 6},
		{"20 pipes", fullNet(), 0, 1, 7},
		{"20 pipes, and no way back", fullNet(), 1, 0, 0},
	}
	for _, c := range cases {
		if wide := impl.WidestWay(c.n, c.from, c.to); wide != c.wide {
			t.Errorf("%s: %d", c.name, wide)
		}
	}
}

func TestOutOf(t *testing.T) {
	cases := []struct {
		name string
		n    impl.Net
		outs []int
	}{
		{"three ways", threeWays(), []int{9, 5, 6, 0, 9}},
		{"through a circle", throughCircle(), []int{8, 9, 7, 11, 0, 9, 5}},
		{"without pipes", net(3), []int{0, 0, 0}},
		{"eight places without pipes", net(8), []int{0, 0, 0, 0, 0, 0, 0, 0}},
		{"one pipe", samePipes(1, 1), []int{1, 0}},
		{"one pipe of the greatest Width", net(2, pipe(1, 0, 1000)), []int{0, 1000}},
		{"two pipes in the same direction", net(2, pipe(0, 1, 3), pipe(0, 1, 7)), []int{10, 0}},
		{"two equal pipes", samePipes(2, 7), []int{14, 0}},
		{"two pipes in opposite directions", net(2, pipe(0, 1, 3), pipe(1, 0, 7)), []int{3, 7}},
		{"the first and the last pipe", net(4, pipe(2, 3, 5), pipe(3, 1, 9), pipe(2, 0, 6)), []int{0, 0, 11, 9}},
		{"a circle of two places", circleNet(2), []int{1, 2}},
		{"a circle of three places", circleNet(3), []int{1, 2, 3}},
		{"a circle of all eight", reversed(circleNet(8)), []int{1, 2, 3, 4, 5, 6, 7, 8}},
		{"20 pipes", fullNet(), []int{28, 10, 1020, 1030, 1040, 1050, 1060, 1070}},
		{"20 pipes of the greatest Width", samePipes(20, 1000), []int{20000, 0}},
	}
	for _, c := range cases {
		for place, want := range c.outs {
			if out := impl.OutOf(c.n, place); out != want {
				t.Errorf("%s: %d out of place %d", c.name, out, place)
			}
		}
	}
}

func TestWithoutPipe(t *testing.T) {
	row := rowNet(4)
	cases := []struct {
		name string
		n    impl.Net
		k    int
		want impl.Net
	}{
		{"the first pipe", row, 0, net(4, pipe(1, 2, 2), pipe(2, 3, 3))},
		{"a pipe between others", row, 1, net(4, pipe(0, 1, 1), pipe(2, 3, 3))},
		{"the last pipe", row, 2, net(4, pipe(0, 1, 1), pipe(1, 2, 2))},
		{"the only pipe", samePipes(1, 5), 0, net(2)},
		{"the first one of two pipes", net(2, pipe(0, 1, 3), pipe(1, 0, 7)), 0, net(2, pipe(1, 0, 7))},
		{"the last one of two pipes", net(2, pipe(0, 1, 3), pipe(1, 0, 7)), 1, net(2, pipe(0, 1, 3))},
		{"one of two pipes in the same direction", net(2, pipe(0, 1, 3), pipe(0, 1, 7)), 0, net(2, pipe(0, 1, 7))},
		{"one of two equal pipes", samePipes(2, 7), 1, samePipes(1, 7)},
		{"one of 20 equal pipes", samePipes(20, 7), 19, samePipes(19, 7)},
		{"the first one of 20 pipes", fullNet(), 0, net(8, fullNet().Pipes[1:]...)},
		{"the last one of 20 pipes", fullNet(), 19, net(8, fullNet().Pipes[:19]...)},
		{"the pipe that closes a circle of all eight", circleNet(8), 7, rowNet(8)},
	}
	for _, c := range cases {
		if got, ok := impl.WithoutPipe(c.n, c.k); !sameNet(got, c.want) || !ok {
			t.Errorf("%s: %v %v", c.name, got, ok)
		}
	}
}

func TestTurnNet(t *testing.T) {
	cases := []struct {
		name    string
		n, want impl.Net
	}{
		{"three ways", threeWays(), net(5, pipe(1, 0, 5), pipe(2, 0, 4), pipe(2, 1, 3), pipe(3, 1, 2), pipe(3, 2, 6), pipe(3, 4, 9))},
		{"without pipes", net(5), net(5)},
		{"two places without pipes", net(2), net(2)},
		{"eight places without pipes", net(8), net(8)},
		{"one pipe", samePipes(1, 1), net(2, pipe(1, 0, 1))},
		{"two pipes in the same direction", net(2, pipe(0, 1, 3), pipe(0, 1, 7)), net(2, pipe(1, 0, 3), pipe(1, 0, 7))},
		{"two pipes in opposite directions", net(2, pipe(0, 1, 3), pipe(1, 0, 7)), net(2, pipe(1, 0, 3), pipe(0, 1, 7))},
		{"a circle of three places", circleNet(3), net(3, pipe(1, 0, 1), pipe(2, 1, 2), pipe(0, 2, 3))},
		{"20 pipes", samePipes(20, 1000), net(2, slices.Repeat([]impl.Pipe{pipe(1, 0, 1000)}, 20)...)},
	}
	for _, c := range cases {
		if got := impl.TurnNet(c.n); !sameNet(got, c.want) {
			t.Errorf("%s: %v", c.name, got)
		}
	}
}

// checkNoPlace checks the fixed results for a net that is not valid, or a place that it does not have.
func checkNoPlace(t *testing.T, n impl.Net, place int) {
	t.Helper()
	if places := impl.ReachedBy(n, place); len(places) != 0 {
		t.Errorf("ReachedBy(%v, %d): %v", n, place, places)
	}
	if out := impl.OutOf(n, place); out != -1 {
		t.Errorf("OutOf(%v, %d): %d", n, place, out)
	}
	for _, other := range []int{-1, 0, 1, n.Places - 1, n.Places, place} {
		if wide := impl.WidestWay(n, place, other); wide != -1 {
			t.Errorf("WidestWay(%v, %d, %d): %d", n, place, other, wide)
		}
		if wide := impl.WidestWay(n, other, place); wide != -1 {
			t.Errorf("WidestWay(%v, %d, %d): %d", n, other, place, wide)
		}
	}
}

func TestInvalidPlaces(t *testing.T) {
	for _, n := range invalidNets() {
		for place := -1; place <= 9; place++ {
			checkNoPlace(t, n, place)
		}
		for _, place := range wrongPlaces(n) {
			checkNoPlace(t, n, place)
		}
	}
	for _, n := range validNets() {
		for _, place := range wrongPlaces(n) {
			checkNoPlace(t, n, place)
		}
		for place := range n.Places {
			if wide := impl.WidestWay(n, place, place); wide != -1 {
				t.Errorf("WidestWay(%v, %d, %d): %d", n, place, place, wide)
			}
		}
	}
}

// checkUnchanged checks that a result is the net as it was before the call, in memory of its own.
func checkUnchanged(t *testing.T, n impl.Net, before impl.Net, got impl.Net) {
	t.Helper()
	if !sameNet(got, before) {
		t.Errorf("%v is not unchanged: %v", before, got)
	}
	spoilNet(got)
	if !sameNet(n, before) {
		t.Errorf("the result has the memory of %v", before)
	}
}

// spoilNet writes into the memory of a result.
func spoilNet(n impl.Net) {
	for k := range n.Pipes {
		n.Pipes[k] = pipe(-5, -6, -7)
	}
	_ = append(n.Pipes, pipe(-5, -6, -7))
}

// withSpare is the net with room behind its pipes, as a part of a longer list has it, and this longer list.
func withSpare(n impl.Net) (impl.Net, []impl.Pipe) {
	long := append(slices.Clone(n.Pipes), pipe(77, 78, 79), pipe(-77, -78, -79))
	return net(n.Places, long[:len(n.Pipes)]...), long
}

func TestInvalidWithoutPipe(t *testing.T) {
	check := func(n impl.Net, k int) {
		t.Helper()
		before := cloneNet(n)
		got, ok := impl.WithoutPipe(n, k)
		if ok {
			t.Errorf("WithoutPipe(%v, %d) is true", n, k)
		}
		checkUnchanged(t, n, before, got)
	}
	wrong := func(n impl.Net) []int {
		return []int{math.MinInt, -20, -2, -1, len(n.Pipes), len(n.Pipes) + 1, len(n.Pipes) + 20, math.MaxInt}
	}
	for _, n := range invalidNets() {
		for _, k := range append(wrong(n), 0, 1, len(n.Pipes)/2, len(n.Pipes)-1) {
			check(n, k)
		}
	}
	for _, n := range validNets() {
		for _, k := range wrong(n) {
			check(n, k)
		}
	}
}

func TestInvalidTurnNet(t *testing.T) {
	for _, n := range invalidNets() {
		before := cloneNet(n)
		checkUnchanged(t, n, before, impl.TurnNet(n))
	}
}

// checkNet is promise 8, for one net: a way is as wide as its narrowest pipe, and the net that is turned leads back.
func checkNet(t *testing.T, n impl.Net) {
	t.Helper()
	turned := impl.TurnNet(n)
	if !impl.NetOk(turned) || !sameNet(impl.TurnNet(turned), n) {
		t.Errorf("%v, turned: %v", n, turned)
	}
	for from := range n.Places {
		reached := impl.ReachedBy(n, from)
		if want := plainReached(n, from); !slices.Equal(reached, want) {
			t.Errorf("ReachedBy(%v, %d): %v instead of %v", n, from, reached, want)
		}
		for to := range n.Places {
			if back := impl.ReachedBy(turned, to); slices.Contains(reached, to) != slices.Contains(back, from) {
				t.Errorf("%v leads from %d to %v, and turned from %d to %v", n, from, reached, to, back)
			}
			if from == to {
				continue
			}
			wide := impl.WidestWay(n, from, to)
			if want := plainWidest(n, from, to); wide != want {
				t.Errorf("WidestWay(%v, %d, %d): %d instead of %d", n, from, to, wide, want)
			}
			if back := impl.WidestWay(turned, to, from); back != wide {
				t.Errorf("%v has from %d to %d the width %d, and turned %d", n, from, to, wide, back)
			}
			if slices.Contains(reached, to) != (wide > 0) {
				t.Errorf("%v leads from %d to %v, and has to %d the width %d", n, from, reached, to, wide)
			}
		}
	}
}

func TestWaysAndTurnedNets(t *testing.T) {
	random := rand.New(rand.NewSource(15))
	for _, n := range slices.Concat(validNets(), smallNets(), someNets(random)) {
		checkNet(t, n)
	}
}

// TestOnlyWidePipesLead leaves all pipes out that are narrower than a way is wide, and then the narrowest ones that are left too.
func TestOnlyWidePipesLead(t *testing.T) {
	random := rand.New(rand.NewSource(16))
	for _, n := range slices.Concat(validNets(), smallNets(), someNets(random)) {
		for from := range n.Places {
			for to := range n.Places {
				wide := impl.WidestWay(n, from, to)
				if wide <= 0 {
					continue
				}
				if got := impl.WidestWay(wideNet(n, wide), from, to); got != wide {
					t.Errorf("%v has from %d to %d the width %d, and without narrower pipes %d", n, from, to, wide, got)
				}
				if got := impl.WidestWay(wideNet(n, wide+1), from, to); got != 0 {
					t.Errorf("%v has from %d to %d the width %d, and without pipes of this Width %d", n, from, to, wide, got)
				}
			}
		}
	}
}

// wideNet is the net without the pipes that are narrower than this, which are left out one after the other.
func wideNet(n impl.Net, width int) impl.Net {
	for k := len(n.Pipes) - 1; k >= 0; k-- {
		if n.Pipes[k].Width < width {
			n, _ = impl.WithoutPipe(n, k)
		}
	}
	return n
}

// TestEachPipeLeftOut checks that a net without a pipe has all others, in their order, and never leads further.
func TestEachPipeLeftOut(t *testing.T) {
	random := rand.New(rand.NewSource(17))
	for _, n := range slices.Concat(validNets(), someNets(random)) {
		for k, left := range n.Pipes {
			got, ok := impl.WithoutPipe(n, k)
			if want := net(n.Places, slices.Concat(n.Pipes[:k], n.Pipes[k+1:])...); !ok || !sameNet(got, want) || !impl.NetOk(got) {
				t.Fatalf("WithoutPipe(%v, %d): %v %v", n, k, got, ok)
			}
			for place := range n.Places {
				out := impl.OutOf(n, place)
				if place == left.From {
					out -= left.Width
				}
				if impl.OutOf(got, place) != out {
					t.Errorf("%v without pipe %d has %d out of place %d", n, k, impl.OutOf(got, place), place)
				}
				for to := range n.Places {
					if impl.WidestWay(got, place, to) > impl.WidestWay(n, place, to) {
						t.Errorf("%v without pipe %d has a wider way from %d to %d", n, k, place, to)
					}
				}
			}
		}
	}
}

// TestWidthsOutOfAllPlaces checks that each pipe begins at one place, and ends where it begins in the net that is turned.
func TestWidthsOutOfAllPlaces(t *testing.T) {
	random := rand.New(rand.NewSource(18))
	for _, n := range slices.Concat(validNets(), smallNets(), someNets(random)) {
		turned := impl.TurnNet(n)
		outs, ins := make([]int, n.Places), make([]int, n.Places)
		for _, p := range n.Pipes {
			outs[p.From] += p.Width
			ins[p.To] += p.Width
		}
		for place := range n.Places {
			if out := impl.OutOf(n, place); out != outs[place] {
				t.Errorf("%v has %d out of place %d", n, out, place)
			}
			if in := impl.OutOf(turned, place); in != ins[place] {
				t.Errorf("%v, turned, has %d out of place %d", n, in, place)
			}
		}
	}
}

// netWays is what ReachedBy and WidestWay return for each place of a net.
type netWays struct {
	reached [][]int
	widest  []int
}

func waysIn(n impl.Net) netWays {
	var w netWays
	for from := range n.Places {
		w.reached = append(w.reached, impl.ReachedBy(n, from))
		for to := range n.Places {
			w.widest = append(w.widest, impl.WidestWay(n, from, to))
		}
	}
	return w
}

func sameWays(a netWays, b netWays) bool {
	return slices.EqualFunc(a.reached, b.reached, slices.Equal[[]int]) && slices.Equal(a.widest, b.widest)
}

// TestOrderOfPipes lists the same pipes in other orders: ways do not depend on it.
func TestOrderOfPipes(t *testing.T) {
	random := rand.New(rand.NewSource(19))
	for _, n := range slices.Concat(validNets(), someNets(random)) {
		want := waysIn(n)
		shuffled := cloneNet(n)
		for range 5 {
			if got := waysIn(shuffled); !sameWays(got, want) {
				t.Errorf("%v: %v instead of %v", shuffled, got, want)
			}
			random.Shuffle(len(shuffled.Pipes), func(i int, k int) {
				shuffled.Pipes[i], shuffled.Pipes[k] = shuffled.Pipes[k], shuffled.Pipes[i]
			})
		}
		for _, places := range want.reached {
			if !slices.IsSorted(places) {
				t.Errorf("%v has the places %v", n, places)
			}
		}
	}
}

// TestNetsAreNotChanged calls each function with pipes that are a part of a longer list, and writes into the results.
func TestNetsAreNotChanged(t *testing.T) {
	for _, given := range slices.Concat(validNets(), invalidNets()) {
		n, long := withSpare(given)
		before := slices.Clone(long)
		for range 2 {
			impl.NetOk(n)
			for place := -1; place < 9; place++ {
				places := impl.ReachedBy(n, place)
				for i := range places {
					places[i] = -99
				}
				_ = append(places, -99)
				impl.OutOf(n, place)
				impl.WidestWay(n, 0, place)
			}
			for k := -1; k <= min(len(n.Pipes), 25); k++ {
				without, _ := impl.WithoutPipe(n, k)
				spoilNet(without)
			}
			spoilNet(impl.TurnNet(n))
		}
		if !slices.Equal(long, before) {
			t.Errorf("the pipes have become %v instead of %v", long, before)
		}
	}
}

// TestResultsKeepTheirPipes writes into the pipes of a net after the calls.
func TestResultsKeepTheirPipes(t *testing.T) {
	for _, given := range slices.Concat(validNets(), invalidNets()) {
		for k := -1; k <= min(len(given.Pipes), 25); k++ {
			n, long := withSpare(given)
			without, _ := impl.WithoutPipe(n, k)
			turned := impl.TurnNet(n)
			wantWithout, wantTurned := cloneNet(without), cloneNet(turned)
			for i := range long {
				long[i] = pipe(-1, -2, -3)
			}
			if !sameNet(without, wantWithout) || !sameNet(turned, wantTurned) {
				t.Errorf("%v: the results have become %v and %v", given, without, turned)
			}
		}
	}
}

// TestNetsAtTheSameTime calls the functions from many goroutines: no net gets places of another one.
func TestNetsAtTheSameTime(t *testing.T) {
	var all sync.WaitGroup
	for _, n := range validNets() {
		want := waysIn(n)
		all.Go(func() {
			for range 20 {
				if got := waysIn(n); !sameWays(got, want) {
					t.Errorf("%v: %v instead of %v", n, got, want)
				}
			}
		})
	}
	all.Wait()
}
