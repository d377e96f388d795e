package tests

import (
	"math"
	"math/rand"
	"slices"
	"testing"

	"loop.example/g03307/impl"
)

func cistern(room int, level int) impl.Cistern {
	return impl.Cistern{Room: room, Level: level}
}

// validCisterns are empty, full and other cisterns, with the limits of Room and Level and their neighbors.
func validCisterns() []impl.Cistern {
	var cisterns []impl.Cistern
	for _, room := range []int{1, 2, 3, 7, 30, 99, 100, 101, 3000, 999999, 1000000} {
		levels := []int{0, 1, 2, room / 3, room / 2, room - 2, room - 1, room}
		slices.Sort(levels)
		for _, level := range slices.Compact(levels) {
			if level >= 0 && level <= room {
				cisterns = append(cisterns, cistern(room, level))
			}
		}
	}
	return cisterns
}

func invalidCisterns() []impl.Cistern {
	return []impl.Cistern{
		{}, cistern(0, 1), cistern(0, -1), cistern(-1, 0), cistern(-1, -1), cistern(-2, -3), cistern(-30, 20), cistern(-30, -30),
		cistern(1000001, 0), cistern(1000001, 500), cistern(1000001, 1000000), cistern(1000001, 1000001), cistern(1000001, 1000002),
		cistern(30, 31), cistern(30, 32), cistern(30, -1), cistern(30, -20), cistern(1, 2), cistern(1, -1), cistern(1000000, 1000001), cistern(1000000, -1),
		cistern(math.MinInt, 0), cistern(math.MaxInt, 0), cistern(30, math.MinInt), cistern(30, math.MaxInt),
		cistern(math.MinInt, math.MinInt), cistern(math.MaxInt, math.MaxInt), cistern(math.MinInt, math.MaxInt), cistern(math.MaxInt, math.MinInt),
	}
}

func someWaters() []int {
	return []int{0, 1, 2, 3, 7, 10, 29, 30, 31, 99, 100, 101, 1500, 999999, 1000000}
}

func wrongWaters() []int {
	return []int{math.MinInt, -1000000, -20, -1, 1000001, 1000002, 5000000, math.MaxInt}
}

// moveByLiters is what Balance must do, one liter at a time.
func moveByLiters(a impl.Cistern, b impl.Cistern, water int) (impl.Cistern, impl.Cistern, int) {
	moved := 0
	for moved < water && a.Level > 0 && b.Level < b.Room {
		a.Level--
		b.Level++
		moved++
	}
	return a, b, moved
}

// smallCisterns are all cisterns of a Room of up to 5.
func smallCisterns() []impl.Cistern {
	var cisterns []impl.Cistern
	for room := 1; room <= 5; room++ {
		for level := 0; level <= room; level++ {
			cisterns = append(cisterns, cistern(room, level))
		}
	}
	return cisterns
}

func TestCisternOk(t *testing.T) {
	for _, c := range slices.Concat(validCisterns(), smallCisterns()) {
		if !impl.CisternOk(c) {
			t.Errorf("%v is not valid", c)
		}
	}
	for _, c := range invalidCisterns() {
		if impl.CisternOk(c) {
			t.Errorf("%v is valid", c)
		}
	}
}

func TestCisternLimits(t *testing.T) {
	cases := []struct {
		room, level int
		ok          bool
	}{
		{0, 0, false}, {1, 0, true}, {1, 1, true}, {1, 2, false}, {1, -1, false}, {2, 2, true}, {2, 3, false},
		{999999, 999999, true}, {999999, 1000000, false},
		{1000000, 0, true}, {1000000, -1, false}, {1000000, 999999, true}, {1000000, 1000000, true}, {1000000, 1000001, false},
		{1000001, 0, false}, {1000001, 1, false}, {1000001, 1000000, false}, {1000001, 1000001, false},
	}
	for _, c := range cases {
		if ok := impl.CisternOk(cistern(c.room, c.level)); ok != c.ok {
			t.Errorf("a Room of %d and a Level of %d: %v", c.room, c.level, ok)
		}
	}
	for level := -3; level <= 33; level++ {
		if ok := impl.CisternOk(cistern(30, level)); ok != (level >= 0 && level <= 30) {
			t.Errorf("a Room of 30 and a Level of %d: %v", level, ok)
		}
	}
}

func TestPour(t *testing.T) {
	cases := []struct {
		name        string
		room, level int
		water       int
		after, over int
	}{
		{"some of the space", 30, 20, 4, 24, 0},
		{"more than the space", 30, 20, 15, 30, 5},
		{"one liter less than the space", 30, 20, 9, 29, 0},
		{"just the space", 30, 20, 10, 30, 0},
		{"one liter more than the space", 30, 20, 11, 30, 1},
		{"nothing", 30, 20, 0, 20, 0},
		{"nothing into an empty one", 30, 0, 0, 0, 0},
		{"nothing into a full one", 30, 30, 0, 30, 0},
		{"one liter into an empty one", 30, 0, 1, 1, 0},
		{"one liter into a full one", 30, 30, 1, 30, 1},
		{"all the Room of an empty one", 30, 0, 30, 30, 0},
		{"one liter more than the Room of an empty one", 30, 0, 31, 30, 1},
		{"the last liter", 30, 29, 1, 30, 0},
		{"as much as is there", 30, 20, 20, 30, 10},
		{"the most water", 30, 20, 1000000, 30, 999990},
		{"the most water into a full one", 30, 30, 1000000, 30, 1000000},
		{"the least cistern", 1, 0, 1, 1, 0},
		{"the least cistern, one liter more", 1, 0, 2, 1, 1},
		{"the least cistern, full", 1, 1, 1, 1, 1},
		{"the most water into the greatest cistern", 1000000, 0, 1000000, 1000000, 0},
		{"the most water into the greatest cistern with one liter", 1000000, 1, 1000000, 1000000, 1},
		{"the most water into the greatest cistern, full", 1000000, 1000000, 1000000, 1000000, 1000000},
		{"one liter into the greatest cistern, full", 1000000, 1000000, 1, 1000000, 1},
		{"one liter into the greatest cistern", 1000000, 999999, 1, 1000000, 0},
		{"the most water into one with one liter less", 999999, 0, 1000000, 999999, 1},
	}
	for _, c := range cases {
		if after, over := impl.Pour(cistern(c.room, c.level), c.water); after != cistern(c.room, c.after) || over != c.over {
			t.Errorf("%s: %v and %d", c.name, after, over)
		}
	}
}

func TestTakeOut(t *testing.T) {
	cases := []struct {
		name         string
		room, level  int
		water        int
		after, drawn int
	}{
		{"some of what is there", 30, 20, 4, 16, 4},
		{"more than there is", 30, 20, 25, 0, 20},
		{"one liter less than there is", 30, 20, 19, 1, 19},
		{"just what is there", 30, 20, 20, 0, 20},
		{"one liter more than there is", 30, 20, 21, 0, 20},
		{"nothing", 30, 20, 0, 20, 0},
		{"nothing of an empty one", 30, 0, 0, 0, 0},
		{"nothing of a full one", 30, 30, 0, 30, 0},
		{"one liter of an empty one", 30, 0, 1, 0, 0},
		{"one liter of a full one", 30, 30, 1, 29, 1},
		{"all of a full one", 30, 30, 30, 0, 30},
		{"one liter more than a full one has", 30, 30, 31, 0, 30},
		{"the last liter", 30, 1, 1, 0, 1},
		{"as much as there is space", 30, 20, 10, 10, 10},
		{"the most water", 30, 20, 1000000, 0, 20},
		{"the most water of an empty one", 30, 0, 1000000, 0, 0},
		{"the least cistern", 1, 1, 1, 0, 1},
		{"the least cistern, one liter more", 1, 1, 2, 0, 1},
		{"the least cistern, empty", 1, 0, 1, 0, 0},
		{"the most water of the greatest cistern", 1000000, 1000000, 1000000, 0, 1000000},
		{"one liter less than the greatest cistern has", 1000000, 1000000, 999999, 1, 999999},
		{"the most water of the greatest cistern without one liter", 1000000, 999999, 1000000, 0, 999999},
		{"the most water of the greatest cistern, empty", 1000000, 0, 1000000, 0, 0},
	}
	for _, c := range cases {
		if after, drawn := impl.TakeOut(cistern(c.room, c.level), c.water); after != cistern(c.room, c.after) || drawn != c.drawn {
			t.Errorf("%s: %v and %d", c.name, after, drawn)
		}
	}
}

func TestInvalidPourAndTakeOut(t *testing.T) {
	check := func(c impl.Cistern, water int) {
		t.Helper()
		if after, over := impl.Pour(c, water); after != c || over != -1 {
			t.Errorf("Pour(%v, %d): %v and %d", c, water, after, over)
		}
		if after, drawn := impl.TakeOut(c, water); after != c || drawn != -1 {
			t.Errorf("TakeOut(%v, %d): %v and %d", c, water, after, drawn)
		}
	}
	for _, c := range invalidCisterns() {
		for _, water := range slices.Concat(someWaters(), wrongWaters()) {
			check(c, water)
		}
	}
	for _, c := range validCisterns() {
		for _, water := range wrongWaters() {
			check(c, water)
		}
	}
}

func TestSpaceIn(t *testing.T) {
	cases := []struct{ room, level, space int }{
		{30, 20, 10}, {30, 0, 30}, {30, 1, 29}, {30, 29, 1}, {30, 30, 0}, {1, 0, 1}, {1, 1, 0},
		{1000000, 0, 1000000}, {1000000, 1, 999999}, {1000000, 999999, 1}, {1000000, 1000000, 0}, {999999, 0, 999999},
	}
	for _, c := range cases {
		if space := impl.SpaceIn(cistern(c.room, c.level)); space != c.space {
			t.Errorf("the space of a Room of %d and a Level of %d: %d", c.room, c.level, space)
		}
	}
}

func TestPartFull(t *testing.T) {
	cases := []struct{ room, level, part int }{
		{30, 20, 66}, {30, 10, 33}, {30, 15, 50}, {30, 0, 0}, {30, 30, 100}, {30, 29, 96}, {30, 1, 3}, {30, 3, 10},
		{1, 0, 0}, {1, 1, 100}, {2, 1, 50}, {3, 1, 33}, {3, 2, 66}, {7, 1, 14}, {7, 6, 85}, {6, 5, 83},
		{100, 1, 1}, {100, 99, 99}, {100, 100, 100}, {99, 1, 1}, {99, 98, 98}, {101, 1, 0}, {101, 2, 1}, {101, 100, 99}, {200, 1, 0}, {200, 3, 1}, {200, 199, 99},
		{1000000, 0, 0}, {1000000, 1, 0}, {1000000, 9999, 0}, {1000000, 10000, 1}, {1000000, 10001, 1}, {1000000, 19999, 1}, {1000000, 20000, 2},
		{1000000, 500000, 50}, {1000000, 989999, 98}, {1000000, 990000, 99}, {1000000, 999999, 99}, {1000000, 1000000, 100}, {999999, 999998, 99},
	}
	for _, c := range cases {
		if part := impl.PartFull(cistern(c.room, c.level)); part != c.part {
			t.Errorf("the part of a Room of %d that a Level of %d is: %d", c.room, c.level, part)
		}
	}
}

// TestPartFullRoundsDown holds each part against the Level that it needs: the next hundredth needs more.
func TestPartFullRoundsDown(t *testing.T) {
	for _, c := range slices.Concat(validCisterns(), smallCisterns()) {
		part := impl.PartFull(c)
		if part < 0 || part > 100 || part*c.Room > c.Level*100 || (part+1)*c.Room <= c.Level*100 {
			t.Errorf("PartFull(%v): %d", c, part)
		}
		if (part == 100) != (impl.SpaceIn(c) == 0) {
			t.Errorf("PartFull(%v) is %d, but its space is %d", c, part, impl.SpaceIn(c))
		}
	}
}

func TestSpaceInAndPartFullOfInvalidCisterns(t *testing.T) {
	for _, c := range invalidCisterns() {
		if space := impl.SpaceIn(c); space != -1 {
			t.Errorf("SpaceIn(%v): %d", c, space)
		}
		if part := impl.PartFull(c); part != -1 {
			t.Errorf("PartFull(%v): %d", c, part)
		}
	}
}

func TestBalance(t *testing.T) {
	cases := []struct {
		name           string
		a, b           impl.Cistern
		water          int
		aAfter, bAfter int
		moved          int
	}{
		{"all of the water", cistern(30, 20), cistern(50, 4), 9, 11, 13, 9},
		{"nothing", cistern(30, 20), cistern(10, 4), 0, 20, 4, 0},
		{"no more than b has space for", cistern(30, 20), cistern(10, 4), 9, 14, 10, 6},
		{"just what b has space for", cistern(30, 20), cistern(10, 4), 6, 14, 10, 6},
		{"one liter more than b has space for", cistern(30, 20), cistern(10, 4), 7, 14, 10, 6},
		{"one liter less than b has space for", cistern(30, 20), cistern(10, 4), 5, 15, 9, 5},
		{"no more than a has", cistern(30, 3), cistern(50, 4), 9, 0, 7, 3},
		{"just what a has", cistern(30, 3), cistern(50, 4), 3, 0, 7, 3},
		{"one liter more than a has", cistern(30, 3), cistern(50, 4), 4, 0, 7, 3},
		{"one liter less than a has", cistern(30, 3), cistern(50, 4), 2, 1, 6, 2},
		{"b has space for one liter less than a has", cistern(30, 8), cistern(10, 3), 9, 1, 10, 7},
		{"b has space for just what a has", cistern(30, 7), cistern(10, 3), 9, 0, 10, 7},
		{"b has space for one liter more than a has", cistern(30, 6), cistern(10, 3), 9, 0, 9, 6},
		{"a is empty", cistern(30, 0), cistern(10, 4), 9, 0, 4, 0},
		{"b is full", cistern(30, 20), cistern(10, 10), 9, 20, 10, 0},
		{"a is empty and b is full", cistern(30, 0), cistern(10, 10), 9, 0, 10, 0},
		{"a is full and b is empty", cistern(30, 30), cistern(10, 0), 9, 21, 9, 9},
		{"a full one into an empty one of its Room", cistern(30, 30), cistern(30, 0), 1000000, 0, 30, 30},
		{"into a lower one", cistern(30, 10), cistern(30, 20), 7, 3, 27, 7},
		{"from one to a like one", cistern(30, 20), cistern(30, 20), 7, 13, 27, 7},
		{"from one to a like one, more than it has space for", cistern(30, 20), cistern(30, 20), 15, 10, 30, 10},
		{"the most water", cistern(30, 20), cistern(10, 4), 1000000, 14, 10, 6},
		{"the greatest cisterns", cistern(1000000, 1000000), cistern(1000000, 0), 1000000, 0, 1000000, 1000000},
		{"the greatest cisterns, one liter less", cistern(1000000, 1000000), cistern(1000000, 0), 999999, 1, 999999, 999999},
		{"the greatest cisterns, both full", cistern(1000000, 1000000), cistern(1000000, 1000000), 1000000, 1000000, 1000000, 0},
		{"the least cisterns", cistern(1, 1), cistern(1, 0), 1, 0, 1, 1},
		{"the least cistern into the greatest one", cistern(1, 1), cistern(1000000, 999999), 1000000, 0, 1000000, 1},
		{"the greatest cistern into the least one", cistern(1000000, 1000000), cistern(1, 0), 1000000, 999999, 1, 1},
	}
	for _, c := range cases {
		a, b, moved := impl.Balance(c.a, c.b, c.water)
		if a != cistern(c.a.Room, c.aAfter) || b != cistern(c.b.Room, c.bAfter) || moved != c.moved {
			t.Errorf("%s: %v, %v and %d", c.name, a, b, moved)
		}
	}
}

func TestInvalidBalance(t *testing.T) {
	check := func(a impl.Cistern, b impl.Cistern, water int) {
		t.Helper()
		if aAfter, bAfter, moved := impl.Balance(a, b, water); aAfter != a || bAfter != b || moved != -1 {
			t.Errorf("Balance(%v, %v, %d): %v, %v and %d", a, b, water, aAfter, bAfter, moved)
		}
	}
	valid := validCisterns()
	for _, wrong := range invalidCisterns() {
		for _, water := range []int{-1, 0, 9, 1000000, 1000001} {
			for _, c := range valid {
				check(wrong, c, water)
				check(c, wrong, water)
			}
			for _, other := range invalidCisterns() {
				check(wrong, other, water)
			}
		}
	}
	for _, water := range wrongWaters() {
		for _, a := range valid {
			for _, b := range valid {
				check(a, b, water)
			}
		}
	}
}

// TestWaterByLiters holds each function against one liter after the other: a bucket stands for the water that is poured and drawn.
func TestWaterByLiters(t *testing.T) {
	for _, a := range smallCisterns() {
		for water := range 12 {
			rest, full, _ := moveByLiters(cistern(12, water), a, water)
			if after, over := impl.Pour(a, water); after != full || over != rest.Level {
				t.Errorf("Pour(%v, %d): %v and %d", a, water, after, over)
			}
			left, bucket, _ := moveByLiters(a, cistern(12, 0), water)
			if after, drawn := impl.TakeOut(a, water); after != left || drawn != bucket.Level {
				t.Errorf("TakeOut(%v, %d): %v and %d", a, water, after, drawn)
			}
			for _, b := range smallCisterns() {
				wantA, wantB, want := moveByLiters(a, b, water)
				if aAfter, bAfter, moved := impl.Balance(a, b, water); aAfter != wantA || bAfter != wantB || moved != want {
					t.Errorf("Balance(%v, %v, %d): %v, %v and %d", a, b, water, aAfter, bAfter, moved)
				}
			}
		}
	}
}

// checkPour is the first part of promise 4, for one cistern: what is poured in is there or has run over.
func checkPour(t *testing.T, c impl.Cistern, water int) {
	t.Helper()
	after, over := impl.Pour(c, water)
	if after.Room != c.Room || !impl.CisternOk(after) || over < 0 || after.Level+over != c.Level+water {
		t.Errorf("water appears or vanishes: Pour(%v, %d) is %v and %d", c, water, after, over)
	}
	if over > 0 && impl.SpaceIn(after) != 0 {
		t.Errorf("water runs over a cistern that is not full: Pour(%v, %d) is %v and %d", c, water, after, over)
	}
}

// checkTakeOut is the second part of promise 4, for one cistern: what was there is drawn or still there.
func checkTakeOut(t *testing.T, c impl.Cistern, water int) {
	t.Helper()
	after, drawn := impl.TakeOut(c, water)
	if after.Room != c.Room || !impl.CisternOk(after) || drawn < 0 || drawn > water || after.Level+drawn != c.Level {
		t.Errorf("water appears or vanishes: TakeOut(%v, %d) is %v and %d", c, water, after, drawn)
	}
	if drawn < water && after.Level != 0 {
		t.Errorf("too little is drawn: TakeOut(%v, %d) is %v and %d", c, water, after, drawn)
	}
}

// checkBalance is the third part of promise 4, for two cisterns: what one has lost, the other one has got.
func checkBalance(t *testing.T, a impl.Cistern, b impl.Cistern, water int) {
	t.Helper()
	aAfter, bAfter, moved := impl.Balance(a, b, water)
	if aAfter.Room != a.Room || bAfter.Room != b.Room || !impl.CisternOk(aAfter) || !impl.CisternOk(bAfter) {
		t.Errorf("Balance(%v, %v, %d) is %v and %v", a, b, water, aAfter, bAfter)
	}
	if moved < 0 || moved > water || aAfter.Level+moved != a.Level || b.Level+moved != bAfter.Level {
		t.Errorf("water appears or vanishes: Balance(%v, %v, %d) is %v, %v and %d", a, b, water, aAfter, bAfter, moved)
	}
	if moved < water && aAfter.Level != 0 && impl.SpaceIn(bAfter) != 0 {
		t.Errorf("too little is moved: Balance(%v, %v, %d) is %v, %v and %d", a, b, water, aAfter, bAfter, moved)
	}
	drained, drawn := impl.TakeOut(a, moved)
	filled, over := impl.Pour(b, moved)
	if drained != aAfter || drawn != moved || filled != bAfter || over != 0 {
		t.Errorf("Balance(%v, %v, %d) is not drawn and poured: %v and %v", a, b, water, aAfter, bAfter)
	}
}

func TestNoWaterAppearsOrVanishes(t *testing.T) {
	for _, water := range someWaters() {
		for _, a := range validCisterns() {
			checkPour(t, a, water)
			checkTakeOut(t, a, water)
			for _, b := range validCisterns() {
				checkBalance(t, a, b, water)
			}
		}
	}
}

// TestWaterOfManySteps pours, draws and moves in one history, and counts all water from outside.
func TestWaterOfManySteps(t *testing.T) {
	random := rand.New(rand.NewSource(4))
	for range 50 {
		a, b := cistern(1+random.Intn(1000000), 0), cistern(1+random.Intn(1000000), 0)
		poured, gone := 0, 0
		for range 100 {
			water := random.Intn(1000001) >> random.Intn(20)
			checkPour(t, a, water)
			checkTakeOut(t, b, water)
			checkBalance(t, a, b, water)
			before := a.Level + b.Level
			var over, moved, drawn int
			a, over = impl.Pour(a, water)
			a, b, moved = impl.Balance(a, b, water/2)
			b, drawn = impl.TakeOut(b, water/3)
			poured += water
			gone += over + drawn
			if a.Level+b.Level != before+water-over-drawn || moved > water/2 || a.Level+b.Level+gone != poured {
				t.Fatalf("%v and %v have %d of %d liters, and %d are gone", a, b, a.Level+b.Level, poured, gone)
			}
		}
	}
}

// TestSpaceIsWhatJustFits holds SpaceIn against Pour, and Level against TakeOut, at the limit and one liter past it.
func TestSpaceIsWhatJustFits(t *testing.T) {
	for _, c := range slices.Concat(validCisterns(), smallCisterns()) {
		space := impl.SpaceIn(c)
		if full, over := impl.Pour(c, space); full != cistern(c.Room, c.Room) || over != 0 {
			t.Errorf("%v with its space of %d poured in: %v and %d", c, space, full, over)
		}
		if empty, drawn := impl.TakeOut(c, c.Level); empty != cistern(c.Room, 0) || drawn != c.Level {
			t.Errorf("%v with its Level drawn: %v and %d", c, empty, drawn)
		}
		if space < 1000000 {
			if full, over := impl.Pour(c, space+1); full != cistern(c.Room, c.Room) || over != 1 {
				t.Errorf("%v with one liter more than its space of %d: %v and %d", c, space, full, over)
			}
		}
		if c.Level < 1000000 {
			if empty, drawn := impl.TakeOut(c, c.Level+1); empty != cistern(c.Room, 0) || drawn != c.Level {
				t.Errorf("%v with one liter more than its Level drawn: %v and %d", c, empty, drawn)
			}
		}
	}
}

// TestCisternsAreNotChanged moves water through a list of cisterns: only the results have other Levels.
func TestCisternsAreNotChanged(t *testing.T) {
	cisterns := []impl.Cistern{cistern(30, 20), cistern(10, 4), {}}
	before := slices.Clone(cisterns)
	for range 2 {
		if c, over := impl.Pour(cisterns[0], 15); c != cistern(30, 30) || over != 5 {
			t.Errorf("poured in: %v and %d", c, over)
		}
		if c, drawn := impl.TakeOut(cisterns[0], 25); c != cistern(30, 0) || drawn != 20 {
			t.Errorf("drawn: %v and %d", c, drawn)
		}
		if a, b, moved := impl.Balance(cisterns[0], cisterns[1], 9); a != cistern(30, 14) || b != cistern(10, 10) || moved != 6 {
			t.Errorf("moved: %v, %v and %d", a, b, moved)
		}
		// The same cistern on both sides is passed as two values, and water goes from one to the other.
		if a, b, moved := impl.Balance(cisterns[0], cisterns[0], 7); a != cistern(30, 13) || b != cistern(30, 27) || moved != 7 {
			t.Errorf("moved to itself: %v, %v and %d", a, b, moved)
		}
	}
	if !slices.Equal(cisterns, before) {
		t.Errorf("the cisterns have become %v", cisterns)
	}
}
