package tests

import (
	"slices"
	"strings"
	"testing"

	"loop.example/g01318/impl"
)

// places returns maps with these Shares, each of which leads everything to its index.
func places(shares ...float32) []impl.Small {
	list := make([]impl.Small, len(shares))
	for i, share := range shares {
		list[i] = impl.Small{Shift: complex(float32(i), 0), Share: share}
	}
	return list
}

// What is drawn with these seeds is 0, 16383, 16383, 16384, 32751, 32752 and 32767, divided by 32768.
// The seed after drawsJustNotHalf is the greatest one with which 16383 is drawn.
const (
	drawsNothing     = 2088216195
	drawsNotHalf     = 1360176771
	drawsJustNotHalf = 1304279838
	drawsHalf        = 1014474371
	drawsEnough      = 1522706051
	drawsTooMuch     = 1177003651
	drawsAlmostOne   = 286434947
)

func TestWalkSmallsTakesMaps(t *testing.T) {
	rows := []struct {
		list []impl.Small
		seed int64
		want int
	}{
		{places(0.5, 0.5), drawsNothing, 0},
		{places(0.5, 0.5), drawsNotHalf, 0},
		{places(0.5, 0.5), drawsJustNotHalf, 0},
		{places(0.5, 0.5), drawsHalf, 1}, // a sum must be greater
		{places(0.5, 0.5), drawsAlmostOne, 1},
		{places(0, 1), drawsNothing, 1},
		{places(minusZero, 0, 1, 0), drawsAlmostOne, 2},
		// Shares that fall short: the last map is taken, even if it has none.
		{places(0.4995, 0.5, 0), drawsEnough, 1},
		{places(0.4995, 0.5, 0), drawsTooMuch, 2},
		{places(0.4995, 0.5, 0), drawsAlmostOne, 2},
		{places(0.999, 0, 0, 0), drawsAlmostOne, 3},
		{places(0.999), drawsAlmostOne, 0},
		{places(1, 0.0009), drawsAlmostOne, 0},
		// Sums are rounded to 32 bits.
		{places(0.5, 0x1p-26, 0.5), drawsHalf, 2},
		{places(0x1p-26, 0.5, 0.5), drawsHalf, 2},
		{places(0.5, 0x1p-24, 0.5), drawsHalf, 1},
	}
	for _, r := range rows {
		walk, _, ok := impl.WalkSmalls(r.list, 7, 1, r.seed)
		wantList(t, "WalkSmalls to a place", walk, ok, []complex64{complex(float32(r.want), 0)})
	}
}

func TestWalkSmalls(t *testing.T) {
	rows := []struct {
		list []impl.Small
		z    complex64
		seed int64
		walk []complex64
		last int64
	}{
		{[]impl.Small{half}, 4, 0, []complex64{2, 1}, 3554416254 - 1<<31},
		{[]impl.Small{half}, 4, 12, nil, 12},
		{[]impl.Small{half}, complex(mostSmall, -mostSmall), 0, []complex64{complex(500, -500)}, 12345},
		{bent(), at(0xbecb68853e532b56), 7265190, []complex64{at(0x3e6f5439bf95fc33), at(0x3f9f2f6dbf4aeae9), at(0x3f85f758bf133bbb), at(0x3f5c5510be3e1e64), at(0x3f1329a6be98ae5e), at(0x3f23f5bebf01bb44)}, 1866476288},
		{bent(), at(0x3e44909d3ed4a90f), 141782131, []complex64{at(0x3deae6a8bf3e3176), at(0x3f1a25aebe0c5563), at(0x3f07043ebef56b59), at(0x3f5e6f29be3a0743), at(0xbf698e1e3fd9a41b), at(0x3f8ae36d3f9f520e)}, 806530405},
		{bent(), at(0xbec29a633f2314cd), 1032392418, []complex64{at(0xbd9205a8bf91aa3e), at(0x3ec26894be6bba27), at(0x3f66876bbccbc378), at(0x3eece519be8615ea), at(0x3f6c3cd4bd8c6cc6), at(0xbf6e59663fe38395)}, 1085629532},
		{triangle(), at(0x3ec92246bf216567), 1014768378, []complex64{at(0x3e492246bea16567), at(0x3eb248923eaf4d4c), at(0x3e3248923e2f4d4c), at(0x3f1649123daf4d4c), at(0x3f0b24893f0af4d5), at(0x3f0592443f457a6a)}, 1670911924},
		{triangle(), at(0x3ed194c9bf62d0c6), 2094010356, []complex64{at(0x3f346532bee2d0c6), at(0x3f5a3299be62d0c6), at(0x3f2d194c3ec74bce), at(0x3ead194c3e474bce), at(0x3f2b46533dc74bce), at(0x3f55a32a3d474bce)}, 798657758},
		{triangle(), at(0x3f60c6283f66003a), 768034777, []complex64{at(0x3f3063143f73001d), at(0x3f18318a3f79800e), at(0x3f0c18c53f7cc007), at(0x3e8c18c53efcc007), at(0x3ec60c623f3f3002), at(0x3e460c623ebf3002)}, 467320219},
	}
	for _, r := range rows {
		walk, last, ok := impl.WalkSmalls(r.list, r.z, int64(len(r.walk)), r.seed)
		wantList(t, "WalkSmalls", walk, ok, r.walk)
		wantInteger(t, "the seed of WalkSmalls", last, ok, r.last)
	}
	walk, last, ok := impl.WalkSmalls(bent(), 1, 256, 2147483647)
	if !ok || len(walk) != 256 {
		t.Fatalf("WalkSmalls of the most numbers makes %d, %v", len(walk), ok)
	}
	first, middle, _ := impl.WalkSmalls(bent(), 1, 100, 2147483647)
	rest, again, _ := impl.WalkSmalls(bent(), first[99], 156, middle)
	wantList(t, "a walk in two parts", append(first, rest...), true, walk)
	wantInteger(t, "the seed of a walk in two parts", again, true, last)
}

func TestWalkSmallsFails(t *testing.T) {
	fails := func(what string, list []impl.Small, z complex64, count, seed int64) {
		t.Helper()
		walk, last, ok := impl.WalkSmalls(list, z, count, seed)
		wantNoList(t, what, walk, ok)
		wantNone(t, what, last, ok)
	}
	for _, list := range wrongLists() {
		fails("WalkSmalls of a wrong list", list, 1, 2, 3)
		fails("WalkSmalls of a wrong list and no numbers", list, 1, 0, 3)
	}
	for _, z := range largeOnes() {
		fails("WalkSmalls from a large number", bent(), z, 2, 3)
		fails("WalkSmalls from a large number of no numbers", bent(), z, 0, 3)
	}
	for _, count := range []int64{-1, 257, 1 << 60, -1 << 63} {
		fails("WalkSmalls with a wrong count", bent(), 1, count, 3)
	}
	for _, seed := range []int64{-1, 1 << 31, 1<<63 - 1, -1 << 63} {
		fails("WalkSmalls with a wrong seed", bent(), 1, 2, seed)
		fails("WalkSmalls with a wrong seed and no numbers", bent(), 1, 0, seed)
	}
	// It grows slowly: after 999 comes 1000.5.
	grows := []impl.Small{{Turn: 0.5, Shift: 501, Share: 1}}
	walk, _, ok := impl.WalkSmalls(grows, 990, 2, 3)
	wantList(t, "WalkSmalls of small numbers", walk, ok, []complex64{996, 999})
	fails("WalkSmalls to a large number", grows, 990, 3, 3)
}

// TestWalksStayInABall holds promise 4: walks from within a ball stay there, nearly.
func TestWalksStayInABall(t *testing.T) {
	for _, list := range [][]impl.Small{bent(), triangle(), places(0.25, 0.25, 0.5)} {
		ball, ok := impl.BallOf(list)
		if !ok {
			t.Fatal("there is no ball")
		}
		starts := spreadOver(ball*0.7, 30)
		for i, z := range append(starts, 0, complex(ball, 0), complex(0, -ball)) {
			walk, _, ok := impl.WalkSmalls(list, z, 256, int64(i)*65432101)
			if !ok || len(walk) != 256 {
				t.Fatalf("WalkSmalls from %v fails", z)
			}
			for _, point := range walk {
				if impl.LongOf(point) > ball*1.00001 {
					t.Errorf("a walk from %v goes to %v, out of the ball of %v", z, point, ball)
				}
			}
		}
	}
}

func wantWalks(t *testing.T, what string, got [][]complex64, ok bool, want [][]complex64) {
	t.Helper()
	if !ok || len(got) != len(want) {
		t.Errorf("%s: got %d walks, %v, want %d", what, len(got), ok, len(want))
		return
	}
	for i := range got {
		wantList(t, what, got[i], ok, want[i])
	}
}

// TestWalksSharedAsOne holds promise 4: any number of workers walks the same.
func TestWalksSharedAsOne(t *testing.T) {
	seeds := []int64{0, 2147483647, 12, 12, 7265190, 1, 99999, 1 << 30}
	for _, list := range [][]impl.Small{bent(), triangle(), {half}} {
		for _, count := range []int64{0, 1, 17, 256} {
			for most := range seeds {
				want := [][]complex64{}
				for _, seed := range seeds[:most+1] {
					walk, _, _ := impl.WalkSmalls(list, complex(1, -2), count, seed)
					want = append(want, walk)
				}
				for workers := int64(1); workers <= 8; workers++ {
					got, ok := impl.WalksShared(list, complex(1, -2), count, seeds[:most+1], workers)
					wantWalks(t, "WalksShared", got, ok, want)
				}
			}
		}
	}
	got, ok := impl.WalksShared([]impl.Small{half}, 4, 1, []int64{0, 1}, 2)
	wantWalks(t, "WalksShared", got, ok, [][]complex64{{2}, {2}})
	got, ok = impl.WalksShared(bent(), 4, 5, nil, 3)
	wantWalks(t, "WalksShared of no seeds", got, ok, nil)
}

func TestWalksSharedFails(t *testing.T) {
	seeds := []int64{5, 6, 7}
	fails := func(what string, list []impl.Small, z complex64, count int64, seeds []int64, workers int64) {
		t.Helper()
		walks, ok := impl.WalksShared(list, z, count, seeds, workers)
		wantNoList(t, what, walks, ok)
		if walks != nil {
			t.Errorf("%s: got %v", what, walks)
		}
	}
	for _, list := range wrongLists() {
		fails("WalksShared of a wrong list", list, 1, 2, seeds, 2)
		fails("WalksShared of a wrong list and no seeds", list, 1, 2, nil, 2)
	}
	for _, z := range largeOnes() {
		fails("WalksShared from a large number", bent(), z, 2, seeds, 2)
		fails("WalksShared from a large number without seeds", bent(), z, 2, nil, 2)
	}
	for _, n := range []int64{-1, 257, 1 << 60, -1 << 63} {
		fails("WalksShared with a wrong count", bent(), 1, n, seeds, 2)
		fails("WalksShared with a wrong count without seeds", bent(), 1, n, nil, 2)
		fails("WalksShared with wrong workers", bent(), 1, 2, seeds, n)
	}
	for _, workers := range []int64{0, 9} {
		fails("WalksShared with wrong workers", bent(), 1, 2, seeds, workers)
		fails("WalksShared with wrong workers and no seeds", bent(), 1, 2, nil, workers)
	}
	fails("WalksShared with too many seeds", bent(), 1, 2, make([]int64, 9), 2)
	for _, seed := range []int64{-1, 1 << 31, -1 << 63} {
		for i := range seeds {
			wrong := slices.Clone(seeds)
			wrong[i] = seed
			fails("WalksShared with a wrong seed", bent(), 1, 2, wrong, 2)
			fails("WalksShared with a wrong seed and no numbers", bent(), 1, 0, wrong, 2)
		}
	}
	// One walk of many goes to a number that is not small.
	grows := []impl.Small{{Turn: 0.5, Share: 0.5}, {Turn: 0.5, Shift: 501, Share: 0.5}}
	for i := range 4 {
		some := repeated(int64(drawsNothing), 4)
		some[i] = drawsHalf
		for workers := int64(1); workers <= 8; workers++ {
			fails("WalksShared to a large number", grows, 1000, 1, some, workers)
		}
	}
	got, ok := impl.WalksShared(grows, 1000, 1, repeated(int64(drawsNothing), 4), 2)
	wantWalks(t, "WalksShared to small numbers", got, ok, repeated([]complex64{500}, 4))
}

func TestImagesOf(t *testing.T) {
	rows := []struct {
		list         []impl.Small
		points, want []complex64
	}{
		{[]impl.Small{half}, []complex64{2, 4}, []complex64{1, 2}},
		{triangle(), []complex64{2, 4i}, []complex64{1, 2i, 1.5, complex(0.5, 2), complex(1.25, 0.5), complex(0.25, 2.5)}},
		{triangle(), nil, nil},
		{[]impl.Small{{Turn: -0.5, Shift: complex(mostSmall, -mostSmall), Share: 1}}, []complex64{complex(-mostSmall, mostSmall)}, []complex64{complex(1500, -1500)}},
		{[]impl.Small{{Shift: 3, Share: 1}}, repeated(complex64(1i), 5), repeated(complex64(3), 5)},
	}
	for _, r := range rows {
		got, ok := impl.ImagesOf(r.list, r.points)
		wantList(t, "ImagesOf", got, ok, r.want)
	}
	for i, z := range spreadOver(3, 50) {
		points := []complex64{z, spreadOver(3, 50)[49-i]}
		got, ok := impl.ImagesOf(bent(), points)
		var want []complex64
		for _, s := range bent() {
			for _, point := range points {
				image, _ := impl.MapSmall(s, point)
				want = append(want, image)
			}
		}
		wantList(t, "ImagesOf bent maps", got, ok, want)
	}
}

func TestImagesOfFails(t *testing.T) {
	for _, list := range wrongLists() {
		got, ok := impl.ImagesOf(list, []complex64{1})
		wantNoList(t, "ImagesOf a wrong list", got, ok)
		got, ok = impl.ImagesOf(list, nil)
		wantNoList(t, "ImagesOf a wrong list and no points", got, ok)
	}
	for _, z := range largeOnes() {
		for _, points := range [][]complex64{{z}, {z, 1}, {1, z}} {
			got, ok := impl.ImagesOf(bent(), points)
			wantNoList(t, "ImagesOf large points", got, ok)
		}
	}
	for count := 1; count <= 8; count++ {
		list := repeated(impl.Small{Share: 1 / float32(count)}, count)
		most := 256 / count
		got, ok := impl.ImagesOf(list, make([]complex64, most))
		wantList(t, "ImagesOf as many points as there can be", got, ok, make([]complex64, most*count))
		got, ok = impl.ImagesOf(list, make([]complex64, most+1))
		wantNoList(t, "ImagesOf too many points", got, ok)
	}
}

// maskOf returns the mask of a picture, with # for true boxes.
func maskOf(rows ...string) []bool {
	var mask []bool
	for _, c := range strings.Join(rows, "") {
		mask = append(mask, c == '#')
	}
	return mask
}

func wantMask(t *testing.T, what string, got []bool, ok bool, want []bool) {
	t.Helper()
	if !ok || !slices.Equal(got, want) {
		t.Errorf("%s: got %v, %v, want %v", what, got, ok, want)
	}
}

func TestBoxStep(t *testing.T) {
	whole := repeated(true, 4)
	left := impl.Small{Turn: 0.5, Shift: -0.5, Share: 1}
	rows := []struct {
		list       []impl.Small
		mask, want []bool
		side       int64
	}{
		{[]impl.Small{half}, whole, whole, 2},
		{[]impl.Small{left}, whole, maskOf("#.", "#."), 2},
		{[]impl.Small{left}, maskOf("..", ".#"), maskOf("..", "#."), 2},
		{[]impl.Small{left}, maskOf(".#", ".."), maskOf("#.", ".."), 2},
		{[]impl.Small{left}, maskOf("..", ".."), maskOf("..", ".."), 2},
		{[]impl.Small{{Turn: 0.75i, Share: 1}}, maskOf("#.", ".."), maskOf(".#", ".."), 2},
		{[]impl.Small{{Turn: 0.75, Flip: true, Share: 1}}, maskOf("#.", ".."), maskOf("..", "#."), 2},
		{triangle(), maskOf("#....", ".....", ".....", ".....", "....."), maskOf(".....", ".##..", "..#..", ".....", "....."), 5},
		{[]impl.Small{half}, maskOf("#"), maskOf("#"), 1},
		// All lead outside, each to another side.
		{[]impl.Small{{Shift: 3, Share: 0.25}, {Shift: -3, Share: 0.25}, {Shift: 3i, Share: 0.25}, {Shift: -3i, Share: 0.25}}, whole, maskOf("..", ".."), 2},
	}
	for _, r := range rows {
		got, ok := impl.BoxStep(r.list, r.mask, r.side)
		wantMask(t, "BoxStep", got, ok, r.want)
	}
}

// TestBoxStepAtBorders leads everything to numbers at the borders of boxes.
func TestBoxStepAtBorders(t *testing.T) {
	rows := []struct {
		part float32
		side int64
		box  int64 // -1 if it is outside
	}{
		{-1, 4, 0}, {number(0xbf800001), 4, -1}, {-mostSmall, 4, -1}, {-1.5, 16, -1},
		{-0.5, 4, 1}, {number(0xbf000001), 4, 0}, {0, 4, 2}, {minusZero, 4, 2}, {0.25, 4, 2}, {0.5, 4, 3},
		// A sum with 1 is rounded: it may reach the next box, or stay in this one.
		{-leastNumber, 4, 2}, {-0x1p-25, 4, 2}, {-0x1p-24, 4, 1}, {beforeOne, 4, -1}, {number(0x3f7ffffe), 4, 3},
		{1, 4, -1}, {afterOne, 4, -1}, {mostSmall, 4, -1}, {1, 1, -1}, {0.99, 1, 0}, {-0.99, 1, 0}, {-1, 1, 0}, {-1.01, 1, -1},
		{0.99, 16, 15}, {0.875, 16, 15}, {0.874, 16, 14}, {1.124, 16, -1}, {-0.99, 16, 0}, {-1.124, 16, -1},
	}
	for _, r := range rows {
		all := repeated(true, int(r.side*r.side))
		across := make([]bool, r.side*r.side)
		down := make([]bool, r.side*r.side)
		if r.box >= 0 {
			across[r.side*(r.side-1)+r.box] = true
			down[r.side*r.box+r.side-1] = true
		}
		got, ok := impl.BoxStep([]impl.Small{{Shift: complex(r.part, 0.99), Share: 1}}, all, r.side)
		wantMask(t, "BoxStep to a column", got, ok, across)
		got, ok = impl.BoxStep([]impl.Small{{Shift: complex(0.99, r.part), Share: 1}}, all, r.side)
		wantMask(t, "BoxStep to a row", got, ok, down)
	}
}

func TestBoxStepFails(t *testing.T) {
	for _, list := range wrongLists() {
		got, ok := impl.BoxStep(list, []bool{true}, 1)
		wantNoList(t, "BoxStep of a wrong list", got, ok)
	}
	for side := int64(1); side <= 16; side++ {
		for _, boxes := range []int64{0, side*side - 1, side*side + 1, 2 * side * side} {
			got, ok := impl.BoxStep(bent(), repeated(true, int(boxes)), side)
			wantNoList(t, "BoxStep of a wrong mask", got, ok)
		}
	}
	for _, side := range []int64{0, -1, -2, 17, 1 << 32, -1 << 32, 1<<63 - 1, -1 << 63} {
		for _, boxes := range []int{0, 1, 4, 289} {
			got, ok := impl.BoxStep(bent(), repeated(true, boxes), side)
			wantNoList(t, "BoxStep with a wrong side", got, ok)
		}
	}
}

func TestFilledBoxes(t *testing.T) {
	rows := []struct {
		list        []impl.Small
		side, turns int64
		want        []bool
		made        int64
	}{
		{[]impl.Small{half}, 1, 5, maskOf("#"), 1},
		{[]impl.Small{half}, 1, 1, maskOf("#"), 1},
		{bent(), 3, 0, repeated(true, 9), 0},
		{bent(), 16, 0, repeated(true, 256), 0},
		{bent(), 5, 1, maskOf("..###", "..###", "...##", "...##", "....#"), 1},
		{bent(), 5, 2, maskOf("...##", "..###", "...##", ".....", "....."), 2},
		{bent(), 5, 4, maskOf("....#", "...##", "....#", ".....", "....."), 4},
		{bent(), 5, 5, maskOf("....#", "...##", "....#", ".....", "....."), 5},
		{bent(), 5, 128, maskOf("....#", "...##", "....#", ".....", "....."), 5},
		{triangle(), 5, 1, maskOf(".....", ".####", ".####", ".####", "..###"), 1},
		{triangle(), 5, 128, maskOf(".....", ".....", "..###", "..###", "...##"), 4},
		{triangle(), 16, 128, maskOf(
			"................", "................", "................", "................", "................", "................", "................",
			".......#########", ".......#########", "........########", "........###.###.", ".........######.",
			".........#####..", "..........####..", "..........###...", "...........##...",
		), 5},
		// All boxes outside: the first turn leads nowhere, and the second one changes nothing.
		{[]impl.Small{{Shift: 5, Share: 1}}, 4, 1, make([]bool, 16), 1},
		{[]impl.Small{{Shift: 5, Share: 1}}, 4, 2, make([]bool, 16), 2},
		{[]impl.Small{{Shift: 5, Share: 1}}, 4, 128, make([]bool, 16), 2},
		{[]impl.Small{{Shift: -1, Share: 1}}, 1, 3, maskOf("#"), 1},
	}
	for _, r := range rows {
		got, made, ok := impl.FilledBoxes(r.list, r.side, r.turns)
		wantMask(t, "FilledBoxes", got, ok, r.want)
		wantInteger(t, "the turns of FilledBoxes", made, ok, r.made)
	}
}

// TestFilledBoxesAreSteps holds that turns are steps until nothing changes.
func TestFilledBoxesAreSteps(t *testing.T) {
	for _, list := range [][]impl.Small{bent(), triangle(), {half}, {{Turn: 0.9i, Shift: 0.05, Flip: true, Share: 1}}} {
		for side := int64(1); side <= 16; side++ {
			mask := repeated(true, int(side*side))
			steady := false
			var made int64
			for turns := int64(0); turns <= 20; turns++ {
				got, count, ok := impl.FilledBoxes(list, side, turns)
				wantMask(t, "FilledBoxes, step by step", got, ok, mask)
				wantInteger(t, "the turns of FilledBoxes, step by step", count, ok, made)
				next, _ := impl.BoxStep(list, mask, side)
				if !steady {
					made++
				}
				steady = slices.Equal(mask, next)
				mask = next
			}
		}
	}
}

func TestFilledBoxesFails(t *testing.T) {
	fails := func(what string, list []impl.Small, side, turns int64) {
		t.Helper()
		mask, made, ok := impl.FilledBoxes(list, side, turns)
		wantNoList(t, what, mask, ok)
		wantNone(t, what, made, ok)
	}
	for _, list := range wrongLists() {
		fails("FilledBoxes of a wrong list", list, 2, 2)
		fails("FilledBoxes of a wrong list and no turns", list, 2, 0)
	}
	for _, n := range []int64{-1, 1 << 32, 1<<63 - 1, -1 << 63} {
		fails("FilledBoxes with a wrong side", bent(), n, 2)
		fails("FilledBoxes with wrong turns", bent(), 2, n)
	}
	fails("FilledBoxes with no side", bent(), 0, 2)
	fails("FilledBoxes with too long a side", bent(), 17, 2)
	fails("FilledBoxes with too many turns", bent(), 2, 129)
}
