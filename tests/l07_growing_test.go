package tests

import (
	"math"
	"testing"

	"loop.example/g01318/impl"
)

// wantGrown checks a field with its seed.
func wantGrown(t *testing.T, what string, got impl.Field, seed int64, ok bool, want impl.Field, wantSeed int64) {
	t.Helper()
	wantField(t, what, got, ok, want)
	wantInteger(t, "the seed of "+what, seed, ok, wantSeed)
}

// stickRow is a walker that sticks after so many moves, or hits a full cell, if these are -1.
type stickRow struct {
	picture string
	seed    int64
	moves   int64
	want    string
	last    int64
}

func stickRows() []stickRow {
	return []stickRow{
		{".#", 0, 0, "##", 12345},
		{"#.", 0, -1, "#.", 12345},
		{"#", 2147483647, -1, "#", 1043980748},
		{"#..", 1942955373, -1, "#..", 199775650},
		{"#..", 1940605046, 11, "##.", 1250804570},
		{"#..", 799609893, 1, "##.", 1606261675},
		{"..... ..... ..#.. ..... .....", 1947922965, 8, "..... ..... .##.. ..... .....", 1282028418},
		{"..... ..... ..#.. ..... .....", 28890406, 0, "..... ..... ..#.. ..#.. .....", 235439463},
		{"..... ..... ..#.. ..... .....", 1473592899, 38, "..... ..#.. ..#.. ..... .....", 151600810},
		{"..... ..... ..#.. ..... .....", 1402166357, 4, "..... ..... ..#.. ..#.. .....", 36994870},
		{"..... ..... ..#.. ..... .....", 916101847, -1, "..... ..... ..#.. ..... .....", 877371332},
		// Walkers at edges stay where they are led out of the field, but this counts as well.
		{"#...............", 1023967565, 2, "##..............", 798302032},
		{"#...............", 2066325322, 205, "##..............", 1177937756},
		{"#...............", 6735, 512, "##..............", 1334688732},
		{"#...............", 38886, 511, "##..............", 699248102},
		{". . . . . . . #", 973166487, 9, ". . . . . . # #", 926927141},
		{". . . . . . . #", 674677804, -1, ". . . . . . . #", 891231989},
		{". . . . . . . #", 1747369303, 43, ". . . . . . # #", 99312203},
		{".#. ... ...", 551548673, 10, "##. ... ...", 489436460},
		{".#. ... ...", 577848183, 4, ".## ... ...", 1215832656},
		{".#. ... ...", 1280190350, 1, ".#. .#. ...", 1200733116},
		{"#... .... .... ....", 1530997623, 13, "#... #... .... ....", 806667137},
		{"#... .... .... ....", 1672234737, 3, "#... #... .... ....", 598565165},
		{".... .... .... ...#", 1576507703, 3, ".... .... ...# ...#", 572690899},
		{".... .... .... ...#", 1800017457, 73, ".... .... .... ..##", 1682942287},
		{"##. ##. ...", 467891771, 1, "##. ##. .#.", 547164849},
		{"##. ##. ...", 562222457, 5, "##. ### ...", 2145967675},
		{"...... .#..#. .##.#.", 1627545350, 1, ".#.... .#..#. .##.#.", 952806388},
		{"...... .#..#. .##.#.", 2104000764, 6, "....#. .#..#. .##.#.", 1538628583},
		{"... ... ... ... ... ... ... ... ... ... ... ... ... ... ... #..", 1135573450, 298, "... ... ... ... ... ... ... ... ... ... ... ... ... ... #.. #..", 677621193},
	}
}

func TestStickOne(t *testing.T) {
	for _, r := range stickRows() {
		f := field(r.picture)
		for _, most := range []int64{max(r.moves, 0), max(r.moves, 0) + (512-max(r.moves, 0))/2, 512} {
			got, last, stuck, ok := impl.StickOne(f, most, r.seed)
			wantGrown(t, "StickOne", got, last, ok, field(r.want), r.last)
			wantBool(t, "whether StickOne has stuck", stuck, r.moves >= 0)
		}
		if r.moves < 1 {
			continue
		}
		// With one move less, it does not come so far.
		got, last, stuck, ok := impl.StickOne(f, r.moves-1, r.seed)
		wantField(t, "StickOne with a move less", got, ok, f)
		wantInteger(t, "the seed that follows that of StickOne with a move less", (1103515245*last+12345)%2147483648, ok, r.last)
		wantBool(t, "whether StickOne has stuck with a move less", stuck, false)
	}
}

func TestStickOneNeverSticks(t *testing.T) {
	rows := []struct {
		picture          string
		most, seed, last int64
	}{
		{".", 0, 0, 12345},
		{".", 1, 0, 1406932606},
		{".", 512, 77, 485932290},
		{"#...............", 512, 22138, 1239788587},
		{"#...............", 512, 1765577380, 1381013517},
		{"..... ..... ..#.. ..... .....", 0, 1942858248, 42993057},
	}
	for _, r := range rows {
		got, last, stuck, ok := impl.StickOne(field(r.picture), r.most, r.seed)
		wantGrown(t, "StickOne that does not come near", got, last, ok, field(r.picture), r.last)
		wantBool(t, "whether it has stuck", stuck, false)
	}
}

func TestStickMany(t *testing.T) {
	rows := []struct {
		picture           string
		count, most, seed int64
		want              string
		last, stuck       int64
	}{
		{".#", 0, 9, 0, ".#", 0, 0},
		{".#", 0, 0, 2147483647, ".#", 2147483647, 0},
		{".#", 1, 0, 0, "##", 12345, 1},
		{".#", 2, 0, 0, "##", 1406932606, 1},
		{".#", 9, 0, 0, "##", 794471793, 1},
		{"#", 512, 512, 7, "#", 817192455, 0},
		{".. ..", 512, 512, 7, ".. ..", 191979015, 0},
		{"..... ..... ..#.. ..... .....", 5, 512, 7, "..... ...#. ..##. ..... .....", 1662195227, 2},
		{"..... ..... ..#.. ..... .....", 5, 3, 7, "..... .##.. ..#.. ..... .....", 1550240205, 2},
		{"..... ..... ..#.. ..... .....", 20, 40, 1234567, "..... ##### ####. #.### ..#.#", 150582501, 14},
		{"..... ..... ..#.. ..... .....", 512, 512, 99, "##### ##### ##### ##### #####", 342747901, 24},
		{"#....... ........ .......#", 9, 25, 2000000000, "#......# ##....## .#.....#", 1794005217, 6},
		{". . . . #", 3, 9, 31, ". . # # #", 791147060, 2},
	}
	for _, r := range rows {
		got, last, stuck, ok := impl.StickMany(field(r.picture), r.count, r.most, r.seed)
		wantGrown(t, "StickMany", got, last, ok, field(r.want), r.last)
		wantInteger(t, "how many of StickMany have stuck", stuck, ok, r.stuck)
	}
}

// seedling is a field of the greatest size with one full cell near its middle.
func seedling() impl.Field {
	f := allAlike(16, 16, false)
	f.Cells[136] = true
	return f
}

func TestStickManyInAGreatField(t *testing.T) {
	rows := []struct {
		count, most, seed int64
		digest            uint32
		last, stuck       int64
	}{
		{40, 512, 1, 0x336f92e1, 568390476, 33},
		{100, 64, 2147483647, 0x9d52e75c, 1946946519, 63},
		{512, 512, 20, 0x4b441cdd, 1642311094, 212},
		{512, 100, 5, 0xce456b7d, 285236818, 218},
		{100, 512, 5, 0x04a0bff7, 800429871, 81},
	}
	for _, r := range rows {
		got, last, stuck, ok := impl.StickMany(seedling(), r.count, r.most, r.seed)
		wantInteger(t, "the seed of StickMany", last, ok, r.last)
		wantInteger(t, "how many of StickMany have stuck", stuck, ok, r.stuck)
		if digestOf(fullOnes(got)) != r.digest || int64(len(fullOnes(got))) != r.stuck+1 {
			t.Errorf("StickMany makes %v", got)
		}
		// Many walkers are one behind the other, and what has stuck is in one group.
		one, seed := seedling(), r.seed
		for range r.count {
			one, seed, _, ok = impl.StickOne(one, r.most, seed)
		}
		wantGrown(t, "StickOne again and again", one, seed, ok, got, last)
		_, sizes, ok := impl.GroupsOf(got)
		wantIntegers(t, "the groups of StickMany", sizes, ok, []int64{r.stuck + 1})
	}
}

func TestStickFails(t *testing.T) {
	fails := func(what string, f impl.Field, count, most, seed int64) {
		t.Helper()
		got, last, stuck, ok := impl.StickMany(f, count, most, seed)
		wantNoField(t, "StickMany "+what, got, ok)
		wantNone(t, "the seed of StickMany "+what, last, ok)
		wantNone(t, "how many of StickMany have stuck "+what, stuck, ok)
		if count != 1 {
			return
		}
		got, last, one, ok := impl.StickOne(f, most, seed)
		wantNoField(t, "StickOne "+what, got, ok)
		wantNone(t, "the seed of StickOne "+what, last, ok)
		wantNone(t, "whether StickOne has stuck "+what, one, ok)
	}
	for _, count := range []int64{0, 1, 512} {
		for _, f := range wrongFields() {
			fails("a wrong field", f, count, 0, 5)
		}
		for _, most := range []int64{-1, 513, math.MaxInt64, math.MinInt64} {
			fails("with too many moves", field("#. .."), count, most, 5)
		}
		for _, seed := range wrongSeeds() {
			fails("with a wrong seed", field("#. .."), count, 5, seed)
		}
	}
	for _, count := range []int64{-1, 513, math.MaxInt64, math.MinInt64} {
		fails("of too many walkers", field("#. .."), count, 5, 5)
	}
}

func TestGrowEdge(t *testing.T) {
	rows := []struct {
		picture     string
		count, seed int64
		want        string
		last        int64
	}{
		{".#", 0, 5, ".#", 5},
		{"..", 0, 2147483647, "..", 2147483647},
		{"#", 0, 7, "#", 7},
		{".#", 1, 0, "##", 12345},
		{"#..", 2, 7, "###", 642666333},
		{"... .#. ...", 1, 2147483647, "... ##. ...", 1043980748},
		{"... .#. ...", 2, 0, ".#. .## ...", 1406932606},
		{"... .#. ...", 3, 0, ".#. .## .#.", 654583775},
		{"... .#. ...", 8, 2147483647, "### ### ###", 2101342199},
		{"#... .... ....", 1, 1177027803, "##.. .... ....", 1827076984},
		{"#... .... ....", 2, 1976622438, "#... #... #...", 843202900},
		{"#... .... ....", 5, 977725104, "##.. ###. ..#.", 102829797},
		{"#... .... ....", 11, 7154887, "#### #### ####", 934511594},
		{".....#", 1, 2147483647, "....##", 1043980748},
		{".....#", 4, 797679261, ".#####", 1879607193},
		{"#..# .... #..#", 1, 0, "##.# .... #..#", 12345},
		{"#..# .... #..#", 5, 0, "#### ..## ##.#", 229283573},
		{"#. .# #.", 1, 918725831, "#. ## #.", 402586356},
		{"#####.#####", 1, 0, "###########", 12345},
		{". . . # .", 2, 2147483647, ". . # # #", 288979989},
		{"..# #.. ..# #..", 2, 2147483647, ".## #.. ..# #.#", 288979989},
		{"..# #.. ..# #..", 6, 0, "#.# ### ### #.#", 1109335178},
	}
	for _, r := range rows {
		got, last, ok := impl.GrowEdge(field(r.picture), r.count, r.seed)
		wantGrown(t, "GrowEdge", got, last, ok, field(r.want), r.last)
	}
	large := []struct {
		count, seed int64
		digest      uint32
		last        int64
	}{
		{1, 0, 0x00000f10, 12345}, {40, 20, 0xd968f5ea, 569836044}, {128, 5, 0xd6b32738, 698299269}, {255, 2147483647, 0x1aff0080, 1168516638},
	}
	for _, r := range large {
		got, last, ok := impl.GrowEdge(seedling(), r.count, r.seed)
		wantInteger(t, "the seed of GrowEdge", last, ok, r.last)
		if digestOf(fullOnes(got)) != r.digest || int64(len(fullOnes(got))) != r.count+1 {
			t.Errorf("GrowEdge makes %v", got)
		}
		one, seed := seedling(), r.seed
		for range r.count {
			one, seed, ok = impl.GrowEdge(one, 1, seed)
		}
		wantGrown(t, "GrowEdge again and again", one, seed, ok, got, last)
		_, sizes, ok := impl.GroupsOf(got)
		wantIntegers(t, "the groups of GrowEdge", sizes, ok, []int64{r.count + 1})
	}
}

func TestGrowEdgeFails(t *testing.T) {
	fails := func(what string, f impl.Field, count, seed int64) {
		t.Helper()
		got, last, ok := impl.GrowEdge(f, count, seed)
		wantNoField(t, "GrowEdge "+what, got, ok)
		wantNone(t, "the seed of GrowEdge "+what, last, ok)
	}
	for _, f := range wrongFields() {
		fails("of a wrong field", f, 0, 5)
		fails("of a wrong field", f, 1, 5)
	}
	for _, count := range []int64{-1, 513, math.MaxInt64, math.MinInt64} {
		fails("of too many cells", field("#. .."), count, 5)
	}
	for _, seed := range wrongSeeds() {
		fails("with a wrong seed", field("#. .."), 0, seed)
		fails("with a wrong seed", field("#. .."), 1, seed)
	}
	for _, count := range []int64{1, 2, 512} {
		fails("without a full cell", field(".. .."), count, 5)
		fails("without a cell that is not full", allAlike(16, 16, true), count, 5)
	}
	for _, count := range []int64{4, 5, 512} {
		fails("beyond the last cell", field("#. .."), count, 5)
	}
	fails("beyond the last cell", seedling(), 256, 5)
}
