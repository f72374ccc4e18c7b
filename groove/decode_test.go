package groove_test

import (
	"fmt"
	"math"
	"reflect"
	"runtime"
	"slices"
	"strings"
	"sync"
	"testing"
	"time"
	"unsafe"

	"groove/api"
	"groove/groove"
)

const lostBits = "000000000000"

// trackOf tells the track of samples.
func trackOf(t *testing.T, samples string, depth int) string {
	t.Helper()
	track, e := groove.Encode(samples, depth)
	if e != api.OK {
		t.Fatalf("P4: Encode(%q, %d) is refused with %d", samples, depth, e)
	}
	return track
}

// putWord puts other bits in the place of a frame's word: 0 is its number's,
// 1 + j that of symbol j.
func putWord(track string, frame, word int, bits string) string {
	at := frameBits*frame + len(markBits) + 13*word
	return track[:at] + bits + track[at+len(bits):]
}

// without takes symbols of rows out of a track of that depth.
func without(track string, depth int, symbols ...[2]int) string {
	for _, symbol := range symbols {
		row, j := symbol[0], symbol[1]
		track = putWord(track, row+depth*j, 1+j, lostBits)
	}
	return track
}

func noughts(count int) string {
	return strings.Repeat("0", count)
}

func sameTrack(a, b api.Track) bool {
	return a.Samples == b.Samples && slices.Equal(a.Bad, b.Bad) && a.Frames == b.Frames && a.Restored == b.Restored
}

func tell(track api.Track) string {
	return fmt.Sprintf("%q, bad %v, %d frames, %d restored", track.Samples, track.Bad, track.Frames, track.Restored)
}

func wantDecoded(t *testing.T, what, bits string, count, depth int, want api.Track) {
	t.Helper()
	got, e := groove.Decode(bits, count, depth)
	if e != api.OK || !sameTrack(got, want) {
		t.Errorf("P5: %s: Decode of %d bits, %d, %d = %s, %d, want %s", what, len(bits), count, depth, tell(got), e, tell(want))
	}
}

func wantDecodeRefused(t *testing.T, bits string, count, depth int, want api.Errno) {
	t.Helper()
	got, e := groove.Decode(bits, count, depth)
	if e != want || !reflect.ValueOf(got).IsZero() {
		t.Errorf("P5: Decode of %d bits, %d, %d = %s, %d, want nothing and %d", len(bits), count, depth, tell(got), e, want)
	}
}

// rising tells the places from one on and ahead of another.
func rising(from, to int) []int {
	var places []int
	for place := from; place < to; place++ {
		places = append(places, place)
	}
	return places
}

func TestDecodeNothing(t *testing.T) {
	for depth := 1; depth <= api.MaxDepth; depth++ {
		for count := range api.MaxSamples + 1 {
			want := api.Track{Samples: strings.Repeat("\x00", count), Bad: rising(0, count)}
			wantDecoded(t, "no bits", "", count, depth, want)
			wantDecoded(t, "a mark alone", markBits, count, depth, want)
		}
	}
	want := api.Track{Samples: "\x00\x00\x00", Bad: []int{0, 1, 2}}
	wantDecoded(t, "a bit", "1", 3, 1, want)
	wantDecoded(t, "noughts", noughts(api.MaxBits), 3, 1, want)
	wantDecoded(t, "ones", strings.Repeat("1", api.MaxBits), 3, 1, want)
	wantDecoded(t, "no mark", strings.Repeat("01", api.MaxBits/2), 3, 1, want)
}

func TestDecodeCounts(t *testing.T) {
	track := trackOf(t, "abcdefgh", 1)
	for count := range 9 {
		wantDecoded(t, "as it is", track, count, 1, api.Track{Samples: "abcdefgh"[:count], Frames: 8})
	}
	for count := 9; count <= 12; count++ {
		wantDecoded(t, "noughts that fill up", track, count, 1, api.Track{Samples: "abcdefgh\x00\x00\x00\x00"[:count], Frames: 8})
	}
	// Row 2 was not written, but for its check all its symbols are noughts that
	// stand in frames 2 to 7.
	wantDecoded(t, "a row more", track, 13, 1, api.Track{Samples: "abcdefgh\x00\x00\x00\x00\x00", Frames: 8, Restored: 1})
	// Of row 3 its sample 5 is lost, too.
	wantDecoded(t, "two rows more", track, 24, 1, api.Track{Samples: "abcdefgh" + strings.Repeat("\x00", 16), Bad: []int{23}, Frames: 8, Restored: 1})
	wantDecoded(t, "two rows more, not told to the end", track, 23, 1, api.Track{Samples: "abcdefgh" + strings.Repeat("\x00", 15), Frames: 8, Restored: 1})
}

func TestDecodeNoSamples(t *testing.T) {
	track := trackOf(t, manySamples(20), 2)
	wantDecoded(t, "a track", track, 0, 2, api.Track{Frames: 16})
	wantDecoded(t, "no bits", "", 0, 2, api.Track{})
	wantDecoded(t, "a wrong check", putWord(track, 0, 1, markBits[:12]), 0, 2, api.Track{Frames: 16})
}

// TestDecodeWhereFramesStand: a track of seven frames with other bits about.
func TestDecodeWhereFramesStand(t *testing.T) {
	track := trackOf(t, "abcdef", 1)
	whole := api.Track{Samples: "abcdef", Frames: 7}
	restored := api.Track{Samples: "abcdef", Frames: 6, Restored: 1}
	for _, c := range []struct {
		what, bits string
		want       api.Track
	}{
		{"as it is", track, whole},
		{"without the first frame", track[124:], restored},
		{"without the first bit", track[1:], restored},
		{"without the last frame", track[:6*124], restored},
		{"without the last bit", track[:867], restored},
		{"with a mark and 103 bits behind", track + markBits + noughts(103), whole},
		{"with a mark and 104 bits behind", track + markBits + noughts(104), api.Track{Samples: "abcdef", Frames: 8}},
		{"a bit ahead", "1" + track, whole},
		{"noughts ahead", noughts(1000) + track, whole},
		{"a one and noughts ahead that are no mark", "1" + noughts(16) + track, whole},
		{"bits behind", track + "1010", whole},
		{"noughts behind", track + noughts(1000), whole},
		{"half a frame behind", track + track[:62], whole},
		{"noughts to MaxBits", track + noughts(api.MaxBits-868), whole},
		{"noughts ahead to MaxBits", noughts(api.MaxBits-868) + track, whole},
		{"without a frame between", track[:3*124] + track[4*124:], restored},
		{"a mark with a bit wrong", track[:125] + "1" + track[126:], restored},
		{"a mark's last bit wrong", track[:124+19] + "1" + track[124+20:], restored},
		{"a mark with a nought more", track[:125] + "0" + track[125:], restored},
		{"a mark with a nought less", track[:125] + track[126:], restored},
	} {
		wantDecoded(t, c.what, c.bits, 6, 1, c.want)
	}
}

func TestDecodeNoughtsBetween(t *testing.T) {
	track := trackOf(t, "abcdef", 1)
	for count := range 200 {
		var bits strings.Builder
		for frame := range 7 {
			bits.WriteString(noughts(count) + track[124*frame:124*frame+124])
		}
		bits.WriteString(noughts(count))
		wantDecoded(t, "noughts between", bits.String(), 6, 1, api.Track{Samples: "abcdef", Frames: 7})
	}
}

// TestDecodeMarkInsideAFrame: it goes on behind a frame that was read, even if
// a mark stands in it. That frame has lost its number and its symbol 0, and is
// read as frame 0 in the place of the true one.
func TestDecodeMarkInsideAFrame(t *testing.T) {
	track := trackOf(t, "abcdef", 1)
	wantDecoded(t, "a mark ahead", markBits+"1100"+track, 6, 1, api.Track{Samples: "abcdef", Frames: 7, Restored: 1})
}

// TestDecodeBitsBehindWords: these are not looked at.
func TestDecodeBitsBehindWords(t *testing.T) {
	bits := []byte(trackOf(t, "abcdef", 1))
	for frame := range 7 {
		for word := range 8 {
			bits[124*frame+20+13*word+12] = '1'
		}
	}
	wantDecoded(t, "ones behind words", string(bits), 6, 1, api.Track{Samples: "abcdef", Frames: 7})
}

// TestDecodeWordsOfNoByte: each 12-bit text in the place of a sample is taken
// for a byte, or lost.
func TestDecodeWordsOfNoByte(t *testing.T) {
	track := trackOf(t, "abcdef", 1)
	words := wordsByText()[:256]
	for _, text := range allTexts(12) {
		want := api.Track{Samples: "abcdef", Frames: 7, Restored: 1}
		switch b := slices.Index(words, text); {
		case b == 'c':
			want.Restored = 0
		case b >= 0:
			want = api.Track{Samples: "\x00\x00\x00\x00\x00\x00", Bad: rising(0, 6), Frames: 7}
		}
		wantDecoded(t, text, putWord(track, 2, 3, text), 6, 1, want)
	}
}

func TestDecodeNumbers(t *testing.T) {
	track := trackOf(t, "abcdef", 1)
	words := wordsByText()
	whole := api.Track{Samples: "abcdef", Frames: 7}
	restored := api.Track{Samples: "abcdef", Frames: 7, Restored: 1}
	for _, c := range []struct {
		what, bits string
		want       api.Track
	}{
		{"the first lost", putWord(track, 0, 0, lostBits), whole},
		{"one lost", putWord(track, 3, 0, lostBits), whole},
		{"the last lost", putWord(track, 6, 0, lostBits), whole},
		{"the first two lost", putWord(putWord(track, 0, 0, lostBits), 1, 0, lostBits), whole},
		{"the last too great", putWord(track, 6, 0, words[7]), restored},
		{"the last the greatest", putWord(track, 6, 0, words[255]), restored},
		{"the last past 255", putWord(track, 6, 0, words[5]), restored},
		{"the last past 255 to a wanted one", putWord(track, 6, 0, words[0]), restored},
		{"the first 5, so that the others go past 255", putWord(track, 0, 0, words[5]), api.Track{Samples: "\x00\x00\x00\x00\x00\x00", Bad: rising(0, 5), Frames: 7}},
		{"the first 255", putWord(track, 0, 0, words[255]), api.Track{Samples: "\x00\x00\x00\x00\x00\x00", Bad: rising(0, 6), Frames: 7}},
		// Frame 4 is taken for 5, frame 5 for 261, and frame 6 for 262.
		{"frame 4 says 5", putWord(track, 4, 0, words[5]), api.Track{Samples: "abcd2\x00", Bad: []int{4}, Frames: 7}},
		// Frame 0 is missing, and frame 1 is taken for it.
		{"the first lost behind a gap", putWord(track, 1, 0, lostBits)[124:], api.Track{Samples: "\x00\x03cdef", Frames: 6, Restored: 1}},
		// Frame 1 is missing, and frame 2 is taken for it.
		{"one lost behind a gap", putWord(track[:124]+track[248:], 1, 0, lostBits), api.Track{Samples: "a\x00\x01def", Frames: 6, Restored: 1}},
		{"frames twice", track + track, api.Track{Samples: "abcdef", Frames: 14}},
		{"a frame twice", track[:248] + track[124:], api.Track{Samples: "abbbbb", Bad: rising(2, 6), Frames: 8}},
	} {
		wantDecoded(t, c.what, c.bits, 6, 1, c.want)
	}
}

// TestDecodeFramesThatNoFrameIs: such a frame says nothing, but counts, and the
// numbers go on behind it.
func TestDecodeFramesThatNoFrameIs(t *testing.T) {
	words := wordsByText()
	frame := func(number int) string {
		return markBits + words[number] + "0" + strings.Repeat(words[77]+"0", 7)
	}
	track := trackOf(t, "abcdef", 1)
	for number := 7; number < 256; number++ {
		wantDecoded(t, "a frame more", track+frame(number), 6, 1, api.Track{Samples: "abcdef", Frames: 8})
	}
	for number := range 7 {
		wantDecoded(t, "a frame more, past 255", track+frame(number), 6, 1, api.Track{Samples: "abcdef", Frames: 8})
	}
	wantDecoded(t, "a frame more ahead", frame(7)+track, 6, 1, api.Track{Samples: "\x00\x00\x00\x00\x00\x00", Bad: rising(0, 6), Frames: 8})
	// With two rows wanted there is a frame 7: row 1 has 77 as its check.
	wantDecoded(t, "a frame that the second row has", track+frame(7), 12, 1, api.Track{Samples: "abcdefffffff", Bad: rising(6, 12), Frames: 8})
}

func TestDecodeRows(t *testing.T) {
	track := trackOf(t, "abcdefghijklmnopqr", 2)
	words := wordsByText()
	for _, c := range []struct {
		what, bits string
		want       api.Track
	}{
		{"one sample lost", without(track, 2, [2]int{1, 3}), api.Track{Samples: "abcdefghijklmnopqr", Restored: 1}},
		{"a check lost", without(track, 2, [2]int{1, 6}), api.Track{Samples: "abcdefghijklmnopqr", Restored: 1}},
		{"one lost of each row", without(track, 2, [2]int{0, 0}, [2]int{1, 5}, [2]int{2, 6}), api.Track{Samples: "abcdefghijklmnopqr", Restored: 3}},
		{"one lost of a row, two of another", without(track, 2, [2]int{0, 4}, [2]int{1, 1}, [2]int{1, 3}), api.Track{Samples: "abcdefghijklmnopqr", Bad: []int{7, 9}, Restored: 1}},
		{"a sample and the check lost", without(track, 2, [2]int{0, 2}, [2]int{0, 6}), api.Track{Samples: "abcdefghijklmnopqr", Bad: []int{2}}},
		{"the first sample and the check lost", without(track, 2, [2]int{0, 0}, [2]int{0, 6}), api.Track{Samples: "\x00bcdefghijklmnopqr", Bad: []int{0}}},
		{"the last sample and the check lost", without(track, 2, [2]int{2, 5}, [2]int{2, 6}), api.Track{Samples: "abcdefghijklmnopqq", Bad: []int{17}}},
		{"both ends lost", without(track, 2, [2]int{0, 0}, [2]int{0, 6}, [2]int{2, 5}, [2]int{2, 6}), api.Track{Samples: "\x00bcdefghijklmnopqq", Bad: []int{0, 17}}},
		{"the first two lost", without(track, 2, [2]int{0, 0}, [2]int{0, 1}), api.Track{Samples: "\x00\x00cdefghijklmnopqr", Bad: []int{0, 1}}},
		{"the last two lost", without(track, 2, [2]int{2, 4}, [2]int{2, 5}), api.Track{Samples: "abcdefghijklmnoppp", Bad: []int{16, 17}}},
		{"two beside one another lost", without(track, 2, [2]int{1, 2}, [2]int{1, 3}), api.Track{Samples: "abcdefghhhklmnopqr", Bad: []int{8, 9}}},
		{"beside one another, of two rows", without(track, 2, [2]int{0, 5}, [2]int{0, 6}, [2]int{1, 0}, [2]int{1, 6}), api.Track{Samples: "abcdeeehijklmnopqr", Bad: []int{5, 6}}},
		{"a row's end, covered from the next row", without(track, 2, [2]int{0, 5}, [2]int{0, 3}), api.Track{Samples: "abcdefghijklmnopqr", Bad: []int{3, 5}}},
		{"a check wrong", putWord(track, 13, 7, words[0]), api.Track{Samples: "abcdefffffffmnopqr", Bad: rising(6, 12)}},
		{"a sample wrong", putWord(track, 7, 4, words['?']), api.Track{Samples: "abcdefffffffmnopqr", Bad: rising(6, 12)}},
		{"a check wrong in the first row", putWord(track, 12, 7, words[0]), api.Track{Samples: "\x00\x00\x00\x00\x00\x00ghijklmnopqr", Bad: rising(0, 6)}},
		{"a check wrong in the last row", putWord(track, 14, 7, words[0]), api.Track{Samples: "abcdefghijklllllll", Bad: rising(12, 18)}},
		{"a check wrong, a sample lost", without(putWord(track, 13, 7, words['g'^'h'^'i'^'j'^'k'^'l'^1]), 2, [2]int{1, 3}), api.Track{Samples: "abcdefghikklmnopqr", Restored: 1}},
		{"a check wrong, two samples lost", without(putWord(track, 13, 7, words[0]), 2, [2]int{1, 1}, [2]int{1, 4}), api.Track{Samples: "abcdefghijklmnopqr", Bad: []int{7, 10}}},
		{"a symbol of no row lost", putWord(track, 14, 1, lostBits), api.Track{Samples: "abcdefghijklmnopqr"}},
	} {
		c.want.Frames = 15
		wantDecoded(t, c.what, c.bits, 18, 2, c.want)
	}
}

// TestDecodeCoversAheadOfCuttingOff: samples from count on are not told, but
// cover those that are.
func TestDecodeCoversAheadOfCuttingOff(t *testing.T) {
	track := trackOf(t, "abcdez", 3)
	for _, c := range []struct {
		what  string
		lost  [][2]int
		count int
		want  api.Track
	}{
		{"the one behind is good", [][2]int{{0, 1}, {0, 4}}, 5, api.Track{Samples: "abcdo", Bad: []int{1, 4}}},
		{"the one behind is told, too", [][2]int{{0, 1}, {0, 4}}, 6, api.Track{Samples: "abcdoz", Bad: []int{1, 4}}},
		{"the one behind is bad", [][2]int{{0, 4}, {0, 5}}, 5, api.Track{Samples: "abcdd", Bad: []int{4}}},
		{"the bad ones are not told", [][2]int{{0, 4}, {0, 5}}, 4, api.Track{Samples: "abcd"}},
		{"all but one are not told", [][2]int{{0, 0}, {0, 5}}, 1, api.Track{Samples: "\x00", Bad: []int{0}}},
		{"a restored one is not told", [][2]int{{0, 5}}, 3, api.Track{Samples: "abc", Restored: 1}},
	} {
		c.want.Frames = 19
		wantDecoded(t, c.what, without(track, 3, c.lost...), c.count, 3, c.want)
	}
	wrong := putWord(track, 15, 6, wordsByText()['y'])
	wantDecoded(t, "a wrong sample that is not told", wrong, 2, 3, api.Track{Samples: "\x00\x00", Bad: []int{0, 1}, Frames: 19})
}

// TestDecodeOtherDepth: what was written by one depth is no track by another.
func TestDecodeOtherDepth(t *testing.T) {
	track := trackOf(t, "abcdef", 1)
	// Symbol 0 stands in frame 0 by each depth; by depth 2 symbols 1 to 3 are
	// taken from frames 2, 4 and 6, where they are noughts.
	wantDecoded(t, "depth 2", track, 6, 2, api.Track{Samples: "a\x00\x00\x00\x00\x00", Bad: []int{4, 5}, Frames: 7})
}

func TestDecodeMostBits(t *testing.T) {
	samples := manySamples(api.MaxSamples)
	track := trackOf(t, samples, api.MaxDepth)
	bits := (track + track + track)[:api.MaxBits]
	wantDecoded(t, "MaxBits bits", bits, api.MaxSamples, api.MaxDepth, api.Track{Samples: samples, Frames: 129})
	wantDecoded(t, "noughts ahead", noughts(api.MaxBits-len(track))+track, api.MaxSamples, api.MaxDepth, api.Track{Samples: samples, Frames: 64})
	wantDecodeRefused(t, bits+"0", api.MaxSamples, api.MaxDepth, api.ErrBits)
	wantDecodeRefused(t, noughts(api.MaxBits+1), 0, 1, api.ErrBits)
	wantDecodeRefused(t, noughts(1<<20), 0, 1, api.ErrBits)
}

func TestDecodeOtherLetters(t *testing.T) {
	track := trackOf(t, "abcdef", 1)
	for b := range 256 {
		if b == '0' || b == '1' {
			continue
		}
		letter := string([]byte{byte(b)})
		for _, bits := range []string{letter, "0" + letter, letter + "1", "01" + letter + "10", track + letter, letter + track, track[:300] + letter + track[301:]} {
			wantDecodeRefused(t, bits, 6, 1, api.ErrBits)
			wantDecodeRefused(t, bits, -1, 0, api.ErrBits)
		}
	}
	wantDecodeRefused(t, "٠١", 0, 1, api.ErrBits)
	wantDecodeRefused(t, "0１", 0, 1, api.ErrBits)
}

func TestDecodeNoCount(t *testing.T) {
	track := trackOf(t, "abcdef", 1)
	for _, count := range []int{-1, -6, api.MaxSamples + 1, 256, 1 << 32, 1<<32 + 6, math.MaxInt, math.MaxInt - 5, math.MinInt} {
		for _, depth := range []int{1, api.MaxDepth, 0, -1, api.MaxDepth + 1, math.MaxInt, math.MinInt} {
			wantDecodeRefused(t, track, count, depth, api.ErrCount)
			wantDecodeRefused(t, "", count, depth, api.ErrCount)
			wantDecodeRefused(t, "2", count, depth, api.ErrBits)
			wantDecodeRefused(t, noughts(api.MaxBits+1), count, depth, api.ErrBits)
		}
	}
}

func TestDecodeNoDepth(t *testing.T) {
	track := trackOf(t, "abcdef", 1)
	for _, depth := range []int{0, -1, -4, api.MaxDepth + 1, 256, 257, 1 << 32, 1<<32 + 1, math.MaxInt, math.MinInt} {
		for _, count := range []int{0, 1, 6, api.MaxSamples} {
			wantDecodeRefused(t, track, count, depth, api.ErrDepth)
			wantDecodeRefused(t, "", count, depth, api.ErrDepth)
			wantDecodeRefused(t, "x", count, depth, api.ErrBits)
		}
	}
}

func TestDecodeIsNewMemory(t *testing.T) {
	track := trackOf(t, manySamples(12), 1)
	first, _ := groove.Decode(track, 12, 1)
	second, _ := groove.Decode(track, 12, 1)
	if unsafe.StringData(first.Samples) == unsafe.StringData(second.Samples) {
		t.Error("P1: Decode tells the same samples' memory twice")
	}
	lost, _ := groove.Decode("", 9, 2)
	other, _ := groove.Decode("", 9, 2)
	room := lost.Bad[:cap(lost.Bad)]
	for place := range room {
		room[place] = 77
	}
	if again, _ := groove.Decode("", 9, 2); !slices.Equal(other.Bad, rising(0, 9)) || !slices.Equal(again.Bad, rising(0, 9)) {
		t.Errorf("P1: Decode tells places that are shared: %v, %v", other.Bad, again.Bad)
	}
}

func TestDecodeTellsTheSameAgain(t *testing.T) {
	track := without(trackOf(t, "abcdef", 1), 1, [2]int{0, 1}, [2]int{0, 4})
	want := api.Track{Samples: "abcdef", Bad: []int{1, 4}, Frames: 7}
	for range 1000 {
		wantDecoded(t, "again", track, 6, 1, want)
		groove.Decode(noughts(99), api.MaxSamples, 4)
		groove.Decode("2", 1, 1)
	}
}

func TestDecodeFromManyGoroutines(t *testing.T) {
	var all sync.WaitGroup
	for worker := range 8 {
		samples, depth := manySamples(30*worker+1), 1+worker%api.MaxDepth
		track := trackOf(t, samples, depth)
		all.Go(func() {
			for range 50 {
				wantDecoded(t, "as it is", track, len(samples), depth, api.Track{Samples: samples, Frames: len(track) / 124})
			}
		})
	}
	all.Wait()
}

// TestDecodeLeavesNoGoroutine waits a little, since one that has done its work
// may still be counted for a moment.
func TestDecodeLeavesNoGoroutine(t *testing.T) {
	ahead := runtime.NumGoroutine()
	track := trackOf(t, manySamples(api.MaxSamples), api.MaxDepth)
	for range 100 {
		groove.Decode(track, api.MaxSamples, api.MaxDepth)
		groove.Decode(track, 0, 1)
		groove.Decode(track+track, 6, 1)
		groove.Decode("", 6, 1)
		groove.Decode("2", 6, 1)
		groove.Decode(track, -1, 1)
		groove.Decode(track, 6, 0)
	}
	for range 1000 {
		if runtime.NumGoroutine() <= ahead {
			return
		}
		time.Sleep(time.Millisecond)
	}
	t.Errorf("P1: %d goroutines are left", runtime.NumGoroutine()-ahead)
}
