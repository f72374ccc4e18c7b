package frames

import (
	"slices"
	"strings"
	"testing"

	"groove/rows"
)

func TestLayOneRow(t *testing.T) {
	row := rows.Row{1, 2, 3, 4, 5, 6, 7}
	for depth := 1; depth <= 4; depth++ {
		want := make([]Frame, 1+6*depth)
		for number := range want {
			want[number].Number = byte(number)
		}
		for j, symbol := range row {
			want[depth*j].Symbols[j] = symbol
		}
		if got := Lay([]rows.Row{row}, depth); !slices.Equal(got, want) {
			t.Errorf("P4: depth %d: %v, want %v", depth, got, want)
		}
	}
}

func TestLayTwoRows(t *testing.T) {
	got := Lay([]rows.Row{{1, 2, 3, 4, 5, 6, 7}, {11, 12, 13, 14, 15, 16, 17}}, 1)
	want := []Frame{
		{0, [7]byte{1}},
		{1, [7]byte{11, 2}},
		{2, [7]byte{0, 12, 3}},
		{3, [7]byte{0, 0, 13, 4}},
		{4, [7]byte{0, 0, 0, 14, 5}},
		{5, [7]byte{0, 0, 0, 0, 15, 6}},
		{6, [7]byte{0, 0, 0, 0, 0, 16, 7}},
		{7, [7]byte{0, 0, 0, 0, 0, 0, 17}},
	}
	if !slices.Equal(got, want) {
		t.Errorf("P4: %v, want %v", got, want)
	}
}

func TestLayNoRows(t *testing.T) {
	if got := Lay(nil, 4); len(got) != 0 {
		t.Errorf("P4: no rows have frames %v", got)
	}
}

// TestLayManyRows: more rows than a call can ask for, so that the numbers go
// round.
func TestLayManyRows(t *testing.T) {
	got := Lay(make([]rows.Row, 600), 4)
	if len(got) != 624 {
		t.Fatalf("P4: %d frames, want 624", len(got))
	}
	for number, frame := range got {
		if want := (Frame{Number: byte(number % 256)}); frame != want {
			t.Errorf("P4: frame %d is %v, want %v", number, frame, want)
		}
	}
}

func TestTrack(t *testing.T) {
	const (
		mark = "10000000000000000010"
		zero = "0000000100000"
		one  = "0000000100010"
		most = "1000100100000"
	)
	for _, c := range []struct {
		frames []Frame
		want   string
	}{
		{nil, ""},
		{[]Frame{{}}, mark + strings.Repeat(zero, 8)},
		{[]Frame{{Number: 1}}, mark + one + strings.Repeat(zero, 7)},
		{[]Frame{{255, [7]byte{1, 255, 0, 1, 255, 0, 1}}}, mark + most + one + most + zero + one + most + zero + one},
		{[]Frame{{Number: 255}, {0, [7]byte{6: 1}}}, mark + most + strings.Repeat(zero, 7) + mark + strings.Repeat(zero, 7) + one},
	} {
		if got := Track(c.frames); got != c.want {
			t.Errorf("P4: Track(%v) = %s, want %s", c.frames, got, c.want)
		}
	}
}
