package rows

import (
	"slices"
	"testing"
)

func TestCut(t *testing.T) {
	for samples, want := range map[string][]Row{
		"":                         {},
		"\x00":                     {{}},
		"a":                        {{'a', 0, 0, 0, 0, 0, 'a'}},
		"ab":                       {{'a', 'b', 0, 0, 0, 0, 'a' ^ 'b'}},
		"aa":                       {{'a', 'a'}},
		"\x01\x02\x04\x08\x10":     {{1, 2, 4, 8, 16, 0, 31}},
		"\x01\x02\x04\x08\x10\x20": {{1, 2, 4, 8, 16, 32, 63}},
		"\x01\x02\x04\x08\x10\x20\x40": {
			{1, 2, 4, 8, 16, 32, 63},
			{64, 0, 0, 0, 0, 0, 64},
		},
		"\xff\xff\xff\xff\xff\x00\x00\x00\x00\x00\x00\x80": {
			{255, 255, 255, 255, 255, 0, 255},
			{0, 0, 0, 0, 0, 128, 128},
		},
	} {
		if got := Cut(samples); !slices.Equal(got, want) {
			t.Errorf("P4: Cut(%q) = %v, want %v", samples, got, want)
		}
	}
}
