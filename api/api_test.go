package api_test

import (
	"testing"

	"groove/api"
)

// TestNumbers holds the numbers against the document's: what calls tell hangs
// on them.
func TestNumbers(t *testing.T) {
	for want, e := range []api.Errno{api.OK, api.ErrWord, api.ErrLarge, api.ErrDepth, api.ErrCount, api.ErrBits} {
		if int(e) != want {
			t.Errorf("an error is %d, want %d", e, want)
		}
	}
	limits := [...]int{api.MaxSamples, api.MaxDepth, api.MaxBits, api.RowSize}
	if want := [...]int{240, 4, 16000, 6}; limits != want {
		t.Errorf("the limits are %v, want %v", limits, want)
	}
}
