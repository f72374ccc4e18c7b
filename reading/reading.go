// Package reading: samples read from a track.
package reading

import (
	"strings"
	"sync"

	"groove/api"
	"groove/covering"
	"groove/frames"
	"groove/rows"
)

// Track tells what bits hold of a track of so many samples by that depth.
func Track(bits string, count, depth int) api.Track {
	rowCount := rows.Count(count)
	gathered := runStages(bits, frames.Count(rowCount, depth))
	track := api.Track{Frames: gathered.Count}
	var samples strings.Builder
	var bad []bool
	for _, row := range frames.Lift(gathered.Wanted, rowCount, depth) {
		settled := row.Settle()
		samples.WriteString(settled.Samples)
		bad = append(bad, settled.Bad[:]...)
		if settled.Restored {
			track.Restored++
		}
	}
	// Samples from count on are not told, but the last one that is told may
	// be covered by the one behind it.
	track.Samples = covering.Cover(samples.String(), bad)[:count]
	track.Bad = covering.Places(bad[:count])
	return track
}

// runStages lets one stage find frames while another gathers them, and tells
// what was gathered when both have ended.
func runStages(bits string, wanted int) frames.Gathered {
	var gathered frames.Gathered
	var stages sync.WaitGroup
	found := make(chan frames.Found)
	stages.Add(2)
	go func() {
		defer stages.Done()
		frames.Find(bits, found)
	}()
	go func() {
		defer stages.Done()
		gathered = frames.Gather(found, wanted)
	}()
	stages.Wait()
	return gathered
}
