// Package survey: what the files of a disk say when an engine is opened.
package survey

import (
	"maps"
	"slices"

	"silo/api"
	"silo/blocks"
	"silo/sets"
	"silo/snapshots"
)

// Survey is what stays and what goes.
type Survey struct {
	Blocks []blocks.Range // those that stay, by rising lo
	Logs   []int          // those that stay, by rising numbers
	Torn   []Torn         // of these, in their order
	Head   sets.Set       // what lies in the logs that stay
	Goes   []string       // by rising names
	Next   int            // the next number
}

// Torn is a log that has bytes behind its frames, which have Size bytes.
type Torn struct {
	Log  string
	Size int
}

// surveyor is a survey at work.
type surveyor struct {
	Survey
	names []string // in rising order
	files map[string]api.File
	stays map[string]struct{}
}

// Of looks at files, of which no two may have one name; false, if they say what
// can't be.
func Of(files []api.File) (Survey, bool) {
	s := &surveyor{files: make(map[string]api.File), stays: make(map[string]struct{})}
	for _, file := range files {
		s.files[file.Name] = file
	}
	s.names = slices.Sorted(maps.Keys(s.files))
	if !s.takeBlocks() || !s.takeLogs() {
		return Survey{}, false
	}
	s.takeSnapshots()
	s.leaveTheRest()
	return s.Survey, true
}

// stay says that a name stays, in which this number is the greatest.
func (s *surveyor) stay(name string, greatest int) {
	s.stays[name] = struct{}{}
	s.Next = max(s.Next, greatest+1)
}

// takeSnapshots has the files of complete snapshots stay.
func (s *surveyor) takeSnapshots() {
	for _, name := range s.names {
		snapshot, ok := snapshots.FromManifestName(name)
		if !ok {
			continue
		}
		lines, ok := s.complete(snapshot)
		if !ok {
			continue
		}
		s.stay(name, snapshot)
		for _, line := range lines {
			s.stay(snapshots.BlockName(snapshot, line.Range), line.Range.Hi)
		}
	}
}

// complete is the lines of a snapshot's manifest; false, unless it is right and
// all that it names is there.
func (s *surveyor) complete(snapshot int) ([]snapshots.Line, bool) {
	lines, ok := snapshots.Lines(s.files[snapshots.ManifestName(snapshot)].Data)
	if !ok {
		return nil, false
	}
	for _, line := range lines {
		file, ok := s.files[snapshots.BlockName(snapshot, line.Range)]
		if !ok || !line.Fits(file.Data) {
			return nil, false
		}
	}
	return lines, true
}

func (s *surveyor) leaveTheRest() {
	for _, name := range s.names {
		if _, ok := s.stays[name]; !ok {
			s.Goes = append(s.Goes, name)
		}
	}
}
