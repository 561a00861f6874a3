package silo_test

import (
	"math/rand"
	"slices"
	"testing"

	"silo/api"
	"silo/silo"
)

func TestBlockWritesNothingIntoItsList(t *testing.T) {
	r := rand.New(rand.NewSource(4))
	for range 300 {
		whole := anySamples(r, 60)
		before := slices.Clone(whole)
		// What is behind the list, its spare room, is not Block's either.
		list := whole[:len(whole)/2]
		if _, e := silo.Block(0, 1, list); e != api.OK {
			t.Fatalf("Block: %d", e)
		}
		if !slices.Equal(whole, before) {
			t.Fatalf("P2: Block wrote into %v: %v", before, whole)
		}
	}
}

func TestBlockKeepsNothingOfItsList(t *testing.T) {
	list := []api.Sample{{Series: 1, Time: 2, Value: 3}, {Series: 1, Time: 1, Value: 3}}
	want := modelFile(0, 1, list)
	got, _ := silo.Block(0, 1, list)
	other, _ := silo.Block(0, 1, []api.Sample{{Series: 1, Time: 7, Value: 7}})
	clear(list)
	if got != want || other != modelFile(0, 1, []api.Sample{{Series: 1, Time: 7, Value: 7}}) {
		t.Errorf("P2: Block's answers are %x and %x behind what was written", got, other)
	}
}

func TestBlockWritesNothingIntoAListThatItRefuses(t *testing.T) {
	list := []api.Sample{{Series: 3, Time: 2}, {Series: 3, Time: 1}, {Series: 16}}
	before := slices.Clone(list)
	silo.Block(0, 1, list)
	silo.Block(1, 0, list)
	if !slices.Equal(list, before) {
		t.Errorf("P2: Block wrote into a list that it refused: %v", list)
	}
}

func TestSamplesAnswersNewMemory(t *testing.T) {
	r := rand.New(rand.NewSource(5))
	for range 300 {
		list := laid(anySamples(r, 40))
		file := modelFile(3, 4, list)
		_, _, one, _ := silo.Samples(file)
		_, _, two, _ := silo.Samples(file)
		room := one[:cap(one)]
		for i := range room {
			room[i] = api.Sample{Series: 9, Time: 99, Value: 999}
		}
		_, _, three, _ := silo.Samples(file)
		if !slices.Equal(two, list) || !slices.Equal(three, list) {
			t.Fatalf("P2: Samples behind what was written into an answer: %v, %v, want %v", two, three, list)
		}
		roomOfTwo := two[:cap(two)]
		if slices.Contains(roomOfTwo[len(two):], api.Sample{Series: 9, Time: 99, Value: 999}) {
			t.Fatal("P2: two answers share spare room")
		}
	}
}

// TestAnswersHangOnArgumentsAlone: what was asked between does not show (P2).
func TestAnswersHangOnArgumentsAlone(t *testing.T) {
	r := rand.New(rand.NewSource(6))
	list := anySamples(r, 40)
	want := modelFile(1, 2, list)
	for range 100 {
		silo.Block(anyTime(r), anyTime(r), anySamples(r, 9))
		silo.Samples(modelFile(0, 0, anySamples(r, 9)))
		silo.Samples(want[:r.Intn(len(want))])
		wantBlock(t, 1, 2, list, want)
		wantSamples(t, want, 1, 2, laid(list))
	}
}
