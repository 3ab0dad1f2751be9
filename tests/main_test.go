package tests

import (
	"os"
	"runtime/debug"
	"testing"
)

func TestMain(m *testing.M) {
	// The tests make a great many things that are gone at once: with fewer
	// collections they take half the time.
	debug.SetGCPercent(400)
	os.Exit(m.Run())
}
