package tests

import (
	"fmt"
	"reflect"
	"testing"
)

// failed returns a check of all results of a call: the last one must be false, and all others zero values, where a slice may be empty.
func failed(t *testing.T, call ...any) func(results ...any) {
	return func(results ...any) {
		t.Helper()
		last := len(results) - 1
		if results[last] != false {
			t.Errorf("%v does not fail: %v", call, results)
		}
		for _, x := range results[:last] {
			if !isZero(reflect.ValueOf(x)) {
				t.Errorf("%v returns %v beside false", call, x)
			}
		}
	}
}

func isZero(v reflect.Value) bool {
	switch v.Kind() {
	case reflect.Slice:
		return v.Len() == 0
	case reflect.Struct:
		for i := range v.NumField() {
			if !isZero(v.Field(i)) {
				return false
			}
		}
		return true
	}
	return v.IsZero()
}

// told returns all results of a call as one text, in which nil slices and empty ones are the same.
func told(results ...any) string { return fmt.Sprint(results...) }
