package class_test

import (
	"testing"

	"gunny/class"
)

// Promise 15.3.

func TestObjectsHaveRoomAndOneMoreHasNone(t *testing.T) {
	for c := range 64 {
		size, frames, objects := class.Size(c), class.Frames(c), class.Objects(c)
		room := frames * 4096
		if frames < 1 || frames > 4 || objects < 1 {
			t.Errorf("class %d: %d frames, %d objects", c, frames, objects)
		}
		if objects*size > room {
			t.Errorf("class %d: %d objects of %d bytes have no room in %d frames", c, objects, size, frames)
		}
		if (objects+1)*size <= room {
			t.Errorf("class %d: one more than %d objects of %d bytes has room in %d frames", c, objects, size, frames)
		}
		if objects*size+class.Left(c, frames) != room {
			t.Errorf("class %d: %d objects of %d bytes, and %d left, are not %d frames", c, objects, size, class.Left(c, frames), frames)
		}
	}
}

func TestNoOtherFramesWasteLess(t *testing.T) {
	for c := range 64 {
		mine := class.Frames(c)
		for frames := 1; frames <= 4; frames++ {
			here, there := class.Left(c, mine)*frames, class.Left(c, frames)*mine
			if there < here || there == here && frames < mine {
				t.Errorf("class %d: %d frames, though %d have no more left over", c, mine, frames)
			}
		}
	}
}

func TestGreaterClassesHaveNoSmallerObjects(t *testing.T) {
	for c := range 64 {
		for above := c; above < 64; above++ {
			if class.Size(above) < class.Size(c) {
				t.Errorf("class %d has smaller objects than class %d", above, c)
			}
		}
	}
}

func TestBytesHaveRoomInTheirOwnClassAndInNoneBelow(t *testing.T) {
	for n := 1; n <= 4096; n++ {
		own, _ := class.Of(n)
		if n > class.Size(own) {
			t.Errorf("%d bytes have no room in class %d", n, own)
		}
		for below := range own {
			if n <= class.Size(below) {
				t.Errorf("%d bytes of class %d have room in class %d", n, own, below)
			}
		}
	}
}

// What is told doesn't hang on what was asked ahead.
func TestAskedAgainItIsTheSame(t *testing.T) {
	for c := range 64 {
		size, frames, objects := class.Size(c), class.Frames(c), class.Objects(c)
		for other := 63; other >= 0; other-- {
			class.Left(other, 3)
			class.Frames(other)
		}
		if class.Size(c) != size || class.Frames(c) != frames || class.Objects(c) != objects {
			t.Errorf("class %d is told otherwise the next time", c)
		}
	}
}
