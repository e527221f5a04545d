"""Promise 4: mo_place."""

import inspect
import unittest

from newandmoving.points import mo_place
from tests.fits import has_fit, places, scattered
from tests.told import EDGE_POINTS, NOT_POINTS, Unchanging, at, long_words, told

FIRST_TIME = -65536
LAST_TIME = 65536
TIMES_BEYOND = (LAST_TIME + 1, FIRST_TIME - 1, 2 ** 31 - 1, -2 ** 31, 2 ** 30, -2 ** 30)

GOING = ((0, 10, -20, 0), (1, 13, -21, 0))


def words(*times):
    return [t % 2 ** 32 for t in times]


def place(points, *times):
    """What is answered for points and times with signs."""
    return mo_place(told(*points), words(*times))


def is_at(*numbers):
    return [0] + long_words(*numbers)


def place_by_the_document(points, times):
    if not has_fit(points):
        return [-4]
    return is_at(*[number for xy in places(points, times) for number in xy])


class Ordinary(unittest.TestCase):
    def test_two_points_at_some_times(self):
        self.assertEqual(place(GOING, 0, 1, 4), is_at(2560, -5120, 256 * 13, -256 * 21, 256 * 22, -256 * 24))

    def test_points_that_go_evenly(self):
        points = [(t, 7 + 3 * t, 90 - 2 * t, 0) for t in (100, 101, 104, 105, 109)]
        for t in (FIRST_TIME, -1, 0, 100, 102, 109, 5000, LAST_TIME):
            self.assertEqual(place(points, t), is_at(256 * (7 + 3 * t), 256 * (90 - 2 * t)), t)

    def test_points_that_stay(self):
        points = [(t, -7, 9, 0) for t in (0, 2, 3)]
        for t in (FIRST_TIME, -1, 0, 1, 2, LAST_TIME):
            self.assertEqual(place(points, t), is_at(-7 * 256, 9 * 256), t)

    def test_points_that_do_not_go_evenly(self):
        # By the fit x is half a place below 0 at first, and a place and a half more each time; y is against it.
        points = ((0, 0, 0, 0), (1, 0, 0, 0), (2, 3, -3, 0))
        self.assertEqual(place(points, 0, 1, 2, 3), is_at(-128, 128, 256, -256, 640, -640, 1024, -1024))

    def test_some_at_the_same_time(self):
        points = ((0, 1, 0, 0), (0, 3, 0, 0), (2, 6, -4, 0))
        self.assertEqual(place(points, 0, 1, 2), is_at(512, 0, 1024, -512, 1536, -1024))

    def test_what_is_told_first_comes_first(self):
        self.assertEqual(place(GOING, 5, 2, 9), is_at(*[256 * n for n in (25, -25, 16, -22, 37, -29)]))
        self.assertEqual(place(GOING, 9, 2, 5), is_at(*[256 * n for n in (37, -29, 16, -22, 25, -25)]))

    def test_a_time_may_be_asked_twice(self):
        self.assertEqual(place(GOING, 2, 2, 0, 2), is_at(*[256 * n for n in (16, -22, 16, -22, 10, -20, 16, -22)]))

    def test_the_order_of_the_points_plays_no_part(self):
        points = scattered(6, 5, 20, 30)
        self.assertEqual(place(points, -3, 0, 7, 99), place(points[::-1], -3, 0, 7, 99))

    def test_brightness_plays_no_part(self):
        self.assertEqual(place(((0, 0, 0, -65536), (1, 1, 2, 65536)), 3), [0, 768, 1536])

    def test_against_the_words_of_the_document(self):
        times = (FIRST_TIME, -513, -7, -1, 0, 1, 2, 3, 60, 65535, LAST_TIME)
        for step in range(100):
            for many, last_time, farthest in ((2, 3, 4), (3, 3, 4), (5, 60, 9), (9, 65535, 32768)):
                points = scattered(many, step, last_time, farthest)
                self.assertEqual(place(points, *times), place_by_the_document(points, times), points)


class Edges(unittest.TestCase):
    def test_no_time(self):
        self.assertEqual(place(GOING), [0])

    def test_no_point(self):
        self.assertEqual(mo_place([], []), [-4])
        self.assertEqual(place((), 0), [-4])
        self.assertEqual(place((), FIRST_TIME, LAST_TIME), [-4])

    def test_one_point(self):
        for point in ((0, 0, 0, 0), (7, 3, -3, 0), (65535, 32768, -32768, 0)):
            self.assertEqual(place((point,), point[0]), [-4], point)
            self.assertEqual(place((point,)), [-4], point)

    def test_all_at_one_time(self):
        for t in (0, 9, 65535):
            self.assertEqual(place([(t, 1, 2, 0), (t, 3, 4, 0)], t), [-4], t)
            self.assertEqual(place([(t, k, -k, 0) for k in range(48)], t), [-4], t)
            self.assertEqual(place([(t, k, -k, 0) for k in range(48)]), [-4], t)

    def test_one_of_many_at_another_time(self):
        points = [(9, 2, -2, 0)] * 47 + [(10, 5, -6, 0)]
        self.assertEqual(place(points, 9, 10, 11), is_at(512, -512, 1280, -1536, 2048, -2560))

    def test_times_below_0(self):
        self.assertEqual(place(GOING, -1, -2, -4), is_at(*[256 * n for n in (7, -19, 4, -18, -2, -16)]))

    def test_first_and_last_time(self):
        self.assertEqual(place(GOING, FIRST_TIME), is_at(256 * (10 - 3 * 65536), 256 * (65536 - 20)))
        self.assertEqual(place(GOING, LAST_TIME), is_at(256 * (10 + 3 * 65536), -256 * (65536 + 20)))
        self.assertEqual(mo_place(told(*GOING), [65536]), is_at(256 * (10 + 3 * 65536), -256 * (65536 + 20)))
        self.assertEqual(mo_place(told(*GOING), [4294901760]), is_at(256 * (10 - 3 * 65536), 256 * (65536 - 20)))

    def test_no_time_within_is_refused(self):
        for t in (FIRST_TIME, FIRST_TIME + 1, -65535, -1, 0, 1, 65534, 65535, LAST_TIME - 1, LAST_TIME):
            self.assertEqual(place(((0, 0, 0, 0), (1, 1, -1, 0)), t), is_at(256 * t, -256 * t), t)

    def test_256_times(self):
        times = [7 * k - 900 for k in range(256)]
        expected = [number for t in times for number in (256 * (10 + 3 * t), 256 * (-20 - t))]
        self.assertEqual(place(GOING, *times), is_at(*expected))
        self.assertEqual(place(GOING, *times[:255]), is_at(*expected[:510]))

    def test_halfway_the_greater(self):
        # One place in 512 times is half a 256th in one.
        points = ((0, 0, 0, 0), (512, 1, -1, 0))
        self.assertEqual(place(points, 1, 3), is_at(1, 0, 2, -1))
        self.assertEqual(place(points, -1, -3), is_at(0, 1, -1, 2))

    def test_halfway_from_another_place(self):
        points = ((0, 2, -2, 0), (512, 3, -3, 0))
        self.assertEqual(place(points, 1, -1), is_at(513, -512, 512, -511))

    def test_beside_halfway_the_nearest(self):
        # One place in 768 times is a third of a 256th in one.
        points = ((0, 0, 0, 0), (768, 1, -1, 0))
        self.assertEqual(place(points, 1, 2, 4, 5), is_at(0, 0, 1, -1, 1, -1, 2, -2))
        self.assertEqual(place(points, -1, -2, -4, -5), is_at(0, 0, -1, 1, -1, 1, -2, 2))

    def test_below_0_with_2_to_the_64_added(self):
        answer = place(((0, 0, 0, 0), (1, -1, -3, 0)), 2)
        self.assertEqual(answer, [0, 18446744073709551104, 18446744073709550080])

    def test_greatest_and_least_that_a_point_may_have(self):
        for (t, x, y, brightness) in EDGE_POINTS:
            points = ((t, x, y, brightness), (5, 3, -4, 0))
            self.assertEqual(place(points, t, 5), is_at(256 * x, 256 * y, 768, -1024), points)

    def test_as_far_as_it_may_be(self):
        points = ((0, -32768, 32768, 0), (1, 32768, -32768, 0))
        there = 2 ** 24 * LAST_TIME - 2 ** 23
        back = 2 ** 24 * FIRST_TIME - 2 ** 23
        self.assertEqual(place(points, LAST_TIME, FIRST_TIME), is_at(there, -there, back, -back))
        late = ((65534, 32768, -32768, 0), (65535, -32768, 32768, 0))
        far = 2 ** 24 * (65534 + 65536) + 2 ** 23
        self.assertEqual(place(late, FIRST_TIME), is_at(far, -far))

    def test_48_points_at_the_greatest_and_the_least(self):
        corners = [
            (0, -32768, -32768, -65536), (0, 32768, 32768, 65536),
            (65535, -32768, 32768, 65536), (65535, 32768, -32768, -65536),
        ]
        times = (FIRST_TIME, -1, 0, 1, 32767, 65535, LAST_TIME)
        for many in ((12, 12, 12, 12), (47, 0, 1, 0), (1, 0, 0, 47), (0, 1, 46, 1), (1, 23, 1, 23), (24, 0, 0, 24)):
            points = [corner for corner, often in zip(corners, many) for _ in range(often)]
            self.assertEqual(len(points), 48)
            self.assertEqual(place(points, *times), place_by_the_document(points, times), many)

    def test_48_scattered_points_at_256_times(self):
        points = scattered(48, 3, 65535, 32768)
        times = [FIRST_TIME + 514 * k for k in range(256)]
        self.assertEqual(place(points, *times), place_by_the_document(points, times))


class Refused(unittest.TestCase):
    def test_one_point_too_many(self):
        self.assertEqual(place([(k, k, 0, 0) for k in range(49)], 0), [-2])
        self.assertEqual(place([(k, k, 0, 0) for k in range(49)]), [-2])

    def test_60_points(self):
        self.assertEqual(place([(k, k, 0, 0) for k in range(60)], 0), [-2])

    def test_one_time_too_many(self):
        self.assertEqual(place(GOING, *range(257)), [-2])
        self.assertEqual(place((), *range(257)), [-2])

    def test_300_times(self):
        self.assertEqual(place(GOING, *range(300)), [-2])

    def test_a_point_not_as_told(self):
        for bad in NOT_POINTS:
            for points in ((bad, *GOING), (GOING[0], bad, GOING[1]), (*GOING, bad)):
                self.assertEqual(place(points, 0), [-3], points)
                self.assertEqual(place(points), [-3], points)

    def test_the_48th_point_is_looked_at(self):
        self.assertEqual(place([(k, 0, 0, 0) for k in range(47)] + [(47, 32769, 0, 0)], 0), [-3])

    def test_a_time_beyond(self):
        for t in TIMES_BEYOND:
            for times in ((t,), (t, 0), (0, t), (0, t, 0)):
                self.assertEqual(place(GOING, *times), [-3], times)

    def test_the_256th_time_is_looked_at(self):
        for t in TIMES_BEYOND:
            self.assertEqual(place(GOING, *[0] * 255, t), [-3], t)

    def test_2_goes_ahead_of_3(self):
        bad = at(32769, 0)
        self.assertEqual(place([bad] * 49, 0), [-2])
        self.assertEqual(place([(k, k, 0, 0) for k in range(49)], LAST_TIME + 1), [-2])
        self.assertEqual(place((*GOING, bad), *range(257)), [-2])
        self.assertEqual(place(GOING, *[LAST_TIME + 1] * 257), [-2])
        self.assertEqual(place([bad] * 49, *[LAST_TIME + 1] * 257), [-2])

    def test_2_goes_ahead_of_4(self):
        self.assertEqual(place([at(0, 0)] * 49, 0), [-2])
        self.assertEqual(place([at(0, 0)], *range(257)), [-2])

    def test_3_goes_ahead_of_4(self):
        for bad in NOT_POINTS:
            self.assertEqual(place([bad], 0), [-3], bad)
            self.assertEqual(place([bad, bad]), [-3], bad)
        for t in TIMES_BEYOND:
            self.assertEqual(place((), t), [-3], t)
            self.assertEqual(place([at(0, 0)], 0, t), [-3], t)
            self.assertEqual(place([at(0, 0), at(5, 5)], t, 0), [-3], t)


class Interface(unittest.TestCase):
    def test_arguments(self):
        self.assertEqual(str(inspect.signature(mo_place)), "(l, ts)")

    def test_gives_back_a_list_of_ints(self):
        for answer in (place(GOING, -5, 5), place(GOING), place((), 0), place(GOING, LAST_TIME + 1)):
            self.assertIs(type(answer), list)
            self.assertEqual({type(number) for number in answer}, {int})

    def test_what_is_handed_in_is_not_changed(self):
        cases = [
            (told((2, -6, 0, -9), (0, 0, 0, 9), (1, -3, 0, 0)), words(7, -5, 0)),
            (told(*GOING), []),
            ([], words(1, -1)),
            (told(at(0, -5), at(0, 5)), words(-3)),
            (told(*GOING), words(LAST_TIME + 1, -1)),
            (told(at(32769, 0)), words(-1)),
            (told(*[at(-1, 0)] * 49), words(*range(-257, 0))),
        ]
        for l, ts in cases:
            handed_l = Unchanging(l)
            handed_ts = Unchanging(ts)
            mo_place(handed_l, handed_ts)
            self.assertEqual(handed_l, l)
            self.assertEqual(handed_ts, ts)

    def test_one_list_may_be_handed_in_twice(self):
        both = Unchanging(told((0, 1, 2, 0), (1, 2, 4, 0)))
        self.assertEqual(mo_place(both, both), place_by_the_document(((0, 1, 2, 0), (1, 2, 4, 0)), both))

    def test_nothing_is_kept(self):
        first = place(GOING, 0)
        first.append(77)
        place((), 0)
        place(((0, 5, 5, 0), (2, 8, 8, 0), (3, 90, 0, 0)), 1, 2, 3)
        self.assertEqual(place(GOING, 0), is_at(2560, -5120))
        self.assertEqual(place(GOING), [0])
        self.assertEqual(place((), 0), [-4])


if __name__ == "__main__":
    unittest.main()
