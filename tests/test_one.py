"""Promise 5: mo_one."""

import inspect
import itertools
import unittest
from math import isqrt

from newandmoving.points import mo_one
from tests.fits import has_fit, scattered, worst
from tests.told import EDGE_POINTS, NOT_POINTS, Unchanging, at, told

MOST_E = 2 ** 24


def one(e, a, b):
    """What is answered for two lists of points with signs."""
    return mo_one(e, told(*a), told(*b))


def going(times):
    """Points of one thing that goes evenly."""
    return [(t, 7 + 3 * t, 90 - 2 * t, 0) for t in times]


class Ordinary(unittest.TestCase):
    def test_two_nights_of_one_thing(self):
        self.assertEqual(one(0, going((0, 1, 2)), going((100, 101, 103))), [1])

    def test_two_nights_of_two_things(self):
        other = [(t, 500 + 3 * t, 90 - 2 * t, 0) for t in (100, 101, 103)]
        self.assertEqual(one(256, going((0, 1, 2)), other), [0])

    def test_as_fast_but_beside_it(self):
        # One fit through both misses each by half of what they are apart.
        a = [(0, 0, 0, 0), (2, 0, 0, 0)]
        b = [(0, 10, 0, 0), (2, 10, 0, 0)]
        self.assertEqual(one(5 * 256, a, b), [1])
        self.assertEqual(one(5 * 256 - 1, a, b), [0])

    def test_each_goes_evenly_but_not_both_together(self):
        a = [(0, 0, 0, 0), (1, 10, 0, 0)]
        b = [(10, 100, 0, 0), (11, 90, 0, 0)]
        self.assertEqual(one(0, a, []), [1])
        self.assertEqual(one(0, [], b), [1])
        self.assertEqual(one(256, a, b), [0])

    def test_either_list_may_hold_what_does_not_fit(self):
        even = going((0, 1, 2, 3))
        aside = [(t, 7 + 3 * t, 90 - 2 * t + (40 if t == 5 else 0), 0) for t in (4, 5, 6)]
        self.assertEqual(one(256, even, aside), [0])
        self.assertEqual(one(256, aside, even), [0])

    def test_the_worst_counts_and_not_the_mean(self):
        points = [(t, 0, 0, 0) for t in range(20)]
        points[10] = (10, 20, 0, 0)
        self.assertEqual(one(18 * 256, points[:12], points[12:]), [0])
        self.assertEqual(one(19 * 256 + 128, points[:12], points[12:]), [1])

    def test_times_of_the_lists_may_be_mixed(self):
        self.assertEqual(one(0, going((5, 0, 9)), going((1, 8, 5))), [1])

    def test_which_list_a_point_is_in_plays_no_part(self):
        points = scattered(5, 8, 40, 30)
        e = isqrt(worst(points))
        for k in range(6):
            for order in (points, points[::-1]):
                self.assertEqual(one(e, order[:k], order[k:]), [0], k)
                self.assertEqual(one(e + 1, order[:k], order[k:]), [1], k)

    def test_brightness_plays_no_part(self):
        self.assertEqual(one(0, [(0, 0, 0, -65536), (1, 1, 2, 65536)], [(2, 2, 4, 0)]), [1])

    def test_against_the_words_of_the_document(self):
        sizes = ((0, 2), (1, 1), (1, 2), (2, 3), (5, 4))
        limits = ((3, 4), (60, 9), (65535, 32768))
        for step, (n, m), (last_time, farthest) in itertools.product(range(60), sizes, limits):
            points = scattered(n + m, step, last_time, farthest)
            if not has_fit(points):
                self.assertEqual(one(MOST_E, points[:n], points[n:]), [0], points)
                continue
            far = worst(points)
            about = isqrt(far)
            for e in (0, about - 1, about, about + 1, 256, MOST_E):
                if not 0 <= e <= MOST_E:
                    continue
                expected = 1 if far <= e * e else 0
                self.assertEqual(one(e, points[:n], points[n:]), [expected], (e, points))


class NoFit(unittest.TestCase):
    def test_both_empty(self):
        for e in (0, 1, MOST_E):
            self.assertEqual(mo_one(e, [], []), [0], e)

    def test_one_point_alone(self):
        for point in ((0, 0, 0, 0), (7, 3, -3, 0), (65535, 32768, -32768, 0)):
            for e in (0, MOST_E):
                self.assertEqual(one(e, [point], []), [0], point)
                self.assertEqual(one(e, [], [point]), [0], point)

    def test_all_at_one_time(self):
        for t, e in itertools.product((0, 9, 65535), (0, MOST_E)):
            here = (t, 1, 2, 0)
            self.assertEqual(one(e, [here], [here]), [0], t)
            self.assertEqual(one(e, [here, here], []), [0], t)
            self.assertEqual(one(e, [], [here, (t, 3, 4, 0)]), [0], t)
            self.assertEqual(one(e, [(t, k, 0, 0) for k in range(48)], [(t, 0, k, 0) for k in range(48)]), [0], t)


class Edges(unittest.TestCase):
    def test_one_empty(self):
        self.assertEqual(one(0, going((0, 1, 5)), []), [1])
        self.assertEqual(one(0, [], going((0, 1, 5))), [1])
        self.assertEqual(one(0, [(0, 0, 0, 0), (1, 9, 0, 0), (2, 0, 0, 0)], []), [0])
        self.assertEqual(one(0, [], [(0, 0, 0, 0), (1, 9, 0, 0), (2, 0, 0, 0)]), [0])

    def test_one_point_in_each(self):
        self.assertEqual(one(0, [(0, -32768, 32768, 0)], [(65535, 32768, -32768, 0)]), [1])
        self.assertEqual(one(0, [(1, 5, 5, 0)], [(0, 9, 9, 0)]), [1])

    def test_each_list_without_a_fit_but_both_together_with_one(self):
        a = [(3, 5, 5, 0), (3, 5, 5, 0)]
        b = [(9, 7, 7, 0), (9, 7, 7, 0)]
        self.assertEqual(one(0, a, b), [1])

    def test_the_last_of_each_list_counts(self):
        for k in range(6):
            points = [(t, t, 2 * t, 0) for t in range(6)]
            points[k] = (k, k, 2 * k + 90, 0)
            self.assertEqual(one(256, points[:3], points[3:]), [0], k)

    def test_just_e_e_and_less(self):
        # By the fit they are at 128 below 0, at 256 and at 640 of 256ths: the second misses by 256.
        a = [(0, 0, 0, 0), (1, 0, 0, 0)]
        self.assertEqual(one(257, a, [(2, 3, 0, 0)]), [1])
        self.assertEqual(one(256, a, [(2, 3, 0, 0)]), [1])
        self.assertEqual(one(255, a, [(2, 3, 0, 0)]), [0])
        self.assertEqual(one(256, a, [(2, 0, -3, 0)]), [1])
        self.assertEqual(one(255, a, [(2, 0, -3, 0)]), [0])

    def test_both_x_and_y_count(self):
        # The second misses by 256 in each, by 362 and a little more in all.
        a = [(0, 0, 0, 0), (1, 0, 0, 0)]
        self.assertEqual(one(362, a, [(2, 3, -3, 0)]), [0])
        self.assertEqual(one(363, a, [(2, 3, -3, 0)]), [1])

    def test_e_of_0(self):
        self.assertEqual(one(0, going((0, 4)), going((9,))), [1])
        self.assertEqual(one(0, going((0, 4)), [(9, 7 + 27 + 1, 90 - 18, 0)]), [0])

    def test_e_of_0_where_the_miss_is_rounded_away(self):
        # A place in 65535 times: in one time the fit goes on by less than half a 256th.
        almost = [(0, 0, 0, 0)] * 47 + [(1, 0, 0, 0)]
        self.assertEqual(one(0, almost, [(65535, 1, 0, 0)]), [1])

    def test_one_beyond_e_e(self):
        # In 200 times the fit goes on by less than a 256th, told as 1: the one that stayed misses by that alone.
        stayed = [(0, 0, 0, 0)] * 47 + [(200, 0, 0, 0)]
        self.assertEqual(one(0, stayed, [(65535, 1, 0, 0)]), [0])
        self.assertEqual(one(1, stayed, [(65535, 1, 0, 0)]), [1])

    def test_halfway_the_greater(self):
        # The second's place is 308 and a half, told as 309; it's at 256 below 0.
        points = [(1, 3, 0, 0), (6, -1, 0, 0), (20, 1, 0, 0), (12, 0, 0, 0), (12, 2, 0, 0)]
        self.assertEqual(one(564, points[:2], points[2:]), [0])
        self.assertEqual(one(565, points[:2], points[2:]), [1])
        # The third's place is 449 and a half below 0, told as 449 below 0; it's at 0.
        points = [(20, 0, -2, 0), (27, 0, -2, 0), (21, 0, 0, 0), (37, 0, -1, 0), (21, 0, -3, 0)]
        self.assertEqual(one(448, points[:2], points[2:]), [0])
        self.assertEqual(one(449, points[:2], points[2:]), [1])

    def test_greatest_e(self):
        # The last one misses by half of 131072 places, 2^24 of 256ths.
        a = [(0, -32768, 0, 0)] * 5 + [(1, 32768, 0, 0)] * 5
        self.assertEqual(one(MOST_E, a, [(2, -32768, 0, 0)]), [1])
        self.assertEqual(one(MOST_E - 1, a, [(2, -32768, 0, 0)]), [0])

    def test_beyond_the_greatest_e(self):
        a = [(0, -32768, 0, 0)] * 4
        last = (2, -32768, 0, 0)
        self.assertEqual(one(MOST_E, a + [(1, 24576, 0, 0)] * 8, [last]), [1])
        self.assertEqual(one(MOST_E, a + [(1, 24577, 0, 0)] * 8, [last]), [0])
        corners = [(0, -32768, -32768, 0)] * 47 + [(0, 32768, 32768, 0)]
        self.assertEqual(one(MOST_E, corners, [(1, 0, 0, 0)]), [0])

    def test_greatest_and_least_that_a_point_may_have(self):
        for (t, x, y, brightness) in EDGE_POINTS:
            point = (t, x, y, brightness)
            self.assertEqual(one(0, [point], [(5, 1, 1, 0)]), [1], point)
            self.assertEqual(one(0, [(5, 1, 1, 0)], [point]), [1], point)

    def test_48_points_in_each(self):
        row = [(k, 3 * k - 90, 40 - k, 0) for k in range(96)]
        self.assertEqual(one(0, row[:48], row[48:]), [1])
        self.assertEqual(one(0, row[:48], []), [1])
        self.assertEqual(one(0, [], row[48:]), [1])
        self.assertEqual(one(0, row[:48], row[48:95] + [(95, 3 * 95 - 90, 41, 0)]), [0])
        self.assertEqual(one(0, [(0, -90, -41, 0)] + row[1:48], row[48:]), [0])

    def test_48_points_in_each_from_corner_to_corner(self):
        self.assertEqual(one(0, [(0, -32768, 32768, 0)] * 48, [(65535, 32768, -32768, 0)] * 48), [1])

    def test_48_scattered_points_in_each(self):
        points = scattered(96, 4, 65535, 32768)
        e = isqrt(worst(points))
        self.assertLess(e, MOST_E)
        self.assertEqual(one(e, points[:48], points[48:]), [0])
        self.assertEqual(one(e + 1, points[:48], points[48:]), [1])


class Refused(unittest.TestCase):
    def test_one_point_too_many(self):
        many = going(range(49))
        self.assertEqual(one(0, many, []), [-2])
        self.assertEqual(one(0, [], many), [-2])
        self.assertEqual(one(0, many, going((60,))), [-2])
        self.assertEqual(one(0, going((60,)), many), [-2])

    def test_60_points(self):
        self.assertEqual(one(0, going(range(60)), []), [-2])
        self.assertEqual(one(0, [], going(range(60))), [-2])

    def test_e_beyond(self):
        for e in (MOST_E + 1, 2 ** 31, 2 ** 32 - 1):
            self.assertEqual(one(e, going((0, 1)), going((5,))), [-2], e)
            self.assertEqual(mo_one(e, [], []), [-2], e)

    def test_a_point_not_as_told_in_either_list(self):
        good = going((0, 1))
        for bad in NOT_POINTS:
            for points in ((bad,), (bad, *good), (good[0], bad, good[1]), (*good, bad)):
                for other in (good, []):
                    self.assertEqual(one(MOST_E, points, other), [-3], points)
                    self.assertEqual(one(MOST_E, other, points), [-3], points)

    def test_the_48th_point_is_looked_at(self):
        points = going(range(47)) + [(47, 32769, 0, 0)]
        self.assertEqual(one(0, points, going((60,))), [-3])
        self.assertEqual(one(0, going((60,)), points), [-3])

    def test_2_goes_ahead_of_3(self):
        bad = at(32769, 0)
        self.assertEqual(one(MOST_E + 1, [bad], [bad]), [-2])
        self.assertEqual(one(0, [bad], going(range(49))), [-2])
        self.assertEqual(one(0, going(range(49)), [bad]), [-2])
        self.assertEqual(one(0, [bad] * 49, []), [-2])
        self.assertEqual(one(0, [], [bad] * 49), [-2])

    def test_no_fit_is_no_refusal_but_refusals_go_ahead_of_it(self):
        self.assertEqual(one(0, [at(0, 0)] * 48, [at(1, 1)] * 48), [0])
        self.assertEqual(one(0, [at(0, 0)] * 49, []), [-2])
        self.assertEqual(one(0, [at(32769, 0)], []), [-3])


class Interface(unittest.TestCase):
    def test_arguments(self):
        self.assertEqual(str(inspect.signature(mo_one)), "(e, a, b)")

    def test_gives_back_a_list_of_ints(self):
        answers = [
            one(0, going((0,)), going((1,))),
            one(0, going((0, 1)), [at(0, 0)]),
            mo_one(0, [], []),
            mo_one(MOST_E + 1, [], []),
        ]
        for answer in answers:
            self.assertIs(type(answer), list)
            self.assertEqual({type(number) for number in answer}, {int})

    def test_what_is_handed_in_is_not_changed(self):
        cases = [
            (told((2, -6, 0, -9), (0, 0, 0, 9)), told((1, -3, 0, 0), (7, 4, -9, 0))),
            (told(*going((0, 1))), []),
            ([], told(*going((0, 1)))),
            ([], []),
            (told(at(0, -5)), told(at(0, 5))),
            (told(at(32769, 0)), told(at(-1, 0))),
            (told(at(-1, 0)), told(*[at(-1, 0)] * 49)),
        ]
        for a, b in cases:
            handed_a = Unchanging(a)
            handed_b = Unchanging(b)
            mo_one(3, handed_a, handed_b)
            self.assertEqual(handed_a, a)
            self.assertEqual(handed_b, b)

    def test_one_list_may_be_handed_in_twice(self):
        points = Unchanging(told(*going((0, 1, 2))))
        self.assertEqual(mo_one(0, points, points), [1])

    def test_nothing_is_kept(self):
        a = going((0, 1))
        b = going((5, 6))
        first = one(0, a, b)
        first.append(77)
        one(MOST_E + 1, a, b)
        one(0, a, [(9, 0, 0, 0)])
        one(0, [], [])
        self.assertEqual(one(0, a, b), [1])
        self.assertEqual(one(0, [], []), [0])


if __name__ == "__main__":
    unittest.main()
