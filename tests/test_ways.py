"""Promise 2: mo_ways."""

import inspect
import itertools
import unittest
from fractions import Fraction
from math import floor

from newandmoving.points import mo_pairs, mo_ways
from tests.told import EDGE_POINTS, NOT_POINTS, Unchanging, at, told

MOST_E = 2 ** 24


def misses_by(a, b, c):
    """How far c is from where a and b say, squared, by fractions instead of whole numbers."""
    far = 0
    for k in (1, 2):
        going = Fraction(256 * (b[k] - a[k]) * (c[0] - a[0]), b[0] - a[0])
        far += (256 * a[k] + floor(going + Fraction(1, 2)) - 256 * c[k]) ** 2
    return far


def way_by_the_document(e, points, pair):
    way = list(pair)
    while True:
        a, b = points[way[-2]], points[way[-1]]
        choices = [
            (c[0], misses_by(a, b, c), k) for k, c in enumerate(points)
            if c[0] > b[0] and misses_by(a, b, c) <= e ** 2
        ]
        if not choices:
            return way
        way.append(min(choices)[2])


def ways_by_the_document(q, e, least, points):
    pairs = mo_pairs(q, told(*points))[1:]
    ways = []
    for pair in zip(pairs[::2], pairs[1::2]):
        way = way_by_the_document(e, points, pair)
        if len(way) >= max(least, 2) and not set(way) & set(itertools.chain(*ways)):
            ways.append(way)
    in_way = {k: number + 1 for number, way in enumerate(ways) for k in way}
    return [len(ways)] + [in_way.get(k, 0) for k in range(len(points))]


def scattered(many, step):
    """Points that lie as if by chance, the same at each run."""
    number = step
    points = []
    for k in range(many):
        numbers = []
        for limit in (6, 5, 5):
            number = (number * 1103515245 + 12345) % 2 ** 31
            numbers.append(number // 65536 % limit)
        points.append((numbers[0], numbers[1] - 2, numbers[2] - 2, k))
    return points


class Ordinary(unittest.TestCase):
    def test_one_way(self):
        l = told((0, 0, 0, 0), (1, 3, 1, 0), (2, 6, 2, 0), (3, 9, 3, 0))
        self.assertEqual(mo_ways(4, 0, 3, l), [1, 1, 1, 1, 1])

    def test_two_ways_and_one_point_in_none(self):
        l = told(
            (0, 0, 0, 0), (0, 100, 0, 0), (1, 2, 0, 0), (1, 97, 0, 0),
            (2, 500, 500, 0), (2, 94, 0, 0), (2, 4, 0, 0), (4, 8, 0, 0),
        )
        self.assertEqual(mo_ways(5, 0, 3, l), [2, 1, 2, 1, 2, 0, 2, 1, 1])

    def test_ways_count_in_the_order_of_their_pairs(self):
        l = told((1, 50, 0, 0), (0, 0, 0, 0), (0, 50, 0, 0), (1, 1, 0, 0))
        self.assertEqual(mo_ways(1, 0, 2, l), [2, 2, 1, 2, 1])

    def test_nothing_goes_evenly(self):
        l = told((0, 0, 0, 0), (1, 3, 0, 0), (2, 3, 0, 0), (3, 20, 0, 0))
        self.assertEqual(mo_ways(5, 100, 3, l), [0, 0, 0, 0, 0])

    def test_brightness_plays_no_part(self):
        l = told((0, 0, 0, 65536), (1, 3, 0, -65536), (2, 6, 0, 0), (2, 6, 0, -65536))
        self.assertEqual(mo_ways(4, 0, 3, l), [1, 1, 1, 1, 0])

    def test_unlike_steps_of_time(self):
        l = told((10, 0, 0, 0), (13, 3, -6, 0), (20, 10, -20, 0), (21, 11, -22, 0))
        self.assertEqual(mo_ways(3, 0, 4, l), [1, 1, 1, 1, 1])

    def test_q_bounds_the_pair_alone(self):
        # The first two are slow; that the way then goes a little faster is e's to grant.
        l = told((0, 0, 0, 0), (1, 1, 0, 0), (2, 3, 0, 0), (3, 6, 0, 0))
        self.assertEqual(mo_ways(1, 256, 4, l), [1, 1, 1, 1, 1])
        self.assertEqual(mo_ways(1, 255, 3, l), [0, 0, 0, 0, 0])

    def test_the_last_two_say_where_it_goes_on(self):
        # At 3, the first two say 9, 0; the second and the third say 9, 2.
        l = told((0, 0, 0, 0), (1, 3, 0, 0), (2, 6, 1, 0), (3, 9, 2, 0), (3, 9, 0, 0))
        self.assertEqual(mo_ways(3, 256, 4, l), [1, 1, 1, 1, 1, 0])

    def test_against_the_words_of_the_document(self):
        told_ways = 0
        for step in range(150):
            points = scattered(9, step)
            for q, e, least in ((1, 0, 2), (2, 130, 3), (3, 256, 3), (3, 370, 4), (5, 600, 0)):
                expected = ways_by_the_document(q, e, least, points)
                self.assertEqual(mo_ways(q, e, least, told(*points)), expected, (q, e, least, points))
                told_ways += expected[0]
        self.assertGreater(told_ways, 500)


class Edges(unittest.TestCase):
    def test_no_point(self):
        self.assertEqual(mo_ways(5, 5, 0, []), [0])

    def test_one_point(self):
        for least in (0, 1, 2):
            self.assertEqual(mo_ways(5, 5, least, told((7, 1, 1, 0))), [0, 0], least)

    def test_points_at_the_same_time(self):
        self.assertEqual(mo_ways(65535, MOST_E, 0, told((7, 1, 1, 0), (7, 1, 1, 0), (7, 2, 1, 0))), [0, 0, 0, 0])

    def test_it_does_not_go_on_at_the_time_of_the_last(self):
        l = told((0, 0, 0, 0), (1, 3, 0, 0), (1, 3, 0, 0), (2, 6, 0, 0))
        self.assertEqual(mo_ways(4, 0, 2, l), [1, 1, 1, 0, 1])

    def test_it_does_not_go_on_with_an_earlier_one(self):
        l = told((1, 3, 0, 0), (2, 6, 0, 0), (0, 0, 0, 0))
        self.assertEqual(mo_ways(4, 0, 3, l), [1, 1, 1, 1])
        self.assertEqual(mo_ways(4, 0, 2, l), [1, 1, 1, 0])

    def test_out_of_the_order_of_their_times(self):
        l = told((3, 9, 3, 0), (1, 3, 1, 0), (0, 0, 0, 0), (2, 6, 2, 0))
        self.assertEqual(mo_ways(4, 0, 4, l), [1, 1, 1, 1, 1])
        # The first pair is of the second point and the first one, with none later: it's a way of two, and told first.
        self.assertEqual(mo_ways(4, 0, 2, l), [1, 1, 1, 0, 0])

    def test_two_at_the_same_place(self):
        l = told((0, 7, -7, 0), (1, 7, -7, 0), (9, 7, -7, 0))
        self.assertEqual(mo_ways(0, 0, 3, l), [1, 1, 1, 1])

    def test_q_of_0(self):
        l = told((0, 0, 0, 0), (1, 1, 0, 0), (2, 2, 0, 0), (2, 0, 0, 0))
        self.assertEqual(mo_ways(0, 0, 2, l), [1, 1, 0, 0, 1])

    def test_a_pair_just_as_far_as_may_be_and_one_beyond(self):
        self.assertEqual(mo_ways(5, 0, 2, told((0, 0, 0, 0), (2, 6, 8, 0))), [1, 1, 1])
        self.assertEqual(mo_ways(5, 0, 2, told((0, 0, 0, 0), (2, 10, 1, 0))), [0, 0, 0])

    def test_places_below_0(self):
        l = told((0, -10, -20, 0), (1, -13, -16, 0), (2, -16, -12, 0), (3, -19, -8, 0))
        self.assertEqual(mo_ways(5, 0, 4, l), [1, 1, 1, 1, 1])

    def test_across_0(self):
        l = told((0, -4, 5, 0), (1, -1, 1, 0), (2, 2, -3, 0))
        self.assertEqual(mo_ways(5, 0, 3, l), [1, 1, 1, 1])

    def test_greatest_and_least_that_a_point_may_have(self):
        for (t, x, y, brightness) in EDGE_POINTS:
            times = (0, 1, 2) if t == 0 else (65533, 65534, 65535)
            l = told(*[(time, x, y, brightness) for time in times])
            self.assertEqual(mo_ways(0, 0, 3, l), [1, 1, 1, 1], (t, x, y, brightness))

    def test_from_corner_to_corner(self):
        l = told((0, -32768, 32768, 0), (32767, -1, 1, 0), (65534, 32766, -32766, 0), (65535, 32767, -32767, 0))
        self.assertEqual(mo_ways(2, 0, 4, l), [1, 1, 1, 1, 1])

    def test_48_points(self):
        row = told(*[(k, 3 * k, -2 * k, 0) for k in range(48)])
        self.assertEqual(mo_ways(4, 0, 48, row), [1] + [1] * 48)
        self.assertEqual(mo_ways(4, 0, 49, row), [0] + [0] * 48)
        twos = told(*[(k % 2, 100 * (k // 2), 0, 0) for k in range(48)])
        self.assertEqual(mo_ways(4, 0, 2, twos), [24] + [1 + k // 2 for k in range(48)])

    def test_greatest_q(self):
        l = told((0, -32768, 0, 0), (1, 32767, 0, 0))
        self.assertEqual(mo_ways(65535, 0, 2, l), [1, 1, 1])
        self.assertEqual(mo_ways(65534, 0, 2, l), [0, 0, 0])


class Least(unittest.TestCase):
    def test_0_1_and_2_ask_for_two_points(self):
        l = told((0, 0, 0, 0), (1, 3, 0, 0), (9, 900, 900, 0))
        for least in (0, 1, 2):
            self.assertEqual(mo_ways(4, 0, least, l), [1, 1, 1, 0], least)

    def test_3(self):
        self.assertEqual(mo_ways(4, 0, 3, told((0, 0, 0, 0), (1, 3, 0, 0))), [0, 0, 0])
        self.assertEqual(mo_ways(4, 0, 3, told((0, 0, 0, 0), (1, 3, 0, 0), (2, 6, 0, 0))), [1, 1, 1, 1])
        self.assertEqual(mo_ways(4, 0, 4, told((0, 0, 0, 0), (1, 3, 0, 0), (2, 6, 0, 0))), [0, 0, 0, 0])

    def test_255(self):
        self.assertEqual(mo_ways(4, 0, 255, told(*[(k, k, 0, 0) for k in range(48)])), [0] * 49)
        self.assertEqual(mo_ways(4, 0, 255, []), [0])

    def test_one_with_too_few_points_takes_none_of_them(self):
        # From the first pair there is a way of two alone; its second point is free for the next way.
        l = told((0, 0, 4, 0), (1, 3, 0, 0), (0, 0, 0, 0), (2, 6, 0, 0))
        self.assertEqual(mo_ways(5, 0, 3, l), [1, 0, 1, 1, 1])


class HowFar(unittest.TestCase):
    # By the first two, the third is at 2, 0: 512 and 0 of 256ths.
    START = ((0, 0, 0, 0), (1, 1, 0, 0))

    def way(self, e, *points):
        return mo_ways(1, e, 3, told(*points))

    def test_e_of_0(self):
        self.assertEqual(self.way(0, *self.START, (2, 2, 0, 0)), [1, 1, 1, 1])
        for x, y in ((3, 0), (1, 0), (2, 1), (2, -1)):
            self.assertEqual(self.way(0, *self.START, (2, x, y, 0)), [0, 0, 0, 0], (x, y))

    def test_just_e_e_and_less(self):
        for x, y in ((5, 4), (-2, 3), (7, 0), (2, -5)):
            self.assertEqual(self.way(5 * 256, *self.START, (2, x, y, 0)), [1, 1, 1, 1], (x, y))
            self.assertEqual(self.way(5 * 256 - 1, *self.START, (2, x, y, 0)), [0, 0, 0, 0], (x, y))

    def test_one_beyond_e_e(self):
        # In 256 times, one place is gone on: in one time, it's one 256th.
        for sign in (1, -1):
            start = ((0, 0, 0, 0), (256, 0, sign, 0))
            self.assertEqual(self.way(0, *start, (257, 0, sign, 0)), [0, 0, 0, 0])
            self.assertEqual(self.way(1, *start, (257, 0, sign, 0)), [1, 1, 1, 1])
            self.assertEqual(self.way(512, *start, (257, 2, sign, 0)), [0, 0, 0, 0])
            self.assertEqual(self.way(513, *start, (257, 2, sign, 0)), [1, 1, 1, 1])

    def test_greatest_e(self):
        # From -32768 to 32768 are 2^16 places, 2^24 of 256ths.
        start = ((0, -32768, 0, 0), (1, -32768, 0, 0))
        self.assertEqual(self.way(MOST_E, *start, (2, 32768, 0, 0)), [1, 1, 1, 1])
        self.assertEqual(self.way(MOST_E - 1, *start, (2, 32768, 0, 0)), [0, 0, 0, 0])
        self.assertEqual(self.way(MOST_E, *start, (2, 32768, 1, 0)), [0, 0, 0, 0])

    def test_halfway_above_0_the_greater(self):
        # One place in 512 times: in 513 it's 256 and a half of 256ths, told as 257.
        for start, third in (
            (((0, 0, 0, 0), (512, 1, 0, 0)), (513, 1, 0, 0)),
            (((0, 0, 0, 0), (512, 0, 1, 0)), (513, 0, 1, 0)),
        ):
            self.assertEqual(self.way(0, *start, third), [0, 0, 0, 0], start)
            self.assertEqual(self.way(1, *start, third), [1, 1, 1, 1], start)

    def test_halfway_below_0_the_greater(self):
        # In 513 times it's 256 and a half below 0, told as 256 below 0: just where the third is.
        for start, third in (
            (((0, 0, 0, 0), (512, -1, 0, 0)), (513, -1, 0, 0)),
            (((0, 0, 0, 0), (512, 0, -1, 0)), (513, 0, -1, 0)),
        ):
            self.assertEqual(self.way(0, *start, third), [1, 1, 1, 1], start)

    def test_beside_halfway_the_nearest(self):
        # In 769 times for 768: 256 and a third, told as 256; in 770: 256 and two thirds, told as 257.
        for sign in (1, -1):
            start = ((0, 0, 0, 0), (768, sign, 0, 0))
            self.assertEqual(self.way(0, *start, (769, sign, 0, 0)), [1, 1, 1, 1], sign)
            self.assertEqual(self.way(0, *start, (770, sign, 0, 0)), [0, 0, 0, 0], sign)
            self.assertEqual(self.way(1, *start, (770, sign, 0, 0)), [1, 1, 1, 1], sign)

    def test_both_x_and_y_count(self):
        self.assertEqual(self.way(256, *self.START, (2, 3, 1, 0)), [0, 0, 0, 0])
        self.assertEqual(self.way(362, *self.START, (2, 3, 1, 0)), [0, 0, 0, 0])
        self.assertEqual(self.way(363, *self.START, (2, 3, 1, 0)), [1, 1, 1, 1])


class GoesOnWith(unittest.TestCase):
    START = ((0, 0, 0, 0), (1, 1, 0, 0))

    def test_the_earliest_though_another_is_nearer_or_told_first(self):
        near_late = (3, 3, 0, 0)
        far_early = (2, 4, 0, 0)
        for third, fourth, expected in (
            (near_late, far_early, [1, 1, 1, 0, 1]),
            (far_early, near_late, [1, 1, 1, 1, 0]),
        ):
            # From the second and the early one, the late one is beyond e.
            self.assertEqual(mo_ways(1, 512, 3, told(*self.START, third, fourth)), expected)

    def test_of_as_early_ones_the_least_far(self):
        for points in itertools.permutations(((2, 4, 0, 0), (2, 2, 1, 0), (2, 0, 0, 0))):
            in_way = [1 if point == (2, 2, 1, 0) else 0 for point in points]
            self.assertEqual(mo_ways(1, 512, 3, told(*self.START, *points)), [1, 1, 1] + in_way, points)

    def test_least_far_by_256ths(self):
        # They say 256 and a third: the place 1 is nearer than the place 2, however e is.
        start = ((0, 0, 0, 0), (768, 1, 0, 0))
        l = told(*start, (769, 2, 0, 0), (769, 1, 0, 0))
        self.assertEqual(mo_ways(1, 256, 3, l), [1, 1, 1, 0, 1])

    def test_of_as_near_ones_the_first(self):
        for points in itertools.permutations(((2, 4, 0, 0), (2, 2, 2, 0), (2, 0, 0, 0), (2, 2, -2, 0))):
            l = told(*self.START, *points)
            self.assertEqual(mo_ways(1, 512, 3, l), [1, 1, 1, 1, 0, 0, 0], points)

    def test_of_the_same_ones_the_first(self):
        l = told(*self.START, (2, 2, 0, 0), (2, 2, 0, 0))
        self.assertEqual(mo_ways(1, 0, 3, l), [1, 1, 1, 1, 0])

    def test_it_may_go_on_with_a_point_told_ahead_of_the_pair(self):
        l = told((2, 2, 0, 0), *self.START)
        self.assertEqual(mo_ways(1, 0, 3, l), [1, 1, 1, 1])


class Ends(unittest.TestCase):
    def test_where_it_goes_on_with_none(self):
        # Those at 3 both stand aside.
        l = told((0, 0, 0, 0), (1, 3, 0, 0), (2, 6, 0, 0), (3, 9, 50, 0), (3, 0, 9, 0))
        self.assertEqual(mo_ways(3, 0, 3, l), [1, 1, 1, 1, 0, 0])

    def test_it_may_leave_times_out(self):
        l = told((0, 0, 0, 0), (1, 3, 0, 0), (3, 50, 50, 0), (4, 12, 0, 0))
        self.assertEqual(mo_ways(3, 0, 3, l), [1, 1, 1, 0, 1])

    def test_a_wrong_turn_is_not_taken_back(self):
        # The earlier one that's near enough is taken, though it leads nowhere and a longer way is there.
        l = told((0, 0, 0, 0), (2, 2, 0, 0), (3, 4, 0, 0), (4, 4, 0, 0), (6, 6, 0, 0), (8, 8, 0, 0))
        self.assertEqual(mo_ways(1, 256, 2, l), [2, 1, 1, 1, 2, 2, 2])


class NotTold(unittest.TestCase):
    def test_one_of_its_points_is_in_a_way_told_already(self):
        # Two ways cross in the point 4, 0 at 2: the one of the earlier pair has it, the other isn't told.
        l = told((0, 0, 0, 0), (0, 0, 4, 0), (1, 2, 0, 0), (1, 2, 2, 0), (2, 4, 0, 0))
        self.assertEqual(mo_ways(3, 0, 3, l), [1, 1, 0, 1, 0, 1])

    def test_its_first_two_are_free_but_its_last_is_not(self):
        l = told((0, 0, 0, 0), (1, 2, 0, 0), (2, 4, 0, 0), (0, 4, 4, 0), (1, 4, 2, 0))
        self.assertEqual(mo_ways(2, 0, 2, l), [1, 1, 1, 1, 0, 0])

    def test_a_way_does_not_go_round_a_point_that_is_taken(self):
        # The fourth and the fifth say where the sixth is, but the third, which is taken, is earlier than that one.
        l = told((0, 0, 0, 0), (1, 2, 0, 0), (2, 4, 0, 0), (0, 8, 0, 0), (1, 6, 0, 0), (3, 2, 0, 0))
        self.assertEqual(mo_ways(2, 0, 3, l), [1, 1, 1, 1, 0, 0, 0])

    def test_the_rest_of_a_way_is_not_told_again(self):
        l = told(*[(k, k, 0, 0) for k in range(6)])
        self.assertEqual(mo_ways(1, 0, 2, l), [1, 1, 1, 1, 1, 1, 1])

    def test_it_has_too_few(self):
        l = told((0, 0, 0, 0), (1, 1, 0, 0), (0, 0, 90, 0), (1, 1, 90, 0), (2, 2, 90, 0))
        self.assertEqual(mo_ways(1, 0, 3, l), [1, 0, 0, 1, 1, 1])
        self.assertEqual(mo_ways(1, 0, 2, l), [2, 1, 1, 2, 2, 2])

    def test_one_that_is_not_told_takes_no_number(self):
        l = told(
            (0, 0, 0, 0), (1, 1, 0, 0), (2, 2, 0, 0),
            (0, 0, 90, 0), (1, 1, 90, 0),
            (0, 0, -90, 0), (1, 1, -90, 0), (2, 2, -90, 0),
        )
        self.assertEqual(mo_ways(1, 0, 3, l), [2, 1, 1, 1, 0, 0, 2, 2, 2])


class Refused(unittest.TestCase):
    def test_one_point_too_many(self):
        self.assertEqual(mo_ways(1, 1, 2, told(*[(k, k, 0, 0) for k in range(49)])), [-2])

    def test_60_points(self):
        self.assertEqual(mo_ways(1, 1, 2, told(*[at(0, 0)] * 60)), [-2])

    def test_q_beyond(self):
        for q in (65536, 2 ** 31, 2 ** 32 - 1):
            self.assertEqual(mo_ways(q, 1, 2, told(at(0, 0))), [-2], q)
            self.assertEqual(mo_ways(q, 1, 2, []), [-2], q)

    def test_e_beyond(self):
        for e in (MOST_E + 1, 2 ** 31, 2 ** 32 - 1):
            self.assertEqual(mo_ways(1, e, 2, told(at(0, 0))), [-2], e)
            self.assertEqual(mo_ways(1, e, 2, []), [-2], e)

    def test_least_beyond(self):
        for least in (256, 2 ** 31, 2 ** 32 - 1):
            self.assertEqual(mo_ways(1, 1, least, told(at(0, 0))), [-2], least)
            self.assertEqual(mo_ways(1, 1, least, []), [-2], least)

    def test_a_point_not_as_told(self):
        good = at(1, 1)
        for bad in NOT_POINTS:
            for points in ((bad,), (bad, good), (good, bad), (good, bad, good)):
                self.assertEqual(mo_ways(1, 1, 2, told(*points)), [-3], points)

    def test_the_48th_point_is_looked_at(self):
        self.assertEqual(mo_ways(1, 1, 2, told(*[at(0, 0)] * 47 + [at(32769, 0)])), [-3])

    def test_2_goes_ahead_of_3(self):
        bad = told(at(32769, 0))
        self.assertEqual(mo_ways(65536, 1, 2, bad), [-2])
        self.assertEqual(mo_ways(1, MOST_E + 1, 2, bad), [-2])
        self.assertEqual(mo_ways(1, 1, 256, bad), [-2])
        self.assertEqual(mo_ways(1, 1, 2, told(*[at(32769, 0)] * 49)), [-2])


class Interface(unittest.TestCase):
    def test_arguments(self):
        self.assertEqual(str(inspect.signature(mo_ways)), "(q, e, least, l)")

    def test_gives_back_a_list_of_ints(self):
        answers = [
            mo_ways(1, 1, 2, told(at(0, 0), at(0, 0, 0, 1), at(9, 9))),
            mo_ways(1, 1, 2, []),
            mo_ways(65536, 1, 2, []),
        ]
        for answer in answers:
            self.assertIs(type(answer), list)
            self.assertEqual({type(number) for number in answer}, {int})

    def test_what_is_handed_in_is_not_changed(self):
        cases = [
            told((2, -6, 0, -9), (0, 0, 0, 9), (1, -3, 0, 0), (2, 7, 7, 0)),
            [],
            told(at(32769, 0)),
            told(*[at(-1, 0)] * 49),
        ]
        for l in cases:
            handed = Unchanging(l)
            mo_ways(3, 2, 2, handed)
            self.assertEqual(handed, l)

    def test_nothing_is_kept(self):
        l = told((0, 0, 0, 0), (1, 1, 0, 0), (2, 2, 0, 0))
        first = mo_ways(1, 0, 3, l)
        first.append(77)
        mo_ways(65536, 0, 3, l)
        mo_ways(1, 0, 2, told((0, 0, 0, 0), (1, 0, 0, 0)))
        self.assertEqual(mo_ways(1, 0, 3, l), [1, 1, 1, 1])
        self.assertEqual(mo_ways(1, 0, 4, l), [0, 0, 0, 0])
        self.assertEqual(mo_ways(1, 0, 2, []), [0])


if __name__ == "__main__":
    unittest.main()
