"""Promise 2: mo_pairs."""

import inspect
import itertools
import unittest

from newandmoving.points import mo_pairs
from tests.told import EDGE_POINTS, NOT_POINTS, Unchanging, at, told


def pairs_by_the_document(q, points):
    found = []
    for i, j in itertools.product(range(len(points)), repeat=2):
        between = points[j][0] - points[i][0]
        far = (points[i][1] - points[j][1]) ** 2 + (points[i][2] - points[j][2]) ** 2
        if between > 0 and far <= (q * between) ** 2:
            found += [i, j]
    return [len(found) // 2] + found


class Ordinary(unittest.TestCase):
    def test_those_near_enough_for_the_time_between(self):
        l = told((0, 0, 0, 0), (1, 2, 0, 0), (2, 9, 0, 0), (4, 8, 1, 0))
        self.assertEqual(mo_pairs(3, l), [4, 0, 1, 0, 3, 1, 3, 2, 3])

    def test_by_the_first_then_by_the_second(self):
        l = told(*[(t, 0, 0, 0) for t in range(4)])
        self.assertEqual(mo_pairs(1, l), [6, 0, 1, 0, 2, 0, 3, 1, 2, 1, 3, 2, 3])

    def test_none_may_be_one(self):
        self.assertEqual(mo_pairs(3, told((0, 0, 0, 0), (1, 4, 0, 0), (2, 400, 0, 0))), [0])

    def test_the_time_between_counts_not_the_time(self):
        for start in (0, 1, 1000, 65533):
            l = told((start, 0, 0, 0), (start + 2, 6, 0, 0))
            self.assertEqual(mo_pairs(3, l), [1, 0, 1], start)
            self.assertEqual(mo_pairs(2, l), [0], start)

    def test_a_point_may_be_in_many_pairs(self):
        l = told((0, 0, 0, 0), (0, 5, 0, 0), (5, 2, 0, 0), (5, 3, 0, 0))
        self.assertEqual(mo_pairs(1, l), [4, 0, 2, 0, 3, 1, 2, 1, 3])

    def test_brightness_plays_no_part(self):
        self.assertEqual(mo_pairs(0, told((0, 4, 4, -65536), (1, 4, 4, 65536))), [1, 0, 1])

    def test_against_the_words_of_the_document(self):
        points = [(0, 0, 0, 0), (0, -1, 2, 0), (1, 0, 1, 0), (2, 2, -2, 0), (4, 0, 0, 0), (4, 3, 4, 0)]
        for q, l in itertools.product(range(4), itertools.product(points, repeat=3)):
            self.assertEqual(mo_pairs(q, told(*l)), pairs_by_the_document(q, l), (q, l))


class Edges(unittest.TestCase):
    def test_no_point(self):
        self.assertEqual(mo_pairs(5, []), [0])

    def test_one_point(self):
        self.assertEqual(mo_pairs(65535, told((7, 1, 1, 0))), [0])

    def test_points_at_the_same_time_are_no_pair(self):
        self.assertEqual(mo_pairs(65535, told((7, 1, 1, 0), (7, 1, 1, 0), (7, 2, 1, 0))), [0])
        self.assertEqual(mo_pairs(65535, told((7, 1, 1, 0), (8, 1, 1, 0), (7, 2, 1, 0))), [2, 0, 1, 2, 1])

    def test_out_of_the_order_of_their_times(self):
        self.assertEqual(mo_pairs(1, told((5, 0, 0, 0), (3, 0, 0, 0))), [1, 1, 0])
        l = told((2, 0, 0, 0), (0, 0, 0, 0), (3, 0, 0, 0), (1, 0, 0, 0))
        self.assertEqual(mo_pairs(1, l), [6, 0, 2, 1, 0, 1, 2, 1, 3, 3, 0, 3, 2])

    def test_two_at_the_same_place(self):
        for q in (0, 1, 65535):
            self.assertEqual(mo_pairs(q, told((0, 9, -9, 0), (1, 9, -9, 0))), [1, 0, 1], q)

    def test_q_of_0(self):
        l = told((0, 5, 5, 0), (1, 5, 6, 0), (2, 6, 5, 0), (65535, 5, 5, 0))
        self.assertEqual(mo_pairs(0, l), [1, 0, 3])

    def test_just_as_far_as_may_be_and_one_beyond(self):
        # (5 times 1)^2 is 25, (5 times 2)^2 is 100.
        for x, y in ((3, 4), (-4, 3), (5, 0), (0, -5)):
            self.assertEqual(mo_pairs(5, told((0, 0, 0, 0), (1, x, y, 0))), [1, 0, 1], (x, y))
            self.assertEqual(mo_pairs(5, told((0, 0, 0, 0), (2, 2 * x, 2 * y, 0))), [1, 0, 1], (x, y))
            self.assertEqual(mo_pairs(5, told((1, 0, 0, 0), (0, x, y, 0))), [1, 1, 0], (x, y))
        for x, y in ((1, 5), (-5, 1), (5, -1), (-1, -5)):
            self.assertEqual(mo_pairs(5, told((0, 0, 0, 0), (1, x, y, 0))), [0], (x, y))
            self.assertEqual(mo_pairs(5, told((1, 0, 0, 0), (0, x, y, 0))), [0], (x, y))
        for x, y in ((1, 10), (-10, 1), (10, -1), (-1, -10)):
            self.assertEqual(mo_pairs(5, told((0, 0, 0, 0), (2, x, y, 0))), [0], (x, y))

    def test_places_below_0(self):
        l = told((0, -10, -20, 0), (1, -13, -24, 0), (1, 10, 20, 0), (1, -10, 20, 0), (1, 10, -20, 0))
        self.assertEqual(mo_pairs(5, l), [1, 0, 1])

    def test_across_0(self):
        self.assertEqual(mo_pairs(2, told((0, -1, 0, 0), (1, 1, 0, 0), (1, 2, 0, 0))), [1, 0, 1])

    def test_greatest_and_least_that_a_point_may_have(self):
        for (t, x, y, brightness) in EDGE_POINTS:
            point = (t, x, y, brightness)
            other = (1, x, y, -brightness)
            expected = [1, 0, 1] if t == 0 else [1, 1, 0]
            self.assertEqual(mo_pairs(0, told(point, other)), expected, point)

    def test_from_corner_to_corner(self):
        corner = (0, -32768, -32768, 0)
        self.assertEqual(mo_pairs(65535, told(corner, (1, 32768, 32768, 0))), [0])
        self.assertEqual(mo_pairs(65535, told(corner, (2, 32768, 32768, 0))), [1, 0, 1])
        self.assertEqual(mo_pairs(1, told(corner, (65535, 32768, -32768, 0))), [0])
        self.assertEqual(mo_pairs(1, told(corner, (65535, 32767, -32768, 0))), [1, 0, 1])

    def test_greatest_q(self):
        l = told((0, -32768, 0, 0), (1, 32767, 0, 0), (1, 32768, 0, 0), (65535, 32768, 32768, 0))
        self.assertEqual(mo_pairs(65535, l), [4, 0, 1, 0, 3, 1, 3, 2, 3])

    def test_48_points(self):
        l = told(*[(k, k, 0, 0) for k in range(48)])
        all_pairs = [number for pair in itertools.combinations(range(48), 2) for number in pair]
        self.assertEqual(mo_pairs(1, l), [48 * 47 // 2] + all_pairs)
        self.assertEqual(mo_pairs(0, l), [0])


class Refused(unittest.TestCase):
    def test_one_point_too_many(self):
        self.assertEqual(mo_pairs(1, told(*[(k, k, 0, 0) for k in range(49)])), [-2])

    def test_60_points(self):
        self.assertEqual(mo_pairs(1, told(*[at(0, 0)] * 60)), [-2])

    def test_q_beyond(self):
        for q in (65536, 2 ** 31, 2 ** 32 - 1):
            self.assertEqual(mo_pairs(q, told(at(0, 0))), [-2], q)
            self.assertEqual(mo_pairs(q, []), [-2], q)

    def test_a_point_not_as_told(self):
        good = at(1, 1)
        for bad in NOT_POINTS:
            for points in ((bad,), (bad, good), (good, bad), (good, bad, good)):
                self.assertEqual(mo_pairs(1, told(*points)), [-3], points)

    def test_the_48th_point_is_looked_at(self):
        self.assertEqual(mo_pairs(1, told(*[at(0, 0)] * 47 + [at(32769, 0)])), [-3])

    def test_2_goes_ahead_of_3(self):
        self.assertEqual(mo_pairs(65536, told(at(32769, 0))), [-2])
        self.assertEqual(mo_pairs(1, told(*[at(32769, 0)] * 49)), [-2])


class Interface(unittest.TestCase):
    def test_arguments(self):
        self.assertEqual(str(inspect.signature(mo_pairs)), "(q, l)")

    def test_gives_back_a_list_of_ints(self):
        for answer in (mo_pairs(1, told(at(0, 0), at(0, 0, 0, 1))), mo_pairs(1, []), mo_pairs(65536, [])):
            self.assertIs(type(answer), list)
            self.assertEqual({type(number) for number in answer}, {int})

    def test_what_is_handed_in_is_not_changed(self):
        cases = [
            told((5, -3, 0, -9), (3, 0, 4, 9), (9, 0, 0, 0)),
            [],
            told(at(32769, 0)),
            told(*[at(-1, 0)] * 49),
        ]
        for l in cases:
            handed = Unchanging(l)
            mo_pairs(2, handed)
            self.assertEqual(handed, l)

    def test_nothing_is_kept(self):
        l = told((0, 0, 0, 0), (1, 1, 0, 0))
        first = mo_pairs(1, l)
        first.append(77)
        mo_pairs(65536, l)
        mo_pairs(1, told((0, 0, 0, 0), (1, 0, 0, 0), (2, 0, 0, 0)))
        self.assertEqual(mo_pairs(1, l), [1, 0, 1])
        self.assertEqual(mo_pairs(0, l), [0])
        self.assertEqual(mo_pairs(1, []), [0])


if __name__ == "__main__":
    unittest.main()
