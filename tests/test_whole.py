"""What the document promises over the whole program."""

import ast
import contextlib
import inspect
import io
import itertools
import sys
import unittest
from pathlib import Path

import newandmoving
from newandmoving import points
from newandmoving.points import (
    mo_ahead, mo_chance1, mo_fit, mo_new, mo_one, mo_pairs, mo_place, mo_states, mo_ways,
)
from tests.fits import scattered
from tests.told import Unchanging, long_words, told

INTERFACE = {
    "mo_new": ["r", "known", "l"],
    "mo_states": ["r", "d", "known", "l"],
    "mo_pairs": ["q", "l"],
    "mo_ways": ["q", "e", "least", "l"],
    "mo_ahead": ["t", "ab"],
    "mo_fit": ["l"],
    "mo_place": ["l", "ts"],
    "mo_one": ["e", "a", "b"],
    "mo_chance1": ["n", "r", "w", "h"],
}

ROW = told(*[(k, 3 * k, -2 * k, 0) for k in range(48)])
MANY = told(*[(k, 3 * k, -2 * k, 0) for k in range(256)])

# Of each call: one that is answered with the longest input, then those that are refused.
CALLS = [
    ("mo_new", (2, MANY, MANY)), ("mo_new", (65536, [], [])), ("mo_new", (2, told((0, 32769, 0, 0)), [])),
    ("mo_states", (2, 5, MANY, MANY)), ("mo_states", (2, 131073, [], [])),
    ("mo_pairs", (4, ROW)), ("mo_pairs", (65536, [])), ("mo_pairs", (4, told((-1, 0, 0, 0)))),
    ("mo_ways", (4, 0, 2, ROW)), ("mo_ways", (4, 0, 256, ROW)), ("mo_ways", (4, 0, 2, told((0, 0, 32769, 0)))),
    ("mo_ahead", (9, ROW[:8])), ("mo_ahead", (9, told((0, 0, 0, 65537), (1, 0, 0, 0)))),
    ("mo_fit", (ROW,)), ("mo_fit", (MANY,)), ("mo_fit", (told((-1, 0, 0, 0)),)), ("mo_fit", ([],)),
    ("mo_place", (ROW, list(range(256)))), ("mo_place", (ROW, [0] * 257)), ("mo_place", (ROW, [65537])),
    ("mo_place", ([], [])),
    ("mo_one", (0, ROW, ROW)), ("mo_one", (2 ** 24 + 1, ROW, ROW)), ("mo_one", (0, told((-1, 0, 0, 0)), [])),
    ("mo_chance1", (4095, 1023, 65535, 65535)), ("mo_chance1", (0, 0, 0, 0)),
]


def call(name, given):
    return getattr(points, name)(*given)


def copied(given, kind):
    return [kind(one) if isinstance(one, list) else one for one in given]


class WhatItStandsFor(unittest.TestCase):
    def test_what_is_known_is_not_new(self):
        for step, many, r in itertools.product(range(20), (1, 2, 30), (0, 1, 65535)):
            known = told(*scattered(many, step, 65535, 32768))
            self.assertEqual(mo_new(r, known, known), [0])
            self.assertEqual(mo_states(r, 0, known, known).count(3), 0)

    def test_what_is_new_leaves_none_that_is_known_without_a_point(self):
        for step, r in itertools.product(range(40), (0, 2, 5)):
            known = scattered(6, step, 9, 6)
            seen = scattered(6, step + 1000, 9, 6)
            gone = [k for k, state in enumerate(mo_states(r, 0, told(*known), told(*seen))[1:]) if state == 3]
            # Near is near from either side: gone is what would be new, were it seen and the others known.
            self.assertEqual(mo_new(r, told(*seen), told(*known)), [len(gone)] + gone)

    def test_no_point_is_in_two_ways(self):
        for step, least in itertools.product(range(40), (0, 2, 3)):
            l = scattered(14, step, 6, 6)
            answer = mo_ways(4, 300, least, told(*l))
            ways = {number: [k for k in range(14) if answer[1 + k] == number] for number in answer[1:] if number}
            # Each way has its number and its own points, of different times: together no more than there are.
            self.assertEqual(sorted(ways), list(range(1, answer[0] + 1)))
            for way in ways.values():
                self.assertGreaterEqual(len(way), max(2, least))
                self.assertEqual(len({l[k][0] for k in way}), len(way))

    def test_what_goes_evenly_is_where_it_should_be_at_any_time(self):
        for x, y, vx, vy in ((0, 0, 3, -2), (-90, 50, 0, 0), (500, -500, -7, 1)):
            times = (3, 4, 8, 20)
            even = [(t, x + vx * t, y + vy * t, 0) for t in times]
            for t in (-65536, -1, 0, 3, 7, 8, 65535, 65536):
                there = [0] + long_words(256 * (x + vx * t), 256 * (y + vy * t))
                self.assertEqual(mo_place(told(*even), [t % 2 ** 32]), there)
                for a, b in itertools.combinations(even, 2):
                    self.assertEqual(mo_ahead(t % 2 ** 32, told(a, b)), there)
            self.assertEqual(mo_ways(8, 0, 4, told(*even)), [1, 1, 1, 1, 1])
            self.assertEqual(mo_fit(told(*even))[-2:], [1, 0])
            self.assertEqual(mo_one(0, told(*even[:2]), told(*even[2:])), [1])

    def test_each_first_pair_of_a_way_may_be_one(self):
        for step in range(40):
            l = told(*scattered(12, step, 9, 6))
            answer = mo_ways(2, 200, 2, l)
            found = mo_pairs(2, l)
            pairs = list(zip(found[1::2], found[2::2]))
            self.assertEqual(len(pairs), found[0])
            self.assertEqual(pairs, sorted(pairs))
            for number in range(1, answer[0] + 1):
                way = sorted([k for k in range(12) if answer[1 + k] == number], key=lambda k: l[4 * k])
                self.assertIn((way[0], way[1]), pairs)

    def test_two_points_have_one_fit_whichever_call_tells_it(self):
        for step in range(60):
            a, b = sorted(scattered(2, step, 65535, 32768))
            if a[0] == b[0]:
                continue
            for t in (-65536, -5, 0, 300, 65536):
                self.assertEqual(mo_place(told(a, b), [t % 2 ** 32]), mo_ahead(t % 2 ** 32, told(a, b)))


class TheInterface(unittest.TestCase):
    def test_names_and_arguments(self):
        for name, arguments in INTERFACE.items():
            parameters = inspect.signature(getattr(points, name)).parameters
            self.assertEqual(list(parameters), arguments, name)
            for parameter in parameters.values():
                self.assertIs(parameter.kind, inspect.Parameter.POSITIONAL_OR_KEYWORD, name)
                self.assertIs(parameter.default, inspect.Parameter.empty, name)

    def test_each_is_written_in_the_file_that_its_name_tells(self):
        for name in INTERFACE:
            self.assertEqual(getattr(points, name).__module__, "newandmoving.points", name)

    def test_no_other_call_is_there(self):
        self.assertEqual({name for name in vars(points) if name.startswith("mo_")}, set(INTERFACE))

    def test_one_list_of_whole_numbers_a_refusal_alone(self):
        for name, given in CALLS:
            answer = call(name, given)
            self.assertIs(type(answer), list, name)
            self.assertEqual({type(number) for number in answer}, {int}, name)
            if answer[0] < 0:
                self.assertEqual(len(answer), 1, name)
            self.assertTrue(all(0 <= number < 2 ** 64 for number in answer[1:]), name)

    def test_how_long_an_answer_is(self):
        for n, m in itertools.product((0, 1, 2, 5), (0, 1, 7)):
            l = told(*[(k, k, 0, 0) for k in range(n)])
            other = told(*[(k, 0, k, 0) for k in range(m)])
            fresh = mo_new(0, l, other)
            self.assertEqual(len(fresh), 1 + fresh[0])
            self.assertEqual(len(mo_states(0, 0, l, other)), 1 + n)
            pairs = mo_pairs(1, l)
            self.assertEqual(len(pairs), 1 + 2 * pairs[0])
            self.assertEqual(len(mo_ways(1, 0, 2, l)), 1 + n)
            self.assertEqual(len(mo_fit(l)), 9 if n > 1 else 1)
            self.assertEqual(len(mo_place(l, [0] * m)), 1 + 2 * m if n > 1 else 1)
            self.assertEqual(len(mo_one(0, l, other)), 1)
            self.assertEqual(len(mo_chance1(n, m, n, m)), 1)

    def test_what_is_handed_in_is_not_changed(self):
        for name, given in CALLS:
            handed = copied(given, Unchanging)
            call(name, handed)
            self.assertEqual(handed, list(given), name)

    def test_nothing_is_kept_from_one_call_to_the_next(self):
        first = [call(name, given) for name, given in CALLS]
        for (name, given), answer in reversed(list(zip(CALLS, first))):
            again = call(name, copied(given, list))
            self.assertEqual(again, answer, name)
            self.assertIsNot(again, answer, name)

    def test_an_answer_is_no_list_that_was_handed_in(self):
        for name, given in CALLS:
            answer = call(name, given)
            self.assertFalse([one for one in given if one is answer], name)


class PrintsReadsAndImportsNothing(unittest.TestCase):
    FILES = sorted(Path(newandmoving.__file__).parent.glob("*.py"))

    def test_nothing_is_printed(self):
        for name, given in CALLS:
            out = io.StringIO()
            with contextlib.redirect_stdout(out), contextlib.redirect_stderr(out):
                call(name, given)
            self.assertEqual(out.getvalue(), "", name)

    def test_no_file_draws_from_outside_the_package(self):
        self.assertTrue(self.FILES)
        for file in self.FILES:
            for node in ast.walk(ast.parse(file.read_text(encoding="utf-8"))):
                self.assertNotIsInstance(node, ast.Import, file)
                if isinstance(node, ast.ImportFrom):
                    self.assertEqual(node.level, 0, file)
                    self.assertTrue(node.module.startswith("newandmoving."), file)

    def test_no_call_reads_prints_or_runs_anything(self):
        barred = {"print", "open", "input", "eval", "exec", "compile", "__import__", "globals", "breakpoint"}
        for file in self.FILES:
            nodes = ast.walk(ast.parse(file.read_text(encoding="utf-8")))
            names = {node.id for node in nodes if isinstance(node, ast.Name)}
            self.assertEqual(names & barred, set(), file)


class GoneThroughByLoops(unittest.TestCase):
    def test_the_longest_inputs_need_few_calls_within_one_another(self):
        before = sys.getrecursionlimit()
        try:
            sys.setrecursionlimit(len(inspect.stack(0)) + 30)
            answers = [call(name, given) for name, given in CALLS]
        finally:
            sys.setrecursionlimit(before)
        self.assertEqual(len(answers), len(CALLS))


if __name__ == "__main__":
    unittest.main()
