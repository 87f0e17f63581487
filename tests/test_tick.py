"""Promises 1 and 3, as far as they are a tick's. Answers are [sold, lost, in the water, in the broke]."""

import unittest

from brokeloop.loop import tick
from loop_numbers import BOUNDS, HIGHEST, NAMES, ORDINARY, SETTINGS, check_kinds, check_second_call, with_number


class OrdinaryTicks(unittest.TestCase):
    def test_a_loop_that_is_fed(self):
        # 1000 together: paper 800, left 200; lost 20, water 180; broke 40, sold 760.
        self.assertEqual(tick(800, 100, 50, 200, 100, 700), [760, 20, 180, 40])

    def test_an_empty_loop_that_is_fed(self):
        # 4000 together: paper 3000, left 1000; lost 200, water 800; broke 300, sold 2700.
        self.assertEqual(tick(750, 200, 100, 0, 0, 4000), [2700, 200, 800, 300])

    def test_water_and_broke_count_alike(self):
        # 1000 together, whichever way it comes.
        for w, r, a in ((1000, 0, 0), (0, 1000, 0), (0, 0, 1000), (1, 2, 997)):
            with self.subTest(w=w, r=r, a=a):
                self.assertEqual(tick(800, 100, 50, w, r, a), [760, 20, 180, 40])

    def test_three_different_numbers_of_thousandths(self):
        # 10000 together: paper 6000, left 4000; lost 1200, water 2800; broke 600, sold 5400.
        self.assertEqual(tick(600, 300, 100, 3000, 2000, 5000), [5400, 1200, 2800, 600])

    def test_arguments_by_their_names(self):
        self.assertEqual(tick(a=700, r=100, w=200, broke=50, lose=100, keep=800), [760, 20, 180, 40])

    def test_the_fullest_loop(self):
        # 2100000 together: paper 1680000, left 420000; lost 42000, water 378000; broke 84000, sold 1596000.
        self.assertEqual(tick(800, 100, 50, 1000000, 1000000, 100000), [1596000, 42000, 378000, 84000])

    def test_what_is_in_the_loop_behind_a_tick_may_be_above_the_bound(self):
        self.assertEqual(tick(0, 0, 0, 1000000, 1000000, 100000), [0, 0, 2100000, 0])
        self.assertEqual(tick(1000, 0, 1000, 1000000, 1000000, 100000), [0, 0, 0, 2100000])


class Roundings(unittest.TestCase):
    def test_none_is_rounded(self):
        # 8000 together: paper 4000, left 4000; lost 1000, water 3000; broke 500, sold 3500.
        self.assertEqual(tick(500, 250, 125, 1000, 2000, 5000), [3500, 1000, 3000, 500])

    def test_each_is_rounded_down(self):
        # 101 together: paper 33.633, so 33, left 68; lost 22.644, so 22, water 46; broke 10.989, so 10, sold 23.
        self.assertEqual(tick(333, 333, 333, 20, 11, 70), [23, 22, 46, 10])

    def test_paper_alone_is_rounded_down(self):
        # 199 together: paper 99.5, so 99, left 100; lost 10, water 90; nothing is broke.
        self.assertEqual(tick(500, 100, 0, 100, 9, 90), [99, 10, 90, 0])

    def test_lost_alone_is_rounded_down(self):
        # 1998 together: paper 999, left 999; lost 0.999, so nothing, water 999; nothing is broke.
        self.assertEqual(tick(500, 1, 0, 1000, 500, 498), [999, 0, 999, 0])

    def test_broke_alone_is_rounded_down(self):
        # 20 together: paper 10, left 10; lost 5, water 5; broke 9.99, so 9, sold 1.
        self.assertEqual(tick(500, 500, 999, 5, 5, 10), [1, 5, 5, 9])

    def test_together_before_rounding(self):
        # 1 and 1 and 1 kept by 500 are 1.5, so 1; rounded one by one there would be no paper.
        self.assertEqual(tick(500, 0, 0, 1, 1, 1), [1, 0, 2, 0])

    def test_high_numbers_are_exact(self):
        # 2099999 together: paper 2097899.001, so 2097899, left 2100; lost 2097.9, so 2097, water 3;
        # broke 2095801.101, so 2095801, sold 2098.
        self.assertEqual(tick(999, 999, 999, 1000000, 999999, 100000), [2098, 2097, 3, 2095801])


class Corners(unittest.TestCase):
    def test_nothing_kept(self):
        self.assertEqual(tick(0, 100, 50, 200, 100, 700), [0, 100, 900, 0])

    def test_all_kept(self):
        self.assertEqual(tick(1000, 100, 50, 200, 100, 700), [950, 0, 0, 50])

    def test_nothing_lost(self):
        self.assertEqual(tick(800, 0, 50, 200, 100, 700), [760, 0, 200, 40])

    def test_all_that_is_left_is_lost(self):
        self.assertEqual(tick(800, 1000, 50, 200, 100, 700), [760, 200, 0, 40])

    def test_nothing_broke(self):
        self.assertEqual(tick(800, 100, 0, 200, 100, 700), [800, 20, 180, 0])

    def test_all_broke(self):
        self.assertEqual(tick(800, 100, 1000, 200, 100, 700), [0, 20, 180, 800])

    def test_nothing_fed(self):
        # 300 together: paper 240, left 60; lost 6, water 54; broke 12, sold 228.
        self.assertEqual(tick(800, 100, 50, 200, 100, 0), [228, 6, 54, 12])

    def test_nothing_fed_to_an_empty_loop(self):
        self.assertEqual(tick(800, 100, 50, 0, 0, 0), [0, 0, 0, 0])

    def test_nothing_set(self):
        self.assertEqual(tick(0, 0, 0, 200, 100, 700), [0, 0, 1000, 0])
        self.assertEqual(tick(0, 0, 0, 0, 0, 0), [0, 0, 0, 0])

    def test_one_kilogram(self):
        cases = (
            ((999, 999, 999), [0, 0, 1, 0]),
            ((999, 1000, 999), [0, 1, 0, 0]),
            ((0, 0, 1000), [0, 0, 1, 0]),
            ((1000, 1000, 999), [1, 0, 0, 0]),
            ((1000, 0, 1000), [0, 0, 0, 1]),
        )
        for thousandths, answer in cases:
            for w, r, a in ((1, 0, 0), (0, 1, 0), (0, 0, 1)):
                with self.subTest(thousandths=thousandths, w=w, r=r, a=a):
                    self.assertEqual(tick(*thousandths, w, r, a), answer)


class Edges(unittest.TestCase):
    def check(self, cases):
        for place, number, answer in cases:
            with self.subTest(name=NAMES[place], number=number):
                self.assertEqual(tick(*with_number(ORDINARY, place, number)), answer)

    def test_keep(self):
        self.check(((0, 0, [0, 100, 900, 0]), (0, 1000, [950, 0, 0, 50]), (0, 1001, [-22])))

    def test_lose(self):
        self.check(((1, 0, [760, 0, 200, 40]), (1, 1000, [760, 200, 0, 40]), (1, 1001, [-22])))

    def test_broke(self):
        self.check(((2, 0, [800, 20, 180, 0]), (2, 1000, [0, 20, 180, 800]), (2, 1001, [-22])))

    def test_water(self):
        # 800 together: paper 640, left 160; lost 16, water 144; broke 32, sold 608.
        # 1000800 together: paper 800640, left 200160; lost 20016, water 180144; broke 40032, sold 760608.
        self.check((
            (3, 0, [608, 16, 144, 32]),
            (3, 1000000, [760608, 20016, 180144, 40032]),
            (3, 1000001, [-22]),
        ))

    def test_broke_in_the_loop(self):
        # 900 together: paper 720, left 180; lost 18, water 162; broke 36, sold 684.
        # 1000900 together: paper 800720, left 200180; lost 20018, water 180162; broke 40036, sold 760684.
        self.check((
            (4, 0, [684, 18, 162, 36]),
            (4, 1000000, [760684, 20018, 180162, 40036]),
            (4, 1000001, [-22]),
        ))

    def test_fed(self):
        # 300 together: paper 240, left 60; lost 6, water 54; broke 12, sold 228.
        # 100300 together: paper 80240, left 20060; lost 2006, water 18054; broke 4012, sold 76228.
        self.check((
            (5, 0, [228, 6, 54, 12]),
            (5, 100000, [76228, 2006, 18054, 4012]),
            (5, 100001, [-22]),
        ))

    def test_all_at_their_bounds(self):
        self.assertEqual(tick(*BOUNDS), [0, 0, 0, 2100000])


class WrongInputs(unittest.TestCase):
    def test_each_above_its_bound_alone(self):
        for base in (ORDINARY, (0, 0, 0, 0, 0, 0), BOUNDS):
            for place, bound in enumerate(BOUNDS):
                for number in (bound + 1, bound * 2, 2147483648, HIGHEST):
                    with self.subTest(base=base, name=NAMES[place], number=number):
                        self.assertEqual(tick(*with_number(base, place, number)), [-22])

    def test_several_above_their_bounds(self):
        for first in range(len(BOUNDS)):
            for second in range(first + 1, len(BOUNDS)):
                numbers = with_number(ORDINARY, first, BOUNDS[first] + 1)
                numbers = with_number(numbers, second, HIGHEST)
                with self.subTest(first=NAMES[first], second=NAMES[second]):
                    self.assertEqual(tick(*numbers), [-22])

    def test_all_above_their_bounds(self):
        self.assertEqual(tick(*[bound + 1 for bound in BOUNDS]), [-22])
        self.assertEqual(tick(*[HIGHEST] * 6), [-22])


class WhatHolds(unittest.TestCase):
    def test_what_is_fed_and_was_in_the_loop_is_sold_lost_or_in_the_loop(self):
        for setting in SETTINGS:
            for w, r, a in ((0, 0, 0), (0, 0, 777), (20, 11, 70), (1000000, 999999, 0), (1000000, 999999, 100000)):
                with self.subTest(setting=setting, w=w, r=r, a=a):
                    answer = tick(*setting, w, r, a)
                    self.assertEqual(sum(answer), w + r + a)
                    self.assertGreaterEqual(min(answer), 0)

    def test_more_fed_no_less_sold(self):
        for setting in SETTINGS:
            for w, r in ((0, 0), (20, 11), (1000000, 999999)):
                with self.subTest(setting=setting, w=w, r=r):
                    sold = [tick(*setting, w, r, a)[0] for a in (*range(60), 999, 1000, 1001, 99999, 100000)]
                    self.assertEqual(sold, sorted(sold))

    def test_from_an_empty_loop_on_never_less_in_it_than_before(self):
        for setting in SETTINGS:
            for a in (0, 1, 777):
                with self.subTest(setting=setting, a=a):
                    w, r = 0, 0
                    inside = [0]
                    for _ in range(40):
                        w, r = tick(*setting, w, r, a)[2:]
                        inside.append(w + r)
                    self.assertEqual(inside, sorted(inside))


class Answers(unittest.TestCase):
    def test_a_list_of_whole_numbers(self):
        for numbers, length in ((ORDINARY, 4), ((0, 0, 0, 0, 0, 0), 4), ((1001, 0, 0, 0, 0, 0), 1)):
            with self.subTest(numbers=numbers):
                check_kinds(self, tick, numbers, length)

    def test_a_second_call_gives_the_same_in_a_list_of_its_own(self):
        for numbers, answer in ((ORDINARY, [760, 20, 180, 40]), ((1001, 0, 0, 0, 0, 0), [-22])):
            with self.subTest(numbers=numbers):
                check_second_call(self, tick, numbers, answer)

    def test_a_call_between_changes_nothing(self):
        self.assertEqual(tick(*ORDINARY), [760, 20, 180, 40])
        self.assertEqual(tick(333, 333, 333, 20, 11, 70), [23, 22, 46, 10])
        self.assertEqual(tick(1001, 0, 0, 0, 0, 0), [-22])
        self.assertEqual(tick(*ORDINARY), [760, 20, 180, 40])


if __name__ == "__main__":
    unittest.main()
